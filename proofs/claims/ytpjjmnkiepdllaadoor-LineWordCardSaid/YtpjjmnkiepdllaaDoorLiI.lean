/-
  The first word of a line; the program answers; the laws LineWord and LineReads.
-/
import Derived.Test.YtpjjmnkiepdllaaDoorLiH
import Derived.Test.YtpjjmnkiepdllaaDoorLiD
namespace Go.Proofs.YtpjjmnkiepdllaaDoor
open Go.RowKit
set_option linter.unusedVariables false
set_option linter.unusedSimpArgs false

/-- The first word of a line. -/
def headW (l : List UInt8) : List UInt8 := (lineW l).headD []

set_option maxRecDepth 100000 in
set_option maxHeartbeats 1000000 in
theorem lword_any (s : ByteArray) (hs : s.size ≤ 10000) (W : World) (hM : MV W) :
    Calls Tryd.prog 10 #[.string s] W fun e W' => e = .returned (.string ⟨(headW s.data.toList).toArray⟩) ∧ Below W.heap.size W W' := by
  have hWd := fun w h => words_any s hs w h
  unfold headW
  generalize lineE s.data.toList = x at hWd
  cases hL : lineW s.data.toList with
  | nil =>
    rw [hL] at hWd
    clear hL
    go_enter Tryd.func10, Tryd.ntmps10
    go_wp2_with fail
    refine (hWd _ hM).mono ?_
    rintro e W1 ⟨v1, rfl, A1, n1, c1, rfl, hv1, hb1⟩
    obtain rfl : n1 = 0 := by have := hv1.1; simpa [wsV] using this.symm
    clear hWd hv1
    go_wp2_with fail
    go_ret
    exact ⟨rfl, hb1⟩
  | cons w ws =>
    rw [hL] at hWd
    clear hL
    go_enter Tryd.func10, Tryd.ntmps10
    go_wp2_with fail
    refine (hWd _ hM).mono ?_
    rintro e W1 ⟨v1, rfl, A1, n1, c1, rfl, hv1, hb1⟩
    obtain ⟨m, rfl⟩ : ∃ m, n1 = m + 1 := ⟨ws.length, by have := hv1.1; simp [wsV] at this; omega⟩
    have d1 : (((m : Nat) : Int) + 1 == 0) = false := by simp; omega
    obtain ⟨b, o, x1, rfl, hbB, hx, hc⟩ := hv1.at_ (k := 0) (by omega)
    obtain rfl : x1 = .string ⟨w.toArray⟩ := by simpa [wsV] using hx.symm
    rw [Nat.add_zero] at hc
    clear hWd hv1 hx
    go_wp2_with fail
    go_ret
    exact ⟨rfl, hb1⟩

set_option maxRecDepth 100000 in
set_option maxHeartbeats 2000000 in
theorem awake8_any (W : World) (hM : MV W) (hN : NV W) :
    Calls Tryd.prog 5 #[] W fun e W' => e = .returned (.bool true) ∧ Below W.heap.size W W' := by
  have hR := lread_any ⟨#[99, 97, 112, 32, 97, 99, 109, 101, 32, 49, 48, 48]⟩ ⟨#[99, 97, 112]⟩ ⟨#[116, 110]⟩ (by decide) (by decide) W hM hN
  have h0 : checkE (⟨#[99, 97, 112, 32, 97, 99, 109, 101, 32, 49, 48, 48]⟩ : ByteArray).data.toList (⟨#[99, 97, 112]⟩ : ByteArray).data.toList (⟨#[116, 110]⟩ : ByteArray).data.toList = 0 := by decide +kernel
  have h1 : readL (⟨#[116, 110]⟩ : ByteArray).data.toList (lineW (⟨#[99, 97, 112, 32, 97, 99, 109, 101, 32, 49, 48, 48]⟩ : ByteArray).data.toList).tail = [⟨[97, 99, 109, 101], 0, []⟩, ⟨[], 100, []⟩] := by kernel_rfl
  have hWr := fun w h => lword_any ⟨#[97, 32, 98]⟩ (by decide) w h
  have h2 : headW (⟨#[97, 32, 98]⟩ : ByteArray).data.toList = [97] := by decide +kernel
  rw [h2] at hWr
  have H0 := Lib.hid h0
  have H1 := Lib.hid h1
  clear h0 h1 h2
  go_enter Tryd.func5, Tryd.ntmps5
  go_wp2_with fail
  refine hR.mono ?_
  rintro e W1 ⟨A, n, c, he, _, hok, hb1⟩
  rw [H0.out] at he
  subst he
  obtain ⟨hfl, hn, _, _⟩ := hok H0.out
  rw [H1.out] at hfl
  obtain rfl : n = 2 := hn
  obtain ⟨b, o, rfl, hbB, hfa⟩ := hfl.2 (by omega)
  obtain ⟨cs0, _, hr0, A0, n0, c0, hv0, _⟩ := hfa 0 _ rfl
  obtain ⟨cs1, _, hr1, A1, n1, c1, hv1, _⟩ := hfa 1 _ rfl
  have hc0 : W1.cell? ⟨b, o, none⟩ = some (.string ⟨#[97, 99, 109, 101]⟩) := by
    have := hr0 0 _ (by
      have h := congrArg (fun v => match v with | .agg a => a[0]? | _ => none) hv0
      simpa using h)
    simpa using this
  have hc1 : W1.cell? ⟨b, o + 3 + 1, none⟩ = some (.int .u64 100) := by
    have := hr1 1 _ (by
      have h := congrArg (fun v => match v with | .agg a => a[1]? | _ => none) hv1
      simpa using h)
    simpa using this
  have hM1 := hM.below hb1
  clear hR hok hfl hfa hr0 hr1 hv0 hv1 hM hN
  go_wp2_with fail
  refine (hWr _ hM1).mono ?_
  rintro e W2 ⟨rfl, hb2⟩
  have hb := bthen hb1 hb2
  clear hb1 hb2 hWr hM1
  go_wp2_with fail
  go_ret
  exact ⟨rfl, hb⟩

theorem lineIs_cons (l : List UInt8) (w : List UInt8) (ws : List (List UInt8)) (h : lineW l = w :: ws) : lineIs l = true := by
  unfold lineW at h
  unfold lineIs
  cases hw : wordsL l with
  | none => rw [hw] at h; cases h
  | some x => rfl

set_option maxRecDepth 100000 in
set_option maxHeartbeats 4000000 in
theorem lineWord_law (s : ByteArray) (W : World) (hs : s.size ≤ maxLen) (hM : MV W) (hN : NV W) :
    Calls Tryd.prog 4 #[.string s] W fun e W' => e = .returned (.bool true) ∧ Below W.heap.size W W' := by
  unfold maxLen at hs
  by_cases h300 : 300 < s.size
  · have d1 : decide ((300 : Int) < (s.size : Int)) = true := decide_eq_true (by omega)
    go_enter Tryd.func4, Tryd.ntmps4
    go_wp2_with fail
    refine (awake8_any _ hM hN).mono ?_
    rintro e W1 ⟨rfl, hb1⟩
    go_wp2_with fail
    go_ret
    exact ⟨rfl, hb1⟩
  · have d1 : decide ((300 : Int) < (s.size : Int)) = false := decide_eq_false (by omega)
    have hRW := fun w => refWords_any s (by omega) w
    have hWr := fun w h => lword_any s (by omega) w h
    unfold headW at hWr
    cases hL : lineW s.data.toList with
    | nil =>
      rw [hL] at hRW hWr
      clear hL
      generalize lineIs s.data.toList = q at hRW
      have e0 : ((⟨([] : List UInt8).toArray⟩ : ByteArray).toList == []) = true := by rw [ByteArray.toList_eq]; rfl
      go_enter Tryd.func4, Tryd.ntmps4
      go_wp2_with fail
      refine (hRW _).mono ?_
      rintro e W1 ⟨v1, rfl, A1, n1, c1, rfl, hv1, hb1⟩
      obtain rfl : n1 = 0 := by have := hv1.1; simpa [wsV] using this.symm
      have hM1 := hM.below hb1
      have hN1 := hN.below hb1
      clear hRW hv1
      cases q
      · go_wp2_with fail
        refine (hWr _ hM1).mono ?_
        rintro e W2 ⟨rfl, hb2⟩
        have hM2 := hM1.below hb2
        have hN2 := hN1.below hb2
        have hb := bthen hb1 hb2
        clear hWr hM1 hN1 hb1 hb2 hM hN
        go_wp2_with fail
        refine (awake8_any _ hM2 hN2).mono ?_
        rintro e W3 ⟨rfl, hb3⟩
        go_wp2_with fail
        go_ret
        exact ⟨rfl, bthen hb hb3⟩
      · go_wp2_with fail
        refine (hWr _ hM1).mono ?_
        rintro e W2 ⟨rfl, hb2⟩
        have hM2 := hM1.below hb2
        have hN2 := hN1.below hb2
        have hb := bthen hb1 hb2
        clear hWr hM1 hN1 hb1 hb2 hM hN
        go_wp2_with fail
        refine (awake8_any _ hM2 hN2).mono ?_
        rintro e W3 ⟨rfl, hb3⟩
        go_wp2_with fail
        go_ret
        exact ⟨rfl, bthen hb hb3⟩
    | cons w ws =>
      rw [lineIs_cons _ _ _ hL] at hRW
      rw [hL] at hRW hWr
      clear hL
      obtain ⟨X, hX⟩ : ∃ X : ByteArray, ⟨w.toArray⟩ = X := ⟨_, rfl⟩
      have hWr2 : ∀ w0 : World, MV w0 → Calls Tryd.prog 10 #[.string s] w0 fun e W' => e = .returned (.string X) ∧ Below w0.heap.size w0 W' := by
        rw [← hX]
        exact hWr
      have hXX : (X.toList == X.toList) = true := by simp
      have HX := Lib.hid hX
      clear hWr hX
      go_enter Tryd.func4, Tryd.ntmps4
      go_wp2_with fail
      refine (hRW _).mono ?_
      rintro e W1 ⟨v1, rfl, A1, n1, c1, rfl, hv1, hb1⟩
      obtain ⟨m, rfl⟩ : ∃ m, n1 = m + 1 := ⟨ws.length, by have := hv1.1; simp [wsV] at this; omega⟩
      have d2 : decide ((0 : Int) < ((m : Nat) : Int) + 1) = true := decide_eq_true (by omega)
      obtain ⟨b, o, x1, rfl, hbB, hx, hc⟩ := hv1.at_ (k := 0) (by omega)
      obtain rfl : x1 = .string X := by rw [← HX.out]; simpa [wsV] using hx.symm
      rw [Nat.add_zero] at hc
      have hM1 := hM.below hb1
      have hN1 := hN.below hb1
      clear hRW hv1 hx
      go_wp2_with fail
      refine (hWr2 _ hM1).mono ?_
      rintro e W2 ⟨rfl, hb2⟩
      have hM2 := hM1.below hb2
      have hN2 := hN1.below hb2
      have hb := bthen hb1 hb2
      clear hWr2 hM1 hN1 hb1 hb2 hM hN hc
      go_wp2_with fail
      refine (awake8_any _ hM2 hN2).mono ?_
      rintro e W3 ⟨rfl, hb3⟩
      go_wp2_with fail
      go_ret
      exact ⟨rfl, bthen hb hb3⟩

end Go.Proofs.YtpjjmnkiepdllaaDoor
