/-
  The first word of a line; the program answers; the laws LineWord and LineReads.
-/
import Derived.Test.YtpjjmnkiepdllaaGreatDoorLiH
import Derived.Test.YtpjjmnkiepdllaaGreatDoorLiD
namespace Go.Proofs.YtpjjmnkiepdllaaGreatDoor
open Go.RowKit
set_option linter.unusedVariables false
set_option linter.unusedSimpArgs false

/-- The first word of a line. -/
def headW (l : List UInt8) : List UInt8 := (lineW l).headD []

set_option maxRecDepth 100000 in
set_option maxHeartbeats 1000000 in
theorem lword_any (s : ByteArray) (hs : s.size ≤ 10000) (W : World) (hM : MV W) :
    Calls Tryz.prog 12 #[.string s] W fun e W' => e = .returned (.string ⟨(headW s.data.toList).toArray⟩) ∧ Below W.heap.size W W' := by
  have hWd := fun w h => words_any s hs w h
  unfold headW
  generalize lineE s.data.toList = x at hWd
  cases hL : lineW s.data.toList with
  | nil =>
    rw [hL] at hWd
    clear hL
    go_enter Tryz.func12, Tryz.ntmps12
    go_wp2_with fail
    refine (hWd _ hM).mono ?_
    rintro e W1 ⟨v1, rfl, A1, n1, c1, rfl, hv1, hb1⟩
    obtain rfl : n1 = 0 := by have := hv1.1; simpa [wsV] using this.symm
    clear hWd hv1
    go_wp2_with fail
    go_ret
    exact ⟨rfl, hb1⟩
  | cons w ws =>
    rw [hL] at hWd
    clear hL
    go_enter Tryz.func12, Tryz.ntmps12
    go_wp2_with fail
    refine (hWd _ hM).mono ?_
    rintro e W1 ⟨v1, rfl, A1, n1, c1, rfl, hv1, hb1⟩
    obtain ⟨m, rfl⟩ : ∃ m, n1 = m + 1 := ⟨ws.length, by have := hv1.1; simp [wsV] at this; omega⟩
    have d1 : (((m : Nat) : Int) + 1 == 0) = false := by simp; omega
    obtain ⟨b, o, x1, rfl, hbB, hx, hc⟩ := hv1.at_ (k := 0) (by omega)
    obtain rfl : x1 = .string ⟨w.toArray⟩ := by simpa [wsV] using hx.symm
    rw [Nat.add_zero] at hc
    clear hWd hv1 hx
    go_wp2_with fail
    go_ret
    exact ⟨rfl, hb1⟩

set_option maxRecDepth 100000 in
set_option maxHeartbeats 2000000 in
theorem awake8_any (W : World) (hM : MV W) (hN : NV W) :
    Calls Tryz.prog 5 #[] W fun e W' => e = .returned (.bool true) ∧ Below W.heap.size W W' := by
  have hR := lread_any ⟨#[99, 97, 112, 32, 97, 99, 109, 101, 32, 49, 48, 48]⟩ ⟨#[99, 97, 112]⟩ ⟨#[116, 110]⟩ (by decide) (by decide) W hM hN
  have h0 : checkE (⟨#[99, 97, 112, 32, 97, 99, 109, 101, 32, 49, 48, 48]⟩ : ByteArray).data.toList (⟨#[99, 97, 112]⟩ : ByteArray).data.toList (⟨#[116, 110]⟩ : ByteArray).data.toList = 0 := by decide +kernel
  have h1 : readL (⟨#[116, 110]⟩ : ByteArray).data.toList (lineW (⟨#[99, 97, 112, 32, 97, 99, 109, 101, 32, 49, 48, 48]⟩ : ByteArray).data.toList).tail = [⟨[97, 99, 109, 101], 0, []⟩, ⟨[], 100, []⟩] := by kernel_rfl
  have hWr := fun w h => lword_any ⟨#[97, 32, 98]⟩ (by decide) w h
  have h2 : headW (⟨#[97, 32, 98]⟩ : ByteArray).data.toList = [97] := by decide +kernel
  rw [h2] at hWr
  have H0 := Lib.hid h0
  have H1 := Lib.hid h1
  clear h0 h1 h2
  go_enter Tryz.func5, Tryz.ntmps5
  go_wp2_with fail
  refine hR.mono ?_
  rintro e W1 ⟨A, n, c, he, _, hok, hb1⟩
  rw [H0.out] at he
  subst he
  obtain ⟨hfl, hn, _, _⟩ := hok H0.out
  rw [H1.out] at hfl
  obtain rfl : n = 2 := hn
  obtain ⟨b, o, rfl, hbB, hfa⟩ := hfl.2 (by omega)
  obtain ⟨cs0, _, hr0, A0, n0, c0, hv0, _⟩ := hfa 0 _ rfl
  obtain ⟨cs1, _, hr1, A1, n1, c1, hv1, _⟩ := hfa 1 _ rfl
  have hc0 : W1.cell? ⟨b, o, none⟩ = some (.string ⟨#[97, 99, 109, 101]⟩) := by
    have := hr0 0 _ (by
      have h := congrArg (fun v => match v with | .agg a => a[0]? | _ => none) hv0
      simpa using h)
    simpa using this
  have hc1 : W1.cell? ⟨b, o + 3 + 1, none⟩ = some (.int .u64 100) := by
    have := hr1 1 _ (by
      have h := congrArg (fun v => match v with | .agg a => a[1]? | _ => none) hv1
      simpa using h)
    simpa using this
  have hM1 := hM.below hb1
  clear hR hok hfl hfa hr0 hr1 hv0 hv1 hM hN
  go_wp2_with fail
  refine (hWr _ hM1).mono ?_
  rintro e W2 ⟨rfl, hb2⟩
  have hb := bthen hb1 hb2
  clear hb1 hb2 hWr hM1
  go_wp2_with fail
  go_ret
  exact ⟨rfl, hb⟩

theorem lineIs_cons (l : List UInt8) (w : List UInt8) (ws : List (List UInt8)) (h : lineW l = w :: ws) : lineIs l = true := by
  unfold lineW at h
  unfold lineIs
  cases hw : wordsL l with
  | none => rw [hw] at h; cases h
  | some x => rfl

end Go.Proofs.YtpjjmnkiepdllaaGreatDoor
