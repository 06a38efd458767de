/-
  Package line: the fields of a line.
-/
import Derived.Test.YtpjjmnkiepdllaaGreatDoorLiB
import Derived.Test.YtpjjmnkiepdllaaGreatDoorMid
namespace Go.Proofs.YtpjjmnkiepdllaaGreatDoor
open Go.RowKit
set_option linter.unusedVariables false
set_option linter.unusedSimpArgs false

/-- Fields that lie one behind the other. -/
def FdsAt (w : World) (B b o : Nat) (fs : List Fd) : Prop := ∀ (j : Nat) (f : Fd), fs[j]? = some f → ∃ cs : List Value, cs.length = 3 ∧ w.rangeAt b (o + j * 3) cs ∧ FdV w B (.agg cs.toArray) f
/-- The slice value '.slice A n c' reads as the fields fs, in blocks below B. -/
def Flds (w : World) (B : Nat) (A : Option Addr) (n : Nat) (fs : List Fd) : Prop :=
  fs.length = n ∧ (0 < n → ∃ b o, A = some ⟨b, o, none⟩ ∧ b < B ∧ FdsAt w B b o fs)
theorem FdsAt.below {w w' : World} {B b o : Nat} {fs : List Fd} (h : FdsAt w B b o fs) (hb : Below B w w') (hlt : b < B) : FdsAt w' B b o fs := fun j f hf => by
  obtain ⟨cs, h1, h2, h3⟩ := h j f hf
  exact ⟨cs, h1, rangeAt_below h2 hb hlt, h3.below hb⟩
theorem FdsAt.more {w : World} {B B' b o : Nat} {fs : List Fd} (h : FdsAt w B b o fs) (hB : B ≤ B') : FdsAt w B' b o fs := fun j f hf => by
  obtain ⟨cs, h1, h2, h3⟩ := h j f hf
  exact ⟨cs, h1, h2, h3.more hB⟩
theorem Flds.below {w w' : World} {B n : Nat} {A : Option Addr} {fs : List Fd} (h : Flds w B A n fs) (hb : Below B w w') : Flds w' B A n fs :=
  ⟨h.1, fun hn => by
    obtain ⟨b, o, e, hlt, hf⟩ := h.2 hn
    exact ⟨b, o, e, hlt, hf.below hb hlt⟩⟩
theorem Flds.more {w : World} {B B' n : Nat} {A : Option Addr} {fs : List Fd} (h : Flds w B A n fs) (hB : B ≤ B') : Flds w B' A n fs :=
  ⟨h.1, fun hn => by
    obtain ⟨b, o, e, hlt, hf⟩ := h.2 hn
    exact ⟨b, o, e, Nat.lt_of_lt_of_le hlt hB, hf.more hB⟩⟩
theorem Flds.nil {w : World} {B : Nat} {A : Option Addr} : Flds w B A 0 [] := ⟨rfl, fun h => absurd h (by omega)⟩

/-- What the fields of a line are behind a call. -/
def ReadOut (s word pat : List UInt8) (W : World) (e : Ending) (W' : World) : Prop :=
  ∃ A n c, e = .returned (.tuple #[.slice A n c, .int .i64 (checkE s word pat)]) ∧ (checkE s word pat ≠ 0 → A = none ∧ n = 0 ∧ c = 0) ∧
    (checkE s word pat = 0 → Flds W' W'.heap.size A n (readL pat (lineW s).tail) ∧ n = pat.length ∧ n ≤ c ∧ c ≤ maxLen) ∧ Below W.heap.size W W'
theorem readOut_bad {s word pat : List UInt8} {W W' : World} {x : Int} (h : checkE s word pat = x) (hx : x ≠ 0) (hb : Below W.heap.size W W') : ReadOut s word pat W (.returned (.tuple #[.slice none 0 0, .int .i64 x])) W' := by
  subst h
  exact ⟨none, 0, 0, rfl, fun _ => ⟨rfl, rfl, rfl⟩, fun h => absurd h hx, hb⟩
theorem checkE_no {s word pat : List UInt8} (h : lfitsB s word pat = false) : checkE s word pat = 2 := by
  unfold checkE
  rw [h, if_neg (by decide)]

set_option maxRecDepth 100000 in
set_option maxHeartbeats 2000000 in
/-- A line that does not fit. -/
theorem lread_bad (s word pat : ByteArray) (hs : s.size ≤ 10000) (hp : pat.size ≤ 10000) (W : World) (hM : MV W) (h : lfitsB s.data.toList word.data.toList pat.data.toList = false) :
    Calls Tryz.prog 9 #[.string s, .string word, .string pat] W (ReadOut s.data.toList word.data.toList pat.data.toList W) := by
  have HX := Lib.hid (checkE_no h)
  have hWd := fun w h => words_any s hs w h
  have hP := fun w => isPattern_any pat w
  have hpl : pat.data.toList.length = pat.size := by simp
  unfold lfitsB at h
  by_cases hi : lineIs s.data.toList = true
  · have hE : lineE s.data.toList = 0 := by unfold lineIs at hi; unfold lineE; rw [hi]; rfl
    rw [hE] at hWd
    rw [hi, Bool.true_and] at h
    cases hq : isPat pat.data.toList
    · rw [hq] at hP
      clear h hi hE hq
      go_enter Tryz.func9, Tryz.ntmps9
      go_wp2_with fail
      refine (hWd _ hM).mono ?_
      rintro e W1 ⟨v1, rfl, A1, n1, c1, rfl, hv1, hb1⟩
      clear hv1
      go_wp2_with fail
      refine (hP _).mono ?_
      rintro e W2 ⟨rfl, hb2⟩
      have hb := bthen hb1 hb2
      clear hb1 hb2 hWd hP hM
      go_wp2_with fail
      go_ret2
      exact readOut_bad HX.out (by decide) hb
    · rw [hq] at hP h
      rw [Bool.true_and] at h
      clear hi hE hq
      generalize lineW s.data.toList = L at hWd h
      by_cases hl : L.length = pat.size + 1
      · rw [hpl, decide_eq_true hl, Bool.true_and] at h
        obtain ⟨w0, ws, rfl⟩ : ∃ w0 ws, L = w0 :: ws := by
          cases L with
          | nil => simp at hl
          | cons a b => exact ⟨a, b, rfl⟩
        have hne : (w0 == word.toList) = false := by
          have h2 : decide (w0 = word.data.toList) = false := h
          rw [ByteArray.toList_eq]
          simpa using h2
        go_enter Tryz.func9, Tryz.ntmps9
        go_wp2_with fail
        refine (hWd _ hM).mono ?_
        rintro e W1 ⟨v1, rfl, A1, n1, c1, rfl, hv1, hb1⟩
        have hn1 : n1 = pat.size + 1 := by have := hv1.1; simp [wsV] at this; simp at hl; omega
        subst hn1
        go_wp2_with fail
        refine (hP _).mono ?_
        rintro e W2 ⟨rfl, hb2⟩
        have hb := bthen hb1 hb2
        obtain ⟨b, o, x, rfl, hbB, hx, hc⟩ := (hv1.below hb2).at_ (k := 0) (by omega)
        obtain rfl : x = .string ⟨w0.toArray⟩ := by simpa [wsV] using hx.symm
        clear hb1 hb2 hWd hP hM hv1 h hl hx hpl
        rw [Nat.add_zero] at hc
        go_wp2_with fail
        clear hc hne hbB
        go_ret2
        exact readOut_bad HX.out (by decide) hb
      · have hl2 : (((L.length : Nat) : Int) != 1 + ((pat.size : Nat) : Int)) = true := by simp; omega
        clear h
        go_enter Tryz.func9, Tryz.ntmps9
        go_wp2_with fail
        refine (hWd _ hM).mono ?_
        rintro e W1 ⟨v1, rfl, A1, n1, c1, rfl, hv1, hb1⟩
        have hn1 : n1 = L.length := by have := hv1.1; simp [wsV] at this; omega
        subst hn1
        go_wp2_with fail
        refine (hP _).mono ?_
        rintro e W2 ⟨rfl, hb2⟩
        have hb := bthen hb1 hb2
        clear hb1 hb2 hWd hP hM hv1 hpl hl
        go_wp2_with fail
        go_ret2
        exact readOut_bad HX.out (by decide) hb
  · have hE : lineE s.data.toList = 2 := by
      unfold lineIs at hi
      unfold lineE
      rw [if_neg hi]
    rw [hE] at hWd
    clear h hi hE hP
    go_enter Tryz.func9, Tryz.ntmps9
    go_wp2_with fail
    refine (hWd _ hM).mono ?_
    rintro e W1 ⟨v1, rfl, A1, n1, c1, rfl, hv1, hb1⟩
    clear hWd hM hv1 hpl
    go_wp2_with fail
    go_ret2
    exact readOut_bad HX.out (by decide) hb1

end Go.Proofs.YtpjjmnkiepdllaaGreatDoor
