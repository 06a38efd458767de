/-
  The reference's disk: a step.
-/
import Derived.Test.YtnjkilmhphcocaaDkF
import Derived.Test.YtnjkilmhphcocaaNaG
namespace Go.Proofs.Ytnjkilmhphcocaa
open Go.RowKit
set_option linter.unusedVariables false
set_option linter.unusedSimpArgs false

/-- A step. -/
structure Sp where
  kind : Int
  name : List UInt8
  to : List UInt8
  data : List UInt8
  n : Nat
  m : Int
/-- The value of a step. -/
def spV (s : Sp) (A : Option Addr) (n c : Nat) : Value := .agg #[.int .i64 s.kind, .string ⟨s.name.toArray⟩, .string ⟨s.to.toArray⟩, .slice A n c, .int .u64 ((s.n : Nat) : Int), .int .i64 s.m]
def isCall (s : Sp) : Bool := decide (1 ≤ s.kind) && decide (s.kind ≤ 4)
def withFs (m : Dk) (l : List Fl) : Dk := ⟨l, m.cap, m.calls, m.armed, m.left, m.keep, m.down⟩
/-- The file of a name, or one without bytes. -/
def fileF (s : List UInt8) (l : List Fl) : Fl := (lookF s l).getD ⟨s, [], 0⟩
/-- What a call that begins answers, and what is there behind it. -/
def callD (m : Dk) (s : Sp) : Int × Dk :=
  if !targetB s.name || (decide (s.kind = 3) && !targetB s.to) then (7, m)
  else if s.kind = 1 then
    (if !(lookF s.name m.files).isSome && decide (1024 ≤ m.files.length) then (15, m)
    else if m.cap - sizeF m.files < (s.data.length : Int) then (10, m)
    else (0, withFs m (withF ⟨s.name, (fileF s.name m.files).data ++ s.data, (fileF s.name m.files).sure⟩ false m.files)))
  else if !(lookF s.name m.files).isSome then (8, m)
  else if s.kind = 2 then (0, withFs m (withF ⟨s.name, (fileF s.name m.files).data, (fileF s.name m.files).data.length⟩ false m.files))
  else if s.kind = 3 then (0, withFs m (withF ⟨s.to, (fileF s.name m.files).data, (fileF s.name m.files).sure⟩ false (withoutF s.name m.files)))
  else (0, withFs m (withoutF s.name m.files))
/-- A step's answer, and how the disk stands behind it. -/
def doD (m : Dk) (s : Sp) : Int × Dk :=
  if s.kind = 5 then (0, ⟨m.files, m.cap, m.calls, true, s.n, s.m, m.down⟩)
  else if s.kind = 6 then (0, crashD s.m m)
  else if s.kind = 7 then (0, ⟨m.files, m.cap, m.calls, m.armed, m.left, m.keep, false⟩)
  else if !isCall s then (0, m)
  else if (beginD m).1 then callD (beginD m).2 s else (19, (beginD m).2)
def DoPost (S : Nat → Prop) (p : Nat) (r : Int × Dk) (W : World) (e : Ending) (W' : World) : Prop := e = .returned (.int .i64 r.1) ∧ RD W' S p r.2 ∧ Turn (fun k => k = p) W W'

theorem do_arm (m : Dk) (s : Sp) (h : s.kind = 5) : doD m s = (0, ⟨m.files, m.cap, m.calls, true, s.n, s.m, m.down⟩) := by unfold doD; rw [if_pos h]
theorem do_crash (m : Dk) (s : Sp) (h : s.kind = 6) : doD m s = (0, crashD s.m m) := by unfold doD; rw [if_neg (by omega), if_pos h]
theorem do_up (m : Dk) (s : Sp) (h : s.kind = 7) : doD m s = (0, ⟨m.files, m.cap, m.calls, m.armed, m.left, m.keep, false⟩) := by unfold doD; rw [if_neg (by omega), if_neg (by omega), if_pos h]
theorem do_none (m : Dk) (s : Sp) (h : isCall s = false) (h5 : s.kind ≠ 5) (h6 : s.kind ≠ 6) (h7 : s.kind ≠ 7) : doD m s = (0, m) := by unfold doD; rw [if_neg h5, if_neg h6, if_neg h7, h]; rfl

set_option maxRecDepth 100000 in
set_option maxHeartbeats 2000000 in
/-- A step that is no call. -/
theorem rdo_other (S : Nat → Prop) (p : Nat) (m : Dk) (s : Sp) (A : Option Addr) (n c : Nat) (W : World) (h : RD W S p m) (hG : GoodD m) (hk : isCall s = false) :
    Calls Try.prog 10 #[.pointer (some ⟨p, 0, none⟩), spV s A n c] W (DoPost S p (doD m s) W) := by
  have HR := Lib.hid h
  obtain ⟨A1, n1, c1, hB, hF, hSp, hSo⟩ := h
  have hlt := hB.lt
  have HF := Lib.hid hF
  have HSO := Lib.hid (And.intro hSp hSo)
  have HB := Lib.hid hB
  have hkk : s.kind < 1 ∨ 4 < s.kind := by
    unfold isCall at hk
    simp at hk
    omega
  have HK := Lib.hid hk
  clear hB hF hSp hSo hk
  unfold spV
  obtain ⟨K, hK⟩ : ∃ K, s.kind = K := ⟨_, rfl⟩
  rw [hK] at hkk ⊢
  have hBa : ∀ i, W.cell? ⟨p, i, none⟩ = (dkL m A1 n1 c1)[i]? := HB.out.cell
  have hfz := HB.out.frozen
  by_cases h5 : K = 5
  · have HE := Lib.hid (do_arm m s (hK.trans h5))
    subst h5
    have e3 : W.cell? ⟨p, 3, none⟩ = some (.bool m.armed) := hBa 3
    have e4 : W.cell? ⟨p, 4, none⟩ = some (.int .u64 ((m.left : Nat) : Int)) := hBa 4
    have e5 : W.cell? ⟨p, 5, none⟩ = some (.int .i64 m.keep) := hBa 5
    clear hBa hkk hK
    go_enter Try.func10, Try.ntmps10
    go_wp2_with fail
    go_ret
    rw [HE.out]
    obtain ⟨hSp, hSo⟩ := HSO.out
    have ht : Turn (fun k => k = p) W (((W.setCell ⟨p, 3, none⟩ (.bool true)).setCell ⟨p, 4, none⟩ (.int .u64 ((s.n : Nat) : Int))).setCell ⟨p, 5, none⟩ (.int .i64 s.m)) := (((Turn.refl (fun k => k = p) W).setCell (p := ⟨p, 3, none⟩) rfl _).setCell (p := ⟨p, 4, none⟩) rfl _).setCell (p := ⟨p, 5, none⟩) rfl _
    have hBf := (((HB.out.set 3 (.bool true)).set 4 (.int .u64 ((s.n : Nat) : Int))).set 5 (.int .i64 s.m)).alloc (.cells #[.int .i64 5, .string ⟨s.name.toArray⟩, .string ⟨s.to.toArray⟩, .slice A n c, .int .u64 ((s.n : Nat) : Int), .int .i64 s.m] 36)
    have ht2 := ht.alloc (.cells #[.int .i64 5, .string ⟨s.name.toArray⟩, .string ⟨s.to.toArray⟩, .slice A n c, .int .u64 ((s.n : Nat) : Int), .int .i64 s.m] 36)
    exact ⟨rfl, ⟨A1, n1, c1, hBf, HF.out.turn (ht2.mono fun k hk => by rw [hk]; exact hSp), hSp, fun k hk => Nat.lt_of_lt_of_le (hSo k hk) ht2.size⟩, ht2⟩
  by_cases h6 : K = 6
  · have HE := Lib.hid (do_crash m s (hK.trans h6))
    subst h6
    have ht0 : Turn (fun k => k = p) W (W.alloc (.cells #[.int .i64 6, .string ⟨s.name.toArray⟩, .string ⟨s.to.toArray⟩, .slice A n c, .int .u64 ((s.n : Nat) : Int), .int .i64 s.m] 36)) := (Turn.refl _ W).alloc _
    have hCr := rcrash_any S p m s.m _ (HR.out.turn (S' := fun _ => False) ((Turn.refl (fun _ => False) W).alloc (.cells #[.int .i64 6, .string ⟨s.name.toArray⟩, .string ⟨s.to.toArray⟩, .slice A n c, .int .u64 ((s.n : Nat) : Int), .int .i64 s.m] 36)) (fun k hk => hk.elim) (fun hk => hk)) hG
    have b0 : (W.alloc (.cells #[.int .i64 6, .string ⟨s.name.toArray⟩, .string ⟨s.to.toArray⟩, .slice A n c, .int .u64 ((s.n : Nat) : Int), .int .i64 s.m] 36)).cell? ⟨W.heap.size, 0, none⟩ = some (.int .i64 6) := (Blk.new W 36 (cs := [.int .i64 6, .string ⟨s.name.toArray⟩, .string ⟨s.to.toArray⟩, .slice A n c, .int .u64 ((s.n : Nat) : Int), .int .i64 s.m]) _ rfl).cell 0
    have HB0 := Lib.hid b0
    have HT0 := Lib.hid ht0
    clear hBa hkk hK b0 ht0
    go_enter Try.func10, Try.ntmps10
    go_wp2_with fail
    refine hCr.mono ?_
    rintro e W1 ⟨rfl, hr1, ht1⟩
    have c0 : W1.cell? ⟨W.heap.size, 0, none⟩ = some (.int .i64 6) := ht1.at_ HB0.out (by
      show ¬ W.heap.size = p
      omega)
    have HX := Lib.hid (And.intro hr1 ht1)
    clear hCr hr1 ht1
    go_wp2_with fail
    go_ret
    rw [HE.out]
    exact ⟨rfl, HX.out.1, HT0.out.trans HX.out.2⟩
  by_cases h7 : K = 7
  · have HE := Lib.hid (do_up m s (hK.trans h7))
    subst h7
    have e6 : W.cell? ⟨p, 6, none⟩ = some (.bool m.down) := hBa 6
    clear hBa hkk hK
    go_enter Try.func10, Try.ntmps10
    go_wp2_with fail
    go_ret
    rw [HE.out]
    obtain ⟨hSp, hSo⟩ := HSO.out
    have ht : Turn (fun k => k = p) W (W.setCell ⟨p, 6, none⟩ (.bool false)) := (Turn.refl (fun k => k = p) W).setCell (p := ⟨p, 6, none⟩) rfl _
    have hBf := (HB.out.set 6 (.bool false)).alloc (.cells #[.int .i64 7, .string ⟨s.name.toArray⟩, .string ⟨s.to.toArray⟩, .slice A n c, .int .u64 ((s.n : Nat) : Int), .int .i64 s.m] 36)
    have ht2 := ht.alloc (.cells #[.int .i64 7, .string ⟨s.name.toArray⟩, .string ⟨s.to.toArray⟩, .slice A n c, .int .u64 ((s.n : Nat) : Int), .int .i64 s.m] 36)
    exact ⟨rfl, ⟨A1, n1, c1, hBf, HF.out.turn (ht2.mono fun k hk => by rw [hk]; exact hSp), hSp, fun k hk => Nat.lt_of_lt_of_le (hSo k hk) ht2.size⟩, ht2⟩
  have HE := Lib.hid (do_none m s HK.out (by omega) (by omega) (by omega))
  have d1 : (decide (K < 1) || decide (4 < K)) = true := by
    rcases hkk with h | h <;> simp [h]
  have d5 : (K == 5) = false := by simpa using h5
  have d6 : (K == 6) = false := by simpa using h6
  have d7 : (K == 7) = false := by simpa using h7
  clear hBa hK
  rcases hkk with hk | hk
  · have d2 : decide (K < 1) = true := decide_eq_true hk
    clear hk
    go_enter Try.func10, Try.ntmps10
    go_wp2_with fail
    go_ret
    rw [HE.out]
    exact ⟨rfl, HR.out.turn (S' := fun _ => False) ((Turn.refl (fun _ => False) W).alloc _) (fun k hk => hk.elim) (fun hk => hk), (Turn.refl _ W).alloc _⟩
  · have d2 : decide (K < 1) = false := decide_eq_false (by omega)
    have d3 : decide (K > 4) = true := decide_eq_true hk
    have d4 : decide (4 < K) = true := decide_eq_true hk
    clear hk
    go_enter Try.func10, Try.ntmps10
    go_wp2_with fail
    go_ret
    rw [HE.out]
    exact ⟨rfl, HR.out.turn (S' := fun _ => False) ((Turn.refl (fun _ => False) W).alloc _) (fun k hk => hk.elim) (fun hk => hk), (Turn.refl _ W).alloc _⟩

end Go.Proofs.Ytnjkilmhphcocaa
