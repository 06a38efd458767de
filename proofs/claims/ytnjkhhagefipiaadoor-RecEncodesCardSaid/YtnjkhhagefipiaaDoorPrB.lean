/-
  Walks of package price: Due, Check, Over, Add; the parts of any number; the reference's Add.
-/
import Derived.Test.YtnjkhhagefipiaaDoorPrA
namespace Go.Proofs.YtnjkhhagefipiaaDoor
open Go.RowKit
set_option linter.unusedVariables false
set_option linter.unusedSimpArgs false

theorem parts_any (b : Nat) (hb : b < 18446744073709551616) (W : World) (hT : DK W) :
    Calls Tryd.prog 48 #[.int .u64 b] W fun e W' => e = .returned (.tuple #[.int .u64 (partsM b : Nat), .int .i64 (partsE b), .bool (partsIs b)]) ∧ W = W' := by
  obtain ⟨s0, s1, s2, s3, s4, s5, s6⟩ := cls_says b hb
  by_cases h5 : cls b = 5
  · obtain ⟨g0, g1⟩ := s5 h5
    unfold partsM partsE partsIs
    rw [if_pos h5, if_pos h5, decide_eq_true (.inr (.inr h5))]
    exact parts_yes b g0 g1 h5 W hT
  · unfold partsM partsE partsIs
    rw [if_neg h5, if_neg h5]
    by_cases h34 : cls b = 3 ∨ cls b = 4
    · rw [decide_eq_true (by omega)]
      exact parts_no b (cls b) W true (class_any b hb) (.inl ⟨h34, rfl⟩)
    · rw [decide_eq_false (by omega)]
      exact parts_no b (cls b) W false (class_any b hb) (.inr ⟨by rcases cls_le b with h | h | h | h | h | h | h <;> omega, rfl⟩)

theorem partsM_lt (b : Nat) (hb : b < 18446744073709551616) : partsM b < 9007199254740992 := by
  obtain ⟨s0, s1, s2, s3, s4, s5, s6⟩ := cls_says b hb
  unfold partsM
  split
  · exact Nat.lt_of_le_of_lt (Nat.div_le_self _ _) (mg_lt b)
  · decide

theorem partsE_in (b : Nat) (hb : b < 18446744073709551616) : -1074 ≤ partsE b ∧ partsE b ≤ 2000 := by
  obtain ⟨s0, s1, s2, s3, s4, s5, s6⟩ := cls_says b hb
  unfold partsE
  split
  · rename_i h
    obtain ⟨g0, g1⟩ := s5 h
    have h1 := (od_spec b g0).2.2
    have h2 : ex b ≤ 2045 := by unfold ex; omega
    omega
  · omega

theorem due_parts (n b : Nat) : capM (scale (n * partsM b) (partsE b)) = dueV n b := by
  unfold partsM partsE dueV
  by_cases h : cls b = 5
  · rw [if_pos h, if_pos h, if_pos h]
  · rw [if_neg h, if_neg h, if_neg h]
    unfold scale
    rw [if_pos (by omega), Nat.mul_zero, Nat.zero_mul]
    rfl

theorem check_yes (b : Nat) (hb : b < 18446744073709551616) (hq : partsIs b = true) (W : World) (hT : DK W) :
    Calls Tryd.prog 39 #[.int .u64 b] W fun e W' => e = .returned (.tuple #[.int .u64 (canonV b : Nat), .int .i64 0]) ∧ W = W' := by
  have cp := parts_any b hb W hT
  rw [hq] at cp
  have hm := partsM_lt b hb
  obtain ⟨he0, he1⟩ := partsE_in b hb
  have cc := fun W => canon_any b hb W
  clear hq
  generalize partsM b = m at cp hm
  generalize partsE b = p at cp he0 he1
  generalize canonV b = c at cc ⊢
  go_enter Tryd.func39, Tryd.ntmps39
  go_wp2_with (first | (go_at_call 48; refine cp.mono ?_; rintro e w' ⟨rfl, rfl⟩) | (go_at_call 49; refine (cc _).mono ?_; rintro e w' ⟨rfl, rfl⟩))
  go_ret2
  exact ⟨rfl, rfl⟩

theorem check_no (b : Nat) (hb : b < 18446744073709551616) (hq : partsIs b = false) (W : World) (hT : DK W) :
    Calls Tryd.prog 39 #[.int .u64 b] W fun e W' => e = .returned (.tuple #[.int .u64 0, .int .i64 13]) ∧ W = W' := by
  have cp := parts_any b hb W hT
  rw [hq] at cp
  have hm := partsM_lt b hb
  obtain ⟨he0, he1⟩ := partsE_in b hb
  clear hq
  generalize partsM b = m at cp hm
  generalize partsE b = p at cp he0 he1
  go_enter Tryd.func39, Tryd.ntmps39
  go_wp2_with (go_at_call 48; refine cp.mono ?_; rintro e w' ⟨rfl, rfl⟩)
  go_ret2
  exact ⟨rfl, rfl⟩

/-- Would the sum be too great? -/
def overV (a b : Nat) : Bool := decide (18446744073709551616 ≤ a + b)

end Go.Proofs.YtnjkhhagefipiaaDoor
