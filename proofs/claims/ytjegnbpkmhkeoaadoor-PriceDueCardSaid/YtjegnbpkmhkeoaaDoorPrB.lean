/-
  Walks of package price: Due, Check, Over, Add; the parts of any number; the reference's Add.
-/
import Derived.Test.YtjegnbpkmhkeoaaDoorPrA
namespace Go.Proofs.YtjegnbpkmhkeoaaDoor
open Go.RowKit
set_option linter.unusedVariables false
set_option linter.unusedSimpArgs false

theorem parts_any (b : Nat) (hb : b < 18446744073709551616) (W : World) (hT : DK W) :
    Calls Tryd.prog 15 #[.int .u64 b] W fun e W' => e = .returned (.tuple #[.int .u64 (partsM b : Nat), .int .i64 (partsE b), .bool (partsIs b)]) ∧ W = W' := by
  obtain ⟨s0, s1, s2, s3, s4, s5, s6⟩ := cls_says b hb
  by_cases h5 : cls b = 5
  · obtain ⟨g0, g1⟩ := s5 h5
    unfold partsM partsE partsIs
    rw [if_pos h5, if_pos h5, decide_eq_true (.inr (.inr h5))]
    exact parts_yes b g0 g1 h5 W hT
  · unfold partsM partsE partsIs
    rw [if_neg h5, if_neg h5]
    by_cases h34 : cls b = 3 ∨ cls b = 4
    · rw [decide_eq_true (by omega)]
      exact parts_no b (cls b) W true (class_any b hb) (.inl ⟨h34, rfl⟩)
    · rw [decide_eq_false (by omega)]
      exact parts_no b (cls b) W false (class_any b hb) (.inr ⟨by rcases cls_le b with h | h | h | h | h | h | h <;> omega, rfl⟩)

theorem refParts_any (b : Nat) (hb : b < 18446744073709551616) (W : World) :
    Calls Tryd.prog 18 #[.int .u64 b] W fun e W' => e = .returned (.tuple #[.int .u64 (partsM b : Nat), .int .i64 (partsE b), .bool (partsIs b)]) ∧ W = W' := by
  obtain ⟨s0, s1, s2, s3, s4, s5, s6⟩ := cls_says b hb
  by_cases h5 : cls b = 5
  · obtain ⟨g0, g1⟩ := s5 h5
    unfold partsM partsE partsIs
    rw [if_pos h5, if_pos h5, decide_eq_true (.inr (.inr h5))]
    exact refParts_yes b g0 g1 h5 W
  · unfold partsM partsE partsIs
    rw [if_neg h5, if_neg h5]
    by_cases h34 : cls b = 3 ∨ cls b = 4
    · rw [decide_eq_true (by omega)]
      exact refParts_no b (cls b) W true (refClass_any b hb) (.inl ⟨h34, rfl⟩)
    · rw [decide_eq_false (by omega)]
      exact refParts_no b (cls b) W false (refClass_any b hb) (.inr ⟨by rcases cls_le b with h | h | h | h | h | h | h <;> omega, rfl⟩)

theorem partsM_lt (b : Nat) (hb : b < 18446744073709551616) : partsM b < 9007199254740992 := by
  obtain ⟨s0, s1, s2, s3, s4, s5, s6⟩ := cls_says b hb
  unfold partsM
  split
  · exact Nat.lt_of_le_of_lt (Nat.div_le_self _ _) (mg_lt b)
  · decide

theorem partsE_in (b : Nat) (hb : b < 18446744073709551616) : -1074 ≤ partsE b ∧ partsE b ≤ 2000 := by
  obtain ⟨s0, s1, s2, s3, s4, s5, s6⟩ := cls_says b hb
  unfold partsE
  split
  · rename_i h
    obtain ⟨g0, g1⟩ := s5 h
    have h1 := (od_spec b g0).2.2
    have h2 : ex b ≤ 2045 := by unfold ex; omega
    omega
  · omega

theorem due_parts (n b : Nat) : capM (scale (n * partsM b) (partsE b)) = dueV n b := by
  unfold partsM partsE dueV
  by_cases h : cls b = 5
  · rw [if_pos h, if_pos h, if_pos h]
  · rw [if_neg h, if_neg h, if_neg h]
    unfold scale
    rw [if_pos (by omega), Nat.mul_zero, Nat.zero_mul]
    rfl

theorem due_yes (n b : Nat) (hn : n < 18446744073709551616) (hb : b < 18446744073709551616) (hq : partsIs b = true) (W : World) (hT : DK W) :
    Calls Tryd.prog 6 #[.int .u64 n, .int .u64 b] W fun e W' => e = .returned (.tuple #[.int .u64 (dueV n b : Nat), .int .i64 0]) ∧ ∃ k, W' = W.drewN k := by
  have cp := parts_any b hb W hT
  rw [hq] at cp
  have hm := partsM_lt b hb
  obtain ⟨he0, he1⟩ := partsE_in b hb
  have cr := fun W => prod_any n (partsM b) (partsE b) hn hm he0 he1 W
  rw [due_parts] at cr
  clear hq
  generalize partsM b = m at cp hm cr
  generalize partsE b = p at cp he0 he1 cr
  generalize dueV n b = V at cr ⊢
  go_enter Tryd.func6, Tryd.ntmps6
  go_wp2_with (first | (go_at_call 15; refine cp.mono ?_; rintro e w' ⟨rfl, rfl⟩) | (go_at_call 16; refine (cr _).mono ?_; rintro e w' ⟨rfl, k, rfl⟩))
  go_ret2
  exact ⟨rfl, _, rfl⟩

theorem due_no (n b : Nat) (hn : n < 18446744073709551616) (hb : b < 18446744073709551616) (hq : partsIs b = false) (W : World) (hT : DK W) :
    Calls Tryd.prog 6 #[.int .u64 n, .int .u64 b] W fun e W' => e = .returned (.tuple #[.int .u64 0, .int .i64 13]) ∧ ∃ k, W' = W.drewN k := by
  have cp := parts_any b hb W hT
  rw [hq] at cp
  have hm := partsM_lt b hb
  obtain ⟨he0, he1⟩ := partsE_in b hb
  clear hq
  generalize partsM b = m at cp hm
  generalize partsE b = p at cp he0 he1
  go_enter Tryd.func6, Tryd.ntmps6
  go_wp2_with (go_at_call 15; refine cp.mono ?_; rintro e w' ⟨rfl, rfl⟩)
  go_ret2
  exact ⟨rfl, 0, rfl⟩

theorem check_yes (b : Nat) (hb : b < 18446744073709551616) (hq : partsIs b = true) (W : World) (hT : DK W) :
    Calls Tryd.prog 7 #[.int .u64 b] W fun e W' => e = .returned (.tuple #[.int .u64 (canonV b : Nat), .int .i64 0]) ∧ W = W' := by
  have cp := parts_any b hb W hT
  rw [hq] at cp
  have hm := partsM_lt b hb
  obtain ⟨he0, he1⟩ := partsE_in b hb
  have cc := fun W => canon_any b hb W
  clear hq
  generalize partsM b = m at cp hm
  generalize partsE b = p at cp he0 he1
  generalize canonV b = c at cc ⊢
  go_enter Tryd.func7, Tryd.ntmps7
  go_wp2_with (first | (go_at_call 15; refine cp.mono ?_; rintro e w' ⟨rfl, rfl⟩) | (go_at_call 17; refine (cc _).mono ?_; rintro e w' ⟨rfl, rfl⟩))
  go_ret2
  exact ⟨rfl, rfl⟩

theorem check_no (b : Nat) (hb : b < 18446744073709551616) (hq : partsIs b = false) (W : World) (hT : DK W) :
    Calls Tryd.prog 7 #[.int .u64 b] W fun e W' => e = .returned (.tuple #[.int .u64 0, .int .i64 13]) ∧ W = W' := by
  have cp := parts_any b hb W hT
  rw [hq] at cp
  have hm := partsM_lt b hb
  obtain ⟨he0, he1⟩ := partsE_in b hb
  clear hq
  generalize partsM b = m at cp hm
  generalize partsE b = p at cp he0 he1
  go_enter Tryd.func7, Tryd.ntmps7
  go_wp2_with (go_at_call 15; refine cp.mono ?_; rintro e w' ⟨rfl, rfl⟩)
  go_ret2
  exact ⟨rfl, rfl⟩

@[go_sem] theorem run_addCarry (x y : Nat) (w : World) : (callFunc 22 #[.int .u64 x, .int .u64 y, .int .u64 0]).run Tryd.prog w =
    .ok (.value (.tuple #[.int .u64 (((x + y) % 18446744073709551616 : Nat) : Int), .int .u64 (((x + y) / 18446744073709551616 : Nat) : Int)])) w := by
  rw [run_callFunc_extern (e := add64Entry) Tryd.func22 (by kernel_rfl) (by kernel_rfl) (by kernel_rfl) (by kernel_rfl)]
  rfl

/-- Would the sum be too great? -/
def overV (a b : Nat) : Bool := decide (18446744073709551616 ≤ a + b)

theorem over_any (a b : Nat) (ha : a < 18446744073709551616) (hb : b < 18446744073709551616) (W : World) :
    Calls Tryd.prog 14 #[.int .u64 a, .int .u64 b] W fun e W' => e = .returned (.bool (overV a b)) ∧ W = W' := by
  have hq : overV a b = decide (0 < (a + b) / 18446744073709551616) := by
    unfold overV
    rw [decide_eq_decide]
    omega
  have h1 : (a + b) / 18446744073709551616 ≤ 1 := by omega
  have h2 : (a + b) % 18446744073709551616 < 18446744073709551616 := Nat.mod_lt _ (by decide)
  rw [hq]
  have r1 := run_addCarry a b W
  generalize (a + b) / 18446744073709551616 = c at h1 r1 ⊢
  generalize (a + b) % 18446744073709551616 = s at h2 r1 ⊢
  clear hq
  go_enter Tryd.func14, Tryd.ntmps14
  go_wp2
  go_ret
  exact ⟨rfl, rfl⟩

theorem add_any (a b : Nat) (ha : a < 18446744073709551616) (hb : b < 18446744073709551616) (W : World) :
    Calls Tryd.prog 12 #[.int .u64 a, .int .u64 b] W fun e W' => e = .returned (.int .u64 (capM (a + b) : Nat)) ∧ W = W' := by
  have co := over_any a b ha hb W
  by_cases h : 18446744073709551616 ≤ a + b
  · rw [show overV a b = true from decide_eq_true h] at co
    rw [capM_max (by omega)]
    clear h
    go_enter Tryd.func12, Tryd.ntmps12
    go_wp2_with (go_at_call 14; refine co.mono ?_; rintro e w' ⟨rfl, rfl⟩)
    go_ret
    exact ⟨rfl, rfl⟩
  · rw [show overV a b = false from decide_eq_false h] at co
    rw [capM_id (by omega)]
    obtain ⟨s, hs⟩ : ∃ s, s = a + b := ⟨_, rfl⟩
    have e2 : (a : Int) + b = (s : Int) := by omega
    have e3 : s ≤ 18446744073709551615 := by omega
    rw [← hs]
    clear hs h
    go_enter Tryd.func12, Tryd.ntmps12
    go_wp2_with (go_at_call 14; refine co.mono ?_; rintro e w' ⟨rfl, rfl⟩)
    go_ret
    exact ⟨rfl, rfl⟩

theorem refAdd_any (a b : Nat) (ha : a < 18446744073709551616) (hb : b < 18446744073709551616) (W : World) :
    Calls Tryd.prog 13 #[.int .u64 a, .int .u64 b] W fun e W' => e = .returned (.int .u64 (capM (a + b) : Nat)) ∧ W = W' := by
  obtain ⟨d, hd⟩ : ∃ d, d = 18446744073709551615 - b := ⟨_, rfl⟩
  have e0 : (18446744073709551615 : Int) - b = (d : Int) := by omega
  have hd2 : d ≤ 18446744073709551615 := by omega
  by_cases h : 18446744073709551616 ≤ a + b
  · rw [capM_max (by omega)]
    have t1 : d < a := by omega
    clear h hd
    go_enter Tryd.func13, Tryd.ntmps13
    go_wp2
    go_ret
    exact ⟨rfl, rfl⟩
  · rw [capM_id (by omega)]
    have t1 : ¬ d < a := by omega
    obtain ⟨s, hs⟩ : ∃ s, s = a + b := ⟨_, rfl⟩
    have e2 : (a : Int) + b = (s : Int) := by omega
    have e3 : s ≤ 18446744073709551615 := by omega
    rw [← hs]
    clear hs h hd
    go_enter Tryd.func13, Tryd.ntmps13
    go_wp2
    go_ret
    exact ⟨rfl, rfl⟩

end Go.Proofs.YtjegnbpkmhkeoaaDoor
