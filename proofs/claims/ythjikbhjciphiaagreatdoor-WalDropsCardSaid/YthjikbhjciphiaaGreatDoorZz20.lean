/-
  The reference of records: what is wrong with one. Its ways are told by wip/tools/genrcc.py.
-/
import Derived.Test.YthjikbhjciphiaaGreatDoorZz19
namespace Go.Proofs.YthjikbhjciphiaaGreatDoor
open Go.RowKit
set_option linter.unusedVariables false
set_option linter.unusedSimpArgs false

def fldZ (k z : Int) : Bool := if z = 108 then kL k else if z = 110 then kN k else kB k
theorem refHas_any (k z : Int) (hz : z = 108 ∨ z = 110 ∨ z = 98) (W : World) : Calls Tryz.prog 56 #[.int .i64 k, .int .u8 z] W fun e W' => e = .returned (.bool (fldZ k z)) ∧ Below W.heap.size W W' := by
  rcases hz with rfl | rfl | rfl
  · exact refHas_l k W
  · exact refHas_n k W
  · exact refHas_b k W

@[local go_sem] theorem fz1_108 : fldZ 1 108 = false := rfl
@[local go_sem] theorem fz1_110 : fldZ 1 110 = true := rfl
@[local go_sem] theorem fz1_98 : fldZ 1 98 = false := rfl
@[local go_sem] theorem fz2_108 : fldZ 2 108 = false := rfl
@[local go_sem] theorem fz2_110 : fldZ 2 110 = false := rfl
@[local go_sem] theorem fz2_98 : fldZ 2 98 = true := rfl
@[local go_sem] theorem fz3_108 : fldZ 3 108 = true := rfl
@[local go_sem] theorem fz3_110 : fldZ 3 110 = true := rfl
@[local go_sem] theorem fz3_98 : fldZ 3 98 = false := rfl
@[local go_sem] theorem fz4_108 : fldZ 4 108 = true := rfl
@[local go_sem] theorem fz4_110 : fldZ 4 110 = true := rfl
@[local go_sem] theorem fz4_98 : fldZ 4 98 = false := rfl
@[local go_sem] theorem fz5_108 : fldZ 5 108 = false := rfl
@[local go_sem] theorem fz5_110 : fldZ 5 110 = false := rfl
@[local go_sem] theorem fz5_98 : fldZ 5 98 = false := rfl

set_option maxRecDepth 100000 in
set_option maxHeartbeats 4000000 in
theorem refCheck_none (s : Nat) (k : Int) (T : ByteArray) (l n b : Nat) (hT : T.size ≤ 10000) (h : isK k = false ∨ tenantB T.data.toList = false) (W : World) :
    Calls Tryz.prog 35 #[rcV s k T l n b] W fun e W' => e = .returned (.int .i64 (checkC ⟨s, k, T.data.toList, l, n, b⟩)) ∧ Below W.heap.size W W' := by
  have cT := fun w => refTenant_any T hT w
  unfold rcV
  have hB := (Below.refl W.heap.size W).alloc (Nat.le_refl _) (.cells (rcCs s k T l n b).toArray 35)
  by_cases h1 : k < 1
  · have HQ := Lib.hid (show checkC ⟨s, k, T.data.toList, l, n, b⟩ = 5 by unfold checkC; rw [if_pos (show isK k = false by unfold isK; simp; omega)])
    rw [HQ.out]
    clear HQ
    go_enter Tryz.func35, Tryz.ntmps35
    go_wp2
    go_ret
    exact ⟨rfl, hB⟩
  by_cases h5 : 5 < k
  · have HQ := Lib.hid (show checkC ⟨s, k, T.data.toList, l, n, b⟩ = 5 by unfold checkC; rw [if_pos (show isK k = false by unfold isK; simp; omega)])
    rw [HQ.out]
    clear HQ
    go_enter Tryz.func35, Tryz.ntmps35
    go_wp2
    go_ret
    exact ⟨rfl, hB⟩
  have hk : isK k = true := by unfold isK; simp; omega
  have ht : tenantB T.data.toList = false := by rw [hk] at h; simpa using h
  have HQ := Lib.hid (show checkC ⟨s, k, T.data.toList, l, n, b⟩ = 7 by unfold checkC; rw [if_neg (by rw [show isK k = true from hk]; decide), if_pos ht])
  rw [HQ.out]
  rw [ht] at cT
  clear HQ hk ht h
  go_enter Tryz.func35, Tryz.ntmps35
  go_wp2_with (go_at_call 55; refine (cT _).mono ?_; rintro e w2 ⟨rfl, rfl⟩)
  go_ret
  exact ⟨rfl, hB⟩

set_option maxRecDepth 100000 in
set_option maxHeartbeats 4000000 in
theorem refCheck_1 (s : Nat) (T : ByteArray) (l n b : Nat) (hT : T.size ≤ 10000) (hb : b < 18446744073709551616) (ht : tenantB T.data.toList = true) (W : World) :
    Calls Tryz.prog 35 #[rcV s 1 T l n b] W fun e W' => e = .returned (.int .i64 (checkC ⟨s, 1, T.data.toList, l, n, b⟩)) ∧ Below W.heap.size W W' := by
  have cT := fun w => refTenant_any T hT w
  have cC := fun w => refClass_any b hb w
  have hcl := cls_le b
  rw [ht] at cT
  have ck : isK 1 = true := rfl
  by_cases hs : s = 0
  · subst hs
    have HQ := Lib.hid (show checkC ⟨0, 1, T.data.toList, l, n, b⟩ = 6 by simp [checkC, ck, ht, rcRange, rcPriced, rcBare, kL, kN, kB])
    rw [HQ.out]
    clear HQ hcl ht ck
    generalize cls b = c at cC
    have hN := Blk.new (cs := rcCs 0 1 T l n b) W 35 _ rfl
    have hB := (Below.refl W.heap.size W).alloc (Nat.le_refl _) (.cells (rcCs 0 1 T l n b).toArray 35)
    unfold rcV
    go_enter Tryz.func35, Tryz.ntmps35
    go_wp2_with (first
      | (go_at_call 55; refine (cT _).mono ?_; rintro e w2 ⟨rfl, rfl⟩)
      | (go_at_call 57; refine (cC _).mono ?_; rintro e w2 ⟨rfl, rfl⟩)
      | (go_at_call 56; refine (refHas_any _ _ (by decide) _).mono ?_; rintro e w3 ⟨rfl, hx⟩; have hN' := hN.below hx hN.lt; have hB' := hB.trans (hx.mono hB.size); clear hN hB hx; (try clear z0 z1 z2 z3 z4 z5); obtain ⟨z0, z1, z2, z3, z4, z5⟩ := rc_cells hN'; have hN := hN'; have hB := hB'; clear hN' hB'))
    go_ret
    exact ⟨rfl, hB⟩
  have es : (((s : Nat) : Int) != 0) = true := by simp; omega
  have qs : (((s : Nat) : Int) == 0) = false := by simp; omega
  by_cases hl : l = 0
  · subst hl
    by_cases hb : b = 0
    · subst hb
      have HQ := Lib.hid (show checkC ⟨s, 1, T.data.toList, 0, n, 0⟩ = 0 by simp [checkC, ck, ht, rcRange, rcPriced, rcBare, kL, kN, kB, hs])
      rw [HQ.out]
      clear HQ hcl ht ck hs
      generalize cls 0 = c at cC
      have hN := Blk.new (cs := rcCs s 1 T 0 n 0) W 35 _ rfl
      have hB := (Below.refl W.heap.size W).alloc (Nat.le_refl _) (.cells (rcCs s 1 T 0 n 0).toArray 35)
      unfold rcV
      go_enter Tryz.func35, Tryz.ntmps35
      go_wp2_with (first
        | (go_at_call 55; refine (cT _).mono ?_; rintro e w2 ⟨rfl, rfl⟩)
        | (go_at_call 57; refine (cC _).mono ?_; rintro e w2 ⟨rfl, rfl⟩)
        | (go_at_call 56; refine (refHas_any _ _ (by decide) _).mono ?_; rintro e w3 ⟨rfl, hx⟩; have hN' := hN.below hx hN.lt; have hB' := hB.trans (hx.mono hB.size); clear hN hB hx; (try clear z0 z1 z2 z3 z4 z5); obtain ⟨z0, z1, z2, z3, z4, z5⟩ := rc_cells hN'; have hN := hN'; have hB := hB'; clear hN' hB'))
      go_ret
      exact ⟨rfl, hB⟩
    have eb : (((b : Nat) : Int) != 0) = true := by simp; omega
    have qb : (((b : Nat) : Int) == 0) = false := by simp; omega
    have HQ := Lib.hid (show checkC ⟨s, 1, T.data.toList, 0, n, b⟩ = 2 by simp [checkC, ck, ht, rcRange, rcPriced, rcBare, kL, kN, kB, hs, hb])
    rw [HQ.out]
    clear HQ hcl ht ck hs hb
    generalize cls b = c at cC
    have hN := Blk.new (cs := rcCs s 1 T 0 n b) W 35 _ rfl
    have hB := (Below.refl W.heap.size W).alloc (Nat.le_refl _) (.cells (rcCs s 1 T 0 n b).toArray 35)
    unfold rcV
    go_enter Tryz.func35, Tryz.ntmps35
    go_wp2_with (first
      | (go_at_call 55; refine (cT _).mono ?_; rintro e w2 ⟨rfl, rfl⟩)
      | (go_at_call 57; refine (cC _).mono ?_; rintro e w2 ⟨rfl, rfl⟩)
      | (go_at_call 56; refine (refHas_any _ _ (by decide) _).mono ?_; rintro e w3 ⟨rfl, hx⟩; have hN' := hN.below hx hN.lt; have hB' := hB.trans (hx.mono hB.size); clear hN hB hx; (try clear z0 z1 z2 z3 z4 z5); obtain ⟨z0, z1, z2, z3, z4, z5⟩ := rc_cells hN'; have hN := hN'; have hB := hB'; clear hN' hB'))
    go_ret
    exact ⟨rfl, hB⟩
  have el : (((l : Nat) : Int) != 0) = true := by simp; omega
  have ql : (((l : Nat) : Int) == 0) = false := by simp; omega
  have HQ := Lib.hid (show checkC ⟨s, 1, T.data.toList, l, n, b⟩ = 2 by simp [checkC, ck, ht, rcRange, rcPriced, rcBare, kL, kN, kB, hs, hl])
  rw [HQ.out]
  clear HQ hcl ht ck hs hl
  generalize cls b = c at cC
  have hN := Blk.new (cs := rcCs s 1 T l n b) W 35 _ rfl
  have hB := (Below.refl W.heap.size W).alloc (Nat.le_refl _) (.cells (rcCs s 1 T l n b).toArray 35)
  unfold rcV
  go_enter Tryz.func35, Tryz.ntmps35
  go_wp2_with (first
    | (go_at_call 55; refine (cT _).mono ?_; rintro e w2 ⟨rfl, rfl⟩)
    | (go_at_call 57; refine (cC _).mono ?_; rintro e w2 ⟨rfl, rfl⟩)
    | (go_at_call 56; refine (refHas_any _ _ (by decide) _).mono ?_; rintro e w3 ⟨rfl, hx⟩; have hN' := hN.below hx hN.lt; have hB' := hB.trans (hx.mono hB.size); clear hN hB hx; (try clear z0 z1 z2 z3 z4 z5); obtain ⟨z0, z1, z2, z3, z4, z5⟩ := rc_cells hN'; have hN := hN'; have hB := hB'; clear hN' hB'))
  go_ret
  exact ⟨rfl, hB⟩

set_option maxRecDepth 100000 in
set_option maxHeartbeats 4000000 in
theorem refCheck_2 (s : Nat) (T : ByteArray) (l n b : Nat) (hT : T.size ≤ 10000) (hb : b < 18446744073709551616) (ht : tenantB T.data.toList = true) (W : World) :
    Calls Tryz.prog 35 #[rcV s 2 T l n b] W fun e W' => e = .returned (.int .i64 (checkC ⟨s, 2, T.data.toList, l, n, b⟩)) ∧ Below W.heap.size W W' := by
  have cT := fun w => refTenant_any T hT w
  have cC := fun w => refClass_any b hb w
  have hcl := cls_le b
  rw [ht] at cT
  have ck : isK 2 = true := rfl
  by_cases hs : s = 0
  · subst hs
    have HQ := Lib.hid (show checkC ⟨0, 2, T.data.toList, l, n, b⟩ = 6 by simp [checkC, ck, ht, rcRange, rcPriced, rcBare, kL, kN, kB])
    rw [HQ.out]
    clear HQ hcl ht ck
    generalize cls b = c at cC
    have hN := Blk.new (cs := rcCs 0 2 T l n b) W 35 _ rfl
    have hB := (Below.refl W.heap.size W).alloc (Nat.le_refl _) (.cells (rcCs 0 2 T l n b).toArray 35)
    unfold rcV
    go_enter Tryz.func35, Tryz.ntmps35
    go_wp2_with (first
      | (go_at_call 55; refine (cT _).mono ?_; rintro e w2 ⟨rfl, rfl⟩)
      | (go_at_call 57; refine (cC _).mono ?_; rintro e w2 ⟨rfl, rfl⟩)
      | (go_at_call 56; refine (refHas_any _ _ (by decide) _).mono ?_; rintro e w3 ⟨rfl, hx⟩; have hN' := hN.below hx hN.lt; have hB' := hB.trans (hx.mono hB.size); clear hN hB hx; (try clear z0 z1 z2 z3 z4 z5); obtain ⟨z0, z1, z2, z3, z4, z5⟩ := rc_cells hN'; have hN := hN'; have hB := hB'; clear hN' hB'))
    go_ret
    exact ⟨rfl, hB⟩
  have es : (((s : Nat) : Int) != 0) = true := by simp; omega
  have qs : (((s : Nat) : Int) == 0) = false := by simp; omega
  by_cases h4 : cls b = 4
  · rw [h4] at cC
    by_cases hl : l = 0
    · subst hl
      by_cases hn : n = 0
      · subst hn
        have HQ := Lib.hid (show checkC ⟨s, 2, T.data.toList, 0, 0, b⟩ = 0 by simp [checkC, ck, ht, rcRange, rcPriced, rcBare, kL, kN, kB, hs, h4])
        rw [HQ.out]
        clear HQ hcl ht ck hs h4
        have hN := Blk.new (cs := rcCs s 2 T 0 0 b) W 35 _ rfl
        have hB := (Below.refl W.heap.size W).alloc (Nat.le_refl _) (.cells (rcCs s 2 T 0 0 b).toArray 35)
        unfold rcV
        go_enter Tryz.func35, Tryz.ntmps35
        go_wp2_with (first
          | (go_at_call 55; refine (cT _).mono ?_; rintro e w2 ⟨rfl, rfl⟩)
          | (go_at_call 57; refine (cC _).mono ?_; rintro e w2 ⟨rfl, rfl⟩)
          | (go_at_call 56; refine (refHas_any _ _ (by decide) _).mono ?_; rintro e w3 ⟨rfl, hx⟩; have hN' := hN.below hx hN.lt; have hB' := hB.trans (hx.mono hB.size); clear hN hB hx; (try clear z0 z1 z2 z3 z4 z5); obtain ⟨z0, z1, z2, z3, z4, z5⟩ := rc_cells hN'; have hN := hN'; have hB := hB'; clear hN' hB'))
        go_ret
        exact ⟨rfl, hB⟩
      have en : (((n : Nat) : Int) != 0) = true := by simp; omega
      have qn : (((n : Nat) : Int) == 0) = false := by simp; omega
      have HQ := Lib.hid (show checkC ⟨s, 2, T.data.toList, 0, n, b⟩ = 2 by simp [checkC, ck, ht, rcRange, rcPriced, rcBare, kL, kN, kB, hs, h4, hn])
      rw [HQ.out]
      clear HQ hcl ht ck hs h4 hn
      have hN := Blk.new (cs := rcCs s 2 T 0 n b) W 35 _ rfl
      have hB := (Below.refl W.heap.size W).alloc (Nat.le_refl _) (.cells (rcCs s 2 T 0 n b).toArray 35)
      unfold rcV
      go_enter Tryz.func35, Tryz.ntmps35
      go_wp2_with (first
        | (go_at_call 55; refine (cT _).mono ?_; rintro e w2 ⟨rfl, rfl⟩)
        | (go_at_call 57; refine (cC _).mono ?_; rintro e w2 ⟨rfl, rfl⟩)
        | (go_at_call 56; refine (refHas_any _ _ (by decide) _).mono ?_; rintro e w3 ⟨rfl, hx⟩; have hN' := hN.below hx hN.lt; have hB' := hB.trans (hx.mono hB.size); clear hN hB hx; (try clear z0 z1 z2 z3 z4 z5); obtain ⟨z0, z1, z2, z3, z4, z5⟩ := rc_cells hN'; have hN := hN'; have hB := hB'; clear hN' hB'))
      go_ret
      exact ⟨rfl, hB⟩
    have el : (((l : Nat) : Int) != 0) = true := by simp; omega
    have ql : (((l : Nat) : Int) == 0) = false := by simp; omega
    have HQ := Lib.hid (show checkC ⟨s, 2, T.data.toList, l, n, b⟩ = 2 by simp [checkC, ck, ht, rcRange, rcPriced, rcBare, kL, kN, kB, hs, h4, hl])
    rw [HQ.out]
    clear HQ hcl ht ck hs h4 hl
    have hN := Blk.new (cs := rcCs s 2 T l n b) W 35 _ rfl
    have hB := (Below.refl W.heap.size W).alloc (Nat.le_refl _) (.cells (rcCs s 2 T l n b).toArray 35)
    unfold rcV
    go_enter Tryz.func35, Tryz.ntmps35
    go_wp2_with (first
      | (go_at_call 55; refine (cT _).mono ?_; rintro e w2 ⟨rfl, rfl⟩)
      | (go_at_call 57; refine (cC _).mono ?_; rintro e w2 ⟨rfl, rfl⟩)
      | (go_at_call 56; refine (refHas_any _ _ (by decide) _).mono ?_; rintro e w3 ⟨rfl, hx⟩; have hN' := hN.below hx hN.lt; have hB' := hB.trans (hx.mono hB.size); clear hN hB hx; (try clear z0 z1 z2 z3 z4 z5); obtain ⟨z0, z1, z2, z3, z4, z5⟩ := rc_cells hN'; have hN := hN'; have hB := hB'; clear hN' hB'))
    go_ret
    exact ⟨rfl, hB⟩
  by_cases h5 : cls b = 5
  · rw [h5] at cC
    by_cases hl : l = 0
    · subst hl
      by_cases hn : n = 0
      · subst hn
        have HQ := Lib.hid (show checkC ⟨s, 2, T.data.toList, 0, 0, b⟩ = 0 by simp [checkC, ck, ht, rcRange, rcPriced, rcBare, kL, kN, kB, hs, h5])
        rw [HQ.out]
        clear HQ hcl ht ck hs h4 h5
        have hN := Blk.new (cs := rcCs s 2 T 0 0 b) W 35 _ rfl
        have hB := (Below.refl W.heap.size W).alloc (Nat.le_refl _) (.cells (rcCs s 2 T 0 0 b).toArray 35)
        unfold rcV
        go_enter Tryz.func35, Tryz.ntmps35
        go_wp2_with (first
          | (go_at_call 55; refine (cT _).mono ?_; rintro e w2 ⟨rfl, rfl⟩)
          | (go_at_call 57; refine (cC _).mono ?_; rintro e w2 ⟨rfl, rfl⟩)
          | (go_at_call 56; refine (refHas_any _ _ (by decide) _).mono ?_; rintro e w3 ⟨rfl, hx⟩; have hN' := hN.below hx hN.lt; have hB' := hB.trans (hx.mono hB.size); clear hN hB hx; (try clear z0 z1 z2 z3 z4 z5); obtain ⟨z0, z1, z2, z3, z4, z5⟩ := rc_cells hN'; have hN := hN'; have hB := hB'; clear hN' hB'))
        go_ret
        exact ⟨rfl, hB⟩
      have en : (((n : Nat) : Int) != 0) = true := by simp; omega
      have qn : (((n : Nat) : Int) == 0) = false := by simp; omega
      have HQ := Lib.hid (show checkC ⟨s, 2, T.data.toList, 0, n, b⟩ = 2 by simp [checkC, ck, ht, rcRange, rcPriced, rcBare, kL, kN, kB, hs, h5, hn])
      rw [HQ.out]
      clear HQ hcl ht ck hs h4 h5 hn
      have hN := Blk.new (cs := rcCs s 2 T 0 n b) W 35 _ rfl
      have hB := (Below.refl W.heap.size W).alloc (Nat.le_refl _) (.cells (rcCs s 2 T 0 n b).toArray 35)
      unfold rcV
      go_enter Tryz.func35, Tryz.ntmps35
      go_wp2_with (first
        | (go_at_call 55; refine (cT _).mono ?_; rintro e w2 ⟨rfl, rfl⟩)
        | (go_at_call 57; refine (cC _).mono ?_; rintro e w2 ⟨rfl, rfl⟩)
        | (go_at_call 56; refine (refHas_any _ _ (by decide) _).mono ?_; rintro e w3 ⟨rfl, hx⟩; have hN' := hN.below hx hN.lt; have hB' := hB.trans (hx.mono hB.size); clear hN hB hx; (try clear z0 z1 z2 z3 z4 z5); obtain ⟨z0, z1, z2, z3, z4, z5⟩ := rc_cells hN'; have hN := hN'; have hB := hB'; clear hN' hB'))
      go_ret
      exact ⟨rfl, hB⟩
    have el : (((l : Nat) : Int) != 0) = true := by simp; omega
    have ql : (((l : Nat) : Int) == 0) = false := by simp; omega
    have HQ := Lib.hid (show checkC ⟨s, 2, T.data.toList, l, n, b⟩ = 2 by simp [checkC, ck, ht, rcRange, rcPriced, rcBare, kL, kN, kB, hs, h5, hl])
    rw [HQ.out]
    clear HQ hcl ht ck hs h4 h5 hl
    have hN := Blk.new (cs := rcCs s 2 T l n b) W 35 _ rfl
    have hB := (Below.refl W.heap.size W).alloc (Nat.le_refl _) (.cells (rcCs s 2 T l n b).toArray 35)
    unfold rcV
    go_enter Tryz.func35, Tryz.ntmps35
    go_wp2_with (first
      | (go_at_call 55; refine (cT _).mono ?_; rintro e w2 ⟨rfl, rfl⟩)
      | (go_at_call 57; refine (cC _).mono ?_; rintro e w2 ⟨rfl, rfl⟩)
      | (go_at_call 56; refine (refHas_any _ _ (by decide) _).mono ?_; rintro e w3 ⟨rfl, hx⟩; have hN' := hN.below hx hN.lt; have hB' := hB.trans (hx.mono hB.size); clear hN hB hx; (try clear z0 z1 z2 z3 z4 z5); obtain ⟨z0, z1, z2, z3, z4, z5⟩ := rc_cells hN'; have hN := hN'; have hB := hB'; clear hN' hB'))
    go_ret
    exact ⟨rfl, hB⟩
  have e4 : (((cls b : Nat) : Int) != 4) = true := by simp; omega
  have e5 : (((cls b : Nat) : Int) != 5) = true := by simp; omega
  have HQ := Lib.hid (show checkC ⟨s, 2, T.data.toList, l, n, b⟩ = 13 by simp [checkC, ck, ht, rcRange, rcPriced, rcBare, kL, kN, kB, hs, h4, h5])
  rw [HQ.out]
  clear HQ hcl ht ck hs h4 h5
  generalize cls b = c at cC e4 e5
  have hN := Blk.new (cs := rcCs s 2 T l n b) W 35 _ rfl
  have hB := (Below.refl W.heap.size W).alloc (Nat.le_refl _) (.cells (rcCs s 2 T l n b).toArray 35)
  unfold rcV
  go_enter Tryz.func35, Tryz.ntmps35
  go_wp2_with (first
    | (go_at_call 55; refine (cT _).mono ?_; rintro e w2 ⟨rfl, rfl⟩)
    | (go_at_call 57; refine (cC _).mono ?_; rintro e w2 ⟨rfl, rfl⟩)
    | (go_at_call 56; refine (refHas_any _ _ (by decide) _).mono ?_; rintro e w3 ⟨rfl, hx⟩; have hN' := hN.below hx hN.lt; have hB' := hB.trans (hx.mono hB.size); clear hN hB hx; (try clear z0 z1 z2 z3 z4 z5); obtain ⟨z0, z1, z2, z3, z4, z5⟩ := rc_cells hN'; have hN := hN'; have hB := hB'; clear hN' hB'))
  go_ret
  exact ⟨rfl, hB⟩

set_option maxRecDepth 100000 in
set_option maxHeartbeats 4000000 in
theorem refCheck_3 (s : Nat) (T : ByteArray) (l n b : Nat) (hT : T.size ≤ 10000) (hb : b < 18446744073709551616) (ht : tenantB T.data.toList = true) (W : World) :
    Calls Tryz.prog 35 #[rcV s 3 T l n b] W fun e W' => e = .returned (.int .i64 (checkC ⟨s, 3, T.data.toList, l, n, b⟩)) ∧ Below W.heap.size W W' := by
  have cT := fun w => refTenant_any T hT w
  have cC := fun w => refClass_any b hb w
  have hcl := cls_le b
  rw [ht] at cT
  have ck : isK 3 = true := rfl
  by_cases hs : s = 0
  · subst hs
    have HQ := Lib.hid (show checkC ⟨0, 3, T.data.toList, l, n, b⟩ = 6 by simp [checkC, ck, ht, rcRange, rcPriced, rcBare, kL, kN, kB])
    rw [HQ.out]
    clear HQ hcl ht ck
    generalize cls b = c at cC
    have hN := Blk.new (cs := rcCs 0 3 T l n b) W 35 _ rfl
    have hB := (Below.refl W.heap.size W).alloc (Nat.le_refl _) (.cells (rcCs 0 3 T l n b).toArray 35)
    unfold rcV
    go_enter Tryz.func35, Tryz.ntmps35
    go_wp2_with (first
      | (go_at_call 55; refine (cT _).mono ?_; rintro e w2 ⟨rfl, rfl⟩)
      | (go_at_call 57; refine (cC _).mono ?_; rintro e w2 ⟨rfl, rfl⟩)
      | (go_at_call 56; refine (refHas_any _ _ (by decide) _).mono ?_; rintro e w3 ⟨rfl, hx⟩; have hN' := hN.below hx hN.lt; have hB' := hB.trans (hx.mono hB.size); clear hN hB hx; (try clear z0 z1 z2 z3 z4 z5); obtain ⟨z0, z1, z2, z3, z4, z5⟩ := rc_cells hN'; have hN := hN'; have hB := hB'; clear hN' hB'))
    go_ret
    exact ⟨rfl, hB⟩
  have es : (((s : Nat) : Int) != 0) = true := by simp; omega
  have qs : (((s : Nat) : Int) == 0) = false := by simp; omega
  by_cases hl : l = 0
  · subst hl
    have HQ := Lib.hid (show checkC ⟨s, 3, T.data.toList, 0, n, b⟩ = 6 by simp [checkC, ck, ht, rcRange, rcPriced, rcBare, kL, kN, kB, hs])
    rw [HQ.out]
    clear HQ hcl ht ck hs
    generalize cls b = c at cC
    have hN := Blk.new (cs := rcCs s 3 T 0 n b) W 35 _ rfl
    have hB := (Below.refl W.heap.size W).alloc (Nat.le_refl _) (.cells (rcCs s 3 T 0 n b).toArray 35)
    unfold rcV
    go_enter Tryz.func35, Tryz.ntmps35
    go_wp2_with (first
      | (go_at_call 55; refine (cT _).mono ?_; rintro e w2 ⟨rfl, rfl⟩)
      | (go_at_call 57; refine (cC _).mono ?_; rintro e w2 ⟨rfl, rfl⟩)
      | (go_at_call 56; refine (refHas_any _ _ (by decide) _).mono ?_; rintro e w3 ⟨rfl, hx⟩; have hN' := hN.below hx hN.lt; have hB' := hB.trans (hx.mono hB.size); clear hN hB hx; (try clear z0 z1 z2 z3 z4 z5); obtain ⟨z0, z1, z2, z3, z4, z5⟩ := rc_cells hN'; have hN := hN'; have hB := hB'; clear hN' hB'))
    go_ret
    exact ⟨rfl, hB⟩
  have el : (((l : Nat) : Int) != 0) = true := by simp; omega
  have ql : (((l : Nat) : Int) == 0) = false := by simp; omega
  by_cases hn : n = 0
  · subst hn
    have HQ := Lib.hid (show checkC ⟨s, 3, T.data.toList, l, 0, b⟩ = 6 by simp [checkC, ck, ht, rcRange, rcPriced, rcBare, kL, kN, kB, hs, hl])
    rw [HQ.out]
    clear HQ hcl ht ck hs hl
    generalize cls b = c at cC
    have hN := Blk.new (cs := rcCs s 3 T l 0 b) W 35 _ rfl
    have hB := (Below.refl W.heap.size W).alloc (Nat.le_refl _) (.cells (rcCs s 3 T l 0 b).toArray 35)
    unfold rcV
    go_enter Tryz.func35, Tryz.ntmps35
    go_wp2_with (first
      | (go_at_call 55; refine (cT _).mono ?_; rintro e w2 ⟨rfl, rfl⟩)
      | (go_at_call 57; refine (cC _).mono ?_; rintro e w2 ⟨rfl, rfl⟩)
      | (go_at_call 56; refine (refHas_any _ _ (by decide) _).mono ?_; rintro e w3 ⟨rfl, hx⟩; have hN' := hN.below hx hN.lt; have hB' := hB.trans (hx.mono hB.size); clear hN hB hx; (try clear z0 z1 z2 z3 z4 z5); obtain ⟨z0, z1, z2, z3, z4, z5⟩ := rc_cells hN'; have hN := hN'; have hB := hB'; clear hN' hB'))
    go_ret
    exact ⟨rfl, hB⟩
  have en : (((n : Nat) : Int) != 0) = true := by simp; omega
  have qn : (((n : Nat) : Int) == 0) = false := by simp; omega
  by_cases hb : b = 0
  · subst hb
    have HQ := Lib.hid (show checkC ⟨s, 3, T.data.toList, l, n, 0⟩ = 0 by simp [checkC, ck, ht, rcRange, rcPriced, rcBare, kL, kN, kB, hs, hl, hn])
    rw [HQ.out]
    clear HQ hcl ht ck hs hl hn
    generalize cls 0 = c at cC
    have hN := Blk.new (cs := rcCs s 3 T l n 0) W 35 _ rfl
    have hB := (Below.refl W.heap.size W).alloc (Nat.le_refl _) (.cells (rcCs s 3 T l n 0).toArray 35)
    unfold rcV
    go_enter Tryz.func35, Tryz.ntmps35
    go_wp2_with (first
      | (go_at_call 55; refine (cT _).mono ?_; rintro e w2 ⟨rfl, rfl⟩)
      | (go_at_call 57; refine (cC _).mono ?_; rintro e w2 ⟨rfl, rfl⟩)
      | (go_at_call 56; refine (refHas_any _ _ (by decide) _).mono ?_; rintro e w3 ⟨rfl, hx⟩; have hN' := hN.below hx hN.lt; have hB' := hB.trans (hx.mono hB.size); clear hN hB hx; (try clear z0 z1 z2 z3 z4 z5); obtain ⟨z0, z1, z2, z3, z4, z5⟩ := rc_cells hN'; have hN := hN'; have hB := hB'; clear hN' hB'))
    go_ret
    exact ⟨rfl, hB⟩
  have eb : (((b : Nat) : Int) != 0) = true := by simp; omega
  have qb : (((b : Nat) : Int) == 0) = false := by simp; omega
  have HQ := Lib.hid (show checkC ⟨s, 3, T.data.toList, l, n, b⟩ = 2 by simp [checkC, ck, ht, rcRange, rcPriced, rcBare, kL, kN, kB, hs, hl, hn, hb])
  rw [HQ.out]
  clear HQ hcl ht ck hs hl hn hb
  generalize cls b = c at cC
  have hN := Blk.new (cs := rcCs s 3 T l n b) W 35 _ rfl
  have hB := (Below.refl W.heap.size W).alloc (Nat.le_refl _) (.cells (rcCs s 3 T l n b).toArray 35)
  unfold rcV
  go_enter Tryz.func35, Tryz.ntmps35
  go_wp2_with (first
    | (go_at_call 55; refine (cT _).mono ?_; rintro e w2 ⟨rfl, rfl⟩)
    | (go_at_call 57; refine (cC _).mono ?_; rintro e w2 ⟨rfl, rfl⟩)
    | (go_at_call 56; refine (refHas_any _ _ (by decide) _).mono ?_; rintro e w3 ⟨rfl, hx⟩; have hN' := hN.below hx hN.lt; have hB' := hB.trans (hx.mono hB.size); clear hN hB hx; (try clear z0 z1 z2 z3 z4 z5); obtain ⟨z0, z1, z2, z3, z4, z5⟩ := rc_cells hN'; have hN := hN'; have hB := hB'; clear hN' hB'))
  go_ret
  exact ⟨rfl, hB⟩

set_option maxRecDepth 100000 in
set_option maxHeartbeats 4000000 in
theorem refCheck_4 (s : Nat) (T : ByteArray) (l n b : Nat) (hT : T.size ≤ 10000) (hb : b < 18446744073709551616) (ht : tenantB T.data.toList = true) (W : World) :
    Calls Tryz.prog 35 #[rcV s 4 T l n b] W fun e W' => e = .returned (.int .i64 (checkC ⟨s, 4, T.data.toList, l, n, b⟩)) ∧ Below W.heap.size W W' := by
  have cT := fun w => refTenant_any T hT w
  have cC := fun w => refClass_any b hb w
  have hcl := cls_le b
  rw [ht] at cT
  have ck : isK 4 = true := rfl
  by_cases hs : s = 0
  · subst hs
    have HQ := Lib.hid (show checkC ⟨0, 4, T.data.toList, l, n, b⟩ = 6 by simp [checkC, ck, ht, rcRange, rcPriced, rcBare, kL, kN, kB])
    rw [HQ.out]
    clear HQ hcl ht ck
    generalize cls b = c at cC
    have hN := Blk.new (cs := rcCs 0 4 T l n b) W 35 _ rfl
    have hB := (Below.refl W.heap.size W).alloc (Nat.le_refl _) (.cells (rcCs 0 4 T l n b).toArray 35)
    unfold rcV
    go_enter Tryz.func35, Tryz.ntmps35
    go_wp2_with (first
      | (go_at_call 55; refine (cT _).mono ?_; rintro e w2 ⟨rfl, rfl⟩)
      | (go_at_call 57; refine (cC _).mono ?_; rintro e w2 ⟨rfl, rfl⟩)
      | (go_at_call 56; refine (refHas_any _ _ (by decide) _).mono ?_; rintro e w3 ⟨rfl, hx⟩; have hN' := hN.below hx hN.lt; have hB' := hB.trans (hx.mono hB.size); clear hN hB hx; (try clear z0 z1 z2 z3 z4 z5); obtain ⟨z0, z1, z2, z3, z4, z5⟩ := rc_cells hN'; have hN := hN'; have hB := hB'; clear hN' hB'))
    go_ret
    exact ⟨rfl, hB⟩
  have es : (((s : Nat) : Int) != 0) = true := by simp; omega
  have qs : (((s : Nat) : Int) == 0) = false := by simp; omega
  by_cases hl : l = 0
  · subst hl
    have HQ := Lib.hid (show checkC ⟨s, 4, T.data.toList, 0, n, b⟩ = 6 by simp [checkC, ck, ht, rcRange, rcPriced, rcBare, kL, kN, kB, hs])
    rw [HQ.out]
    clear HQ hcl ht ck hs
    generalize cls b = c at cC
    have hN := Blk.new (cs := rcCs s 4 T 0 n b) W 35 _ rfl
    have hB := (Below.refl W.heap.size W).alloc (Nat.le_refl _) (.cells (rcCs s 4 T 0 n b).toArray 35)
    unfold rcV
    go_enter Tryz.func35, Tryz.ntmps35
    go_wp2_with (first
      | (go_at_call 55; refine (cT _).mono ?_; rintro e w2 ⟨rfl, rfl⟩)
      | (go_at_call 57; refine (cC _).mono ?_; rintro e w2 ⟨rfl, rfl⟩)
      | (go_at_call 56; refine (refHas_any _ _ (by decide) _).mono ?_; rintro e w3 ⟨rfl, hx⟩; have hN' := hN.below hx hN.lt; have hB' := hB.trans (hx.mono hB.size); clear hN hB hx; (try clear z0 z1 z2 z3 z4 z5); obtain ⟨z0, z1, z2, z3, z4, z5⟩ := rc_cells hN'; have hN := hN'; have hB := hB'; clear hN' hB'))
    go_ret
    exact ⟨rfl, hB⟩
  have el : (((l : Nat) : Int) != 0) = true := by simp; omega
  have ql : (((l : Nat) : Int) == 0) = false := by simp; omega
  by_cases hb : b = 0
  · subst hb
    have HQ := Lib.hid (show checkC ⟨s, 4, T.data.toList, l, n, 0⟩ = 0 by simp [checkC, ck, ht, rcRange, rcPriced, rcBare, kL, kN, kB, hs, hl])
    rw [HQ.out]
    clear HQ hcl ht ck hs hl
    generalize cls 0 = c at cC
    have hN := Blk.new (cs := rcCs s 4 T l n 0) W 35 _ rfl
    have hB := (Below.refl W.heap.size W).alloc (Nat.le_refl _) (.cells (rcCs s 4 T l n 0).toArray 35)
    unfold rcV
    go_enter Tryz.func35, Tryz.ntmps35
    go_wp2_with (first
      | (go_at_call 55; refine (cT _).mono ?_; rintro e w2 ⟨rfl, rfl⟩)
      | (go_at_call 57; refine (cC _).mono ?_; rintro e w2 ⟨rfl, rfl⟩)
      | (go_at_call 56; refine (refHas_any _ _ (by decide) _).mono ?_; rintro e w3 ⟨rfl, hx⟩; have hN' := hN.below hx hN.lt; have hB' := hB.trans (hx.mono hB.size); clear hN hB hx; (try clear z0 z1 z2 z3 z4 z5); obtain ⟨z0, z1, z2, z3, z4, z5⟩ := rc_cells hN'; have hN := hN'; have hB := hB'; clear hN' hB'))
    go_ret
    exact ⟨rfl, hB⟩
  have eb : (((b : Nat) : Int) != 0) = true := by simp; omega
  have qb : (((b : Nat) : Int) == 0) = false := by simp; omega
  have HQ := Lib.hid (show checkC ⟨s, 4, T.data.toList, l, n, b⟩ = 2 by simp [checkC, ck, ht, rcRange, rcPriced, rcBare, kL, kN, kB, hs, hl, hb])
  rw [HQ.out]
  clear HQ hcl ht ck hs hl hb
  generalize cls b = c at cC
  have hN := Blk.new (cs := rcCs s 4 T l n b) W 35 _ rfl
  have hB := (Below.refl W.heap.size W).alloc (Nat.le_refl _) (.cells (rcCs s 4 T l n b).toArray 35)
  unfold rcV
  go_enter Tryz.func35, Tryz.ntmps35
  go_wp2_with (first
    | (go_at_call 55; refine (cT _).mono ?_; rintro e w2 ⟨rfl, rfl⟩)
    | (go_at_call 57; refine (cC _).mono ?_; rintro e w2 ⟨rfl, rfl⟩)
    | (go_at_call 56; refine (refHas_any _ _ (by decide) _).mono ?_; rintro e w3 ⟨rfl, hx⟩; have hN' := hN.below hx hN.lt; have hB' := hB.trans (hx.mono hB.size); clear hN hB hx; (try clear z0 z1 z2 z3 z4 z5); obtain ⟨z0, z1, z2, z3, z4, z5⟩ := rc_cells hN'; have hN := hN'; have hB := hB'; clear hN' hB'))
  go_ret
  exact ⟨rfl, hB⟩

set_option maxRecDepth 100000 in
set_option maxHeartbeats 4000000 in
theorem refCheck_5 (s : Nat) (T : ByteArray) (l n b : Nat) (hT : T.size ≤ 10000) (hb : b < 18446744073709551616) (ht : tenantB T.data.toList = true) (W : World) :
    Calls Tryz.prog 35 #[rcV s 5 T l n b] W fun e W' => e = .returned (.int .i64 (checkC ⟨s, 5, T.data.toList, l, n, b⟩)) ∧ Below W.heap.size W W' := by
  have cT := fun w => refTenant_any T hT w
  have cC := fun w => refClass_any b hb w
  have hcl := cls_le b
  rw [ht] at cT
  have ck : isK 5 = true := rfl
  by_cases hs : s = 0
  · subst hs
    have HQ := Lib.hid (show checkC ⟨0, 5, T.data.toList, l, n, b⟩ = 6 by simp [checkC, ck, ht, rcRange, rcPriced, rcBare, kL, kN, kB])
    rw [HQ.out]
    clear HQ hcl ht ck
    generalize cls b = c at cC
    have hN := Blk.new (cs := rcCs 0 5 T l n b) W 35 _ rfl
    have hB := (Below.refl W.heap.size W).alloc (Nat.le_refl _) (.cells (rcCs 0 5 T l n b).toArray 35)
    unfold rcV
    go_enter Tryz.func35, Tryz.ntmps35
    go_wp2_with (first
      | (go_at_call 55; refine (cT _).mono ?_; rintro e w2 ⟨rfl, rfl⟩)
      | (go_at_call 57; refine (cC _).mono ?_; rintro e w2 ⟨rfl, rfl⟩)
      | (go_at_call 56; refine (refHas_any _ _ (by decide) _).mono ?_; rintro e w3 ⟨rfl, hx⟩; have hN' := hN.below hx hN.lt; have hB' := hB.trans (hx.mono hB.size); clear hN hB hx; (try clear z0 z1 z2 z3 z4 z5); obtain ⟨z0, z1, z2, z3, z4, z5⟩ := rc_cells hN'; have hN := hN'; have hB := hB'; clear hN' hB'))
    go_ret
    exact ⟨rfl, hB⟩
  have es : (((s : Nat) : Int) != 0) = true := by simp; omega
  have qs : (((s : Nat) : Int) == 0) = false := by simp; omega
  by_cases hl : l = 0
  · subst hl
    by_cases hn : n = 0
    · subst hn
      by_cases hb : b = 0
      · subst hb
        have HQ := Lib.hid (show checkC ⟨s, 5, T.data.toList, 0, 0, 0⟩ = 0 by simp [checkC, ck, ht, rcRange, rcPriced, rcBare, kL, kN, kB, hs])
        rw [HQ.out]
        clear HQ hcl ht ck hs
        generalize cls 0 = c at cC
        have hN := Blk.new (cs := rcCs s 5 T 0 0 0) W 35 _ rfl
        have hB := (Below.refl W.heap.size W).alloc (Nat.le_refl _) (.cells (rcCs s 5 T 0 0 0).toArray 35)
        unfold rcV
        go_enter Tryz.func35, Tryz.ntmps35
        go_wp2_with (first
          | (go_at_call 55; refine (cT _).mono ?_; rintro e w2 ⟨rfl, rfl⟩)
          | (go_at_call 57; refine (cC _).mono ?_; rintro e w2 ⟨rfl, rfl⟩)
          | (go_at_call 56; refine (refHas_any _ _ (by decide) _).mono ?_; rintro e w3 ⟨rfl, hx⟩; have hN' := hN.below hx hN.lt; have hB' := hB.trans (hx.mono hB.size); clear hN hB hx; (try clear z0 z1 z2 z3 z4 z5); obtain ⟨z0, z1, z2, z3, z4, z5⟩ := rc_cells hN'; have hN := hN'; have hB := hB'; clear hN' hB'))
        go_ret
        exact ⟨rfl, hB⟩
      have eb : (((b : Nat) : Int) != 0) = true := by simp; omega
      have qb : (((b : Nat) : Int) == 0) = false := by simp; omega
      have HQ := Lib.hid (show checkC ⟨s, 5, T.data.toList, 0, 0, b⟩ = 2 by simp [checkC, ck, ht, rcRange, rcPriced, rcBare, kL, kN, kB, hs, hb])
      rw [HQ.out]
      clear HQ hcl ht ck hs hb
      generalize cls b = c at cC
      have hN := Blk.new (cs := rcCs s 5 T 0 0 b) W 35 _ rfl
      have hB := (Below.refl W.heap.size W).alloc (Nat.le_refl _) (.cells (rcCs s 5 T 0 0 b).toArray 35)
      unfold rcV
      go_enter Tryz.func35, Tryz.ntmps35
      go_wp2_with (first
        | (go_at_call 55; refine (cT _).mono ?_; rintro e w2 ⟨rfl, rfl⟩)
        | (go_at_call 57; refine (cC _).mono ?_; rintro e w2 ⟨rfl, rfl⟩)
        | (go_at_call 56; refine (refHas_any _ _ (by decide) _).mono ?_; rintro e w3 ⟨rfl, hx⟩; have hN' := hN.below hx hN.lt; have hB' := hB.trans (hx.mono hB.size); clear hN hB hx; (try clear z0 z1 z2 z3 z4 z5); obtain ⟨z0, z1, z2, z3, z4, z5⟩ := rc_cells hN'; have hN := hN'; have hB := hB'; clear hN' hB'))
      go_ret
      exact ⟨rfl, hB⟩
    have en : (((n : Nat) : Int) != 0) = true := by simp; omega
    have qn : (((n : Nat) : Int) == 0) = false := by simp; omega
    have HQ := Lib.hid (show checkC ⟨s, 5, T.data.toList, 0, n, b⟩ = 2 by simp [checkC, ck, ht, rcRange, rcPriced, rcBare, kL, kN, kB, hs, hn])
    rw [HQ.out]
    clear HQ hcl ht ck hs hn
    generalize cls b = c at cC
    have hN := Blk.new (cs := rcCs s 5 T 0 n b) W 35 _ rfl
    have hB := (Below.refl W.heap.size W).alloc (Nat.le_refl _) (.cells (rcCs s 5 T 0 n b).toArray 35)
    unfold rcV
    go_enter Tryz.func35, Tryz.ntmps35
    go_wp2_with (first
      | (go_at_call 55; refine (cT _).mono ?_; rintro e w2 ⟨rfl, rfl⟩)
      | (go_at_call 57; refine (cC _).mono ?_; rintro e w2 ⟨rfl, rfl⟩)
      | (go_at_call 56; refine (refHas_any _ _ (by decide) _).mono ?_; rintro e w3 ⟨rfl, hx⟩; have hN' := hN.below hx hN.lt; have hB' := hB.trans (hx.mono hB.size); clear hN hB hx; (try clear z0 z1 z2 z3 z4 z5); obtain ⟨z0, z1, z2, z3, z4, z5⟩ := rc_cells hN'; have hN := hN'; have hB := hB'; clear hN' hB'))
    go_ret
    exact ⟨rfl, hB⟩
  have el : (((l : Nat) : Int) != 0) = true := by simp; omega
  have ql : (((l : Nat) : Int) == 0) = false := by simp; omega
  have HQ := Lib.hid (show checkC ⟨s, 5, T.data.toList, l, n, b⟩ = 2 by simp [checkC, ck, ht, rcRange, rcPriced, rcBare, kL, kN, kB, hs, hl])
  rw [HQ.out]
  clear HQ hcl ht ck hs hl
  generalize cls b = c at cC
  have hN := Blk.new (cs := rcCs s 5 T l n b) W 35 _ rfl
  have hB := (Below.refl W.heap.size W).alloc (Nat.le_refl _) (.cells (rcCs s 5 T l n b).toArray 35)
  unfold rcV
  go_enter Tryz.func35, Tryz.ntmps35
  go_wp2_with (first
    | (go_at_call 55; refine (cT _).mono ?_; rintro e w2 ⟨rfl, rfl⟩)
    | (go_at_call 57; refine (cC _).mono ?_; rintro e w2 ⟨rfl, rfl⟩)
    | (go_at_call 56; refine (refHas_any _ _ (by decide) _).mono ?_; rintro e w3 ⟨rfl, hx⟩; have hN' := hN.below hx hN.lt; have hB' := hB.trans (hx.mono hB.size); clear hN hB hx; (try clear z0 z1 z2 z3 z4 z5); obtain ⟨z0, z1, z2, z3, z4, z5⟩ := rc_cells hN'; have hN := hN'; have hB := hB'; clear hN' hB'))
  go_ret
  exact ⟨rfl, hB⟩

theorem refCheck_any (s : Nat) (k : Int) (T : ByteArray) (l n b : Nat) (hT : T.size ≤ 10000) (hb : b < 18446744073709551616) (W : World) :
    Calls Tryz.prog 35 #[rcV s k T l n b] W fun e W' => e = .returned (.int .i64 (checkC ⟨s, k, T.data.toList, l, n, b⟩)) ∧ Below W.heap.size W W' := by
  cases hk : isK k
  · exact refCheck_none s k T l n b hT (.inl hk) W
  cases ht : tenantB T.data.toList
  · exact refCheck_none s k T l n b hT (.inr ht) W
  have h : 1 ≤ k ∧ k ≤ 5 := by unfold isK at hk; simpa using hk
  obtain rfl | rfl | rfl | rfl | rfl : k = 1 ∨ k = 2 ∨ k = 3 ∨ k = 4 ∨ k = 5 := by omega
  · exact refCheck_1 s T l n b hT hb ht W
  · exact refCheck_2 s T l n b hT hb ht W
  · exact refCheck_3 s T l n b hT hb ht W
  · exact refCheck_4 s T l n b hT hb ht W
  · exact refCheck_5 s T l n b hT hb ht W

end Go.Proofs.YthjikbhjciphiaaGreatDoor
