/-
  The walk of the law CrcSpoilt.
-/
import Derived.Test.YtcgeelabdajbjaaCrcSp
import Derived.Test.YtcgeelabdajbjaaArr4
import Derived.RegionTactic
import Derived.BigRegion
namespace Go.Proofs.Ytcgeelabdajbjaa
open Go.RowKit
set_option linter.unusedVariables false
set_option linter.unusedSimpArgs false

theorem own_le {w : World} {base : Nat} {e : TypeId} {A : Option Addr} {n c m : Nat} {xs : List Value} (h : w.ownsRow base e 1 (.slice A n c) m xs) : n ≤ c ∧ c ≤ maxLen := by
  obtain ⟨A', c', hv, _, h1, h2⟩ := own_form h
  injection hv with _ e1 e2
  subst e1; subst e2
  exact ⟨h1, h2⟩

theorem below_drew {B : Nat} {a w : World} (h : Below B a w) : Below B a w.drew := ⟨h.os, h.tape, h.output, h.size, h.block⟩

set_option maxHeartbeats 1000000 in
theorem crcSpoilt_walk (A : Option Addr) (n c : Nat) (l : List UInt8) (a : Nat) (x0 x1 x2 x3 : UInt8) (W : World)
    (hl : Byt W W.heap.size A n l) (hnil : A = none → c = 0) (hnc : n ≤ c) (hcm : c ≤ maxLen) (hn : n ≤ 1500) (ha : a ≤ n) (h0 : num [x0, x1, x2, x3] ≠ 0) :
    Calls Try.prog 5 #[.slice A n c, .int .i64 a, arr4 x0 x1 x2 x3] W fun e W' => e = .returned (.bool true) ∧ Below W.heap.size W W' := by
  unfold maxLen at hcm
  have hEq : ∀ w : World, (Op.equalIn 10000 32 (.agg #[.int .u8 ((x0.toNat : Nat) : Int), .int .u8 ((x1.toNat : Nat) : Int), .int .u8 ((x2.toNat : Nat) : Int), .int .u8 ((x3.toNat : Nat) : Int)]) (.agg #[.int .u8 0, .int .u8 0, .int .u8 0, .int .u8 0])).run Try.prog w = .ok false w := by
    intro w
    have h := equal4 x0 x1 x2 x3 0 0 0 0 w
    have hf : decide (x0 = 0 ∧ x1 = 0 ∧ x2 = 0 ∧ x3 = 0) = false := by
      rw [decide_eq_false_iff_not]
      rintro ⟨rfl, rfl, rfl, rfl⟩
      exact h0 rfl
    rw [hf] at h
    exact h
  have HX := Lib.hid (spoilt l n a [x0, x1, x2, x3] hl.1 ha rfl h0)
  have HS4 := Lib.hid (sp_four (sealC l) a n [x0, x1, x2, x3] (by rw [sealC_len, hl.1]) ha rfl)
  have HSL := Lib.hid (show (sealC l).length = n + 4 by rw [sealC_len, hl.1])
  unfold arr4
  clear h0
  go_enter Try.func5, Try.ntmps5
  go_wp2_with fail
  have hX0 : ∀ (k : Nat) (x : UInt8), [x0, x1, x2, x3][k]? = some x → (W.alloc (.cells #[.int .u8 ((x0.toNat : Nat) : Int), .int .u8 ((x1.toNat : Nat) : Int), .int .u8 ((x2.toNat : Nat) : Int), .int .u8 ((x3.toNat : Nat) : Int)] 32)).cell? ⟨W.heap.size, k, none⟩ = some (.int .u8 ((x.toNat : Nat) : Int)) := by
    intro k x hx
    rw [World.cell?_alloc_at _ _ _ _ rfl]
    match k, hx with
    | 0, hx => simp at hx; subst hx; rfl
    | 1, hx => simp at hx; subst hx; rfl
    | 2, hx => simp at hx; subst hx; rfl
    | 3, hx => simp at hx; subst hx; rfl
  refine (refSeal_any W.heap.size A n c l _ (hl.alloc (Nat.le_refl _) _) (by simp) hnil (by omega)).mono ?_
  rintro e w1 ⟨v1, rfl, hown1, hb1⟩
  have hb01 : Below W.heap.size W (W.alloc (.cells #[.int .u8 ((x0.toNat : Nat) : Int), .int .u8 ((x1.toNat : Nat) : Int), .int .u8 ((x2.toNat : Nat) : Int), .int .u8 ((x3.toNat : Nat) : Int)] 32)) := (Below.refl W.heap.size W).alloc (Nat.le_refl _) _
  have hW0 : W.heap.size < (W.alloc (.cells #[.int .u8 ((x0.toNat : Nat) : Int), .int .u8 ((x1.toNat : Nat) : Int), .int .u8 ((x2.toNat : Nat) : Int), .int .u8 ((x3.toNat : Nat) : Int)] 32)).heap.size := by simp
  generalize (W.alloc (.cells #[.int .u8 ((x0.toNat : Nat) : Int), .int .u8 ((x1.toNat : Nat) : Int), .int .u8 ((x2.toNat : Nat) : Int), .int .u8 ((x3.toNat : Nat) : Int)] 32)) = W0 at hX0 hown1 hb1 hb01 hW0
  obtain ⟨g1, c1, rfl, hg1, _⟩ := hown1.form (by omega)
  have HX0 := Lib.hid hX0
  clear hX0 hEq
  have HB := Lib.hid hb01
  clear hb01
  go_wp2_with fail
  go_loopw [8] (fun i wr => ∃ k : Nat, k ≤ 4 ∧ i = .int .i64 k ∧ wr.ownsRow W0.heap.size 5 1 (.slice (some ⟨g1, 0, none⟩) (n + 4) c1) (n + 4) ((sp (sealC l) a [x0, x1, x2, x3] k).map bv) ∧ Below W0.heap.size W0 wr)
    (fun i _ => 4 - (intOf i).toNat)
  case atStart => exact ⟨0, by omega, rfl, hown1, hb1⟩
  case round =>
    obtain ⟨k, hk, rfl, hown, hb⟩ := hrel
    by_cases h4 : k < 4
    · have hsl : (sp (sealC l) a [x0, x1, x2, x3] k).length = n + 4 := (sp_len _ _ _ _).trans HSL.out
      have hxl : [x0, x1, x2, x3][k]? = some ([x0, x1, x2, x3].getD k 0) := by
        rw [List.getD_eq_getElem?_getD, List.getElem?_eq_getElem (show k < [x0, x1, x2, x3].length from h4)]; rfl
      have hyl : (sp (sealC l) a [x0, x1, x2, x3] k)[a + k]? = some ((sp (sealC l) a [x0, x1, x2, x3] k).getD (a + k) 0) := by
        rw [List.getD_eq_getElem?_getD, List.getElem?_eq_getElem (by omega)]; rfl
      have hcx := HX0.out k _ hxl
      rw [← hb.cell hW0] at hcx
      have hcy : wr.cell? ⟨g1, a + k, none⟩ = some (.int .u8 ((((sp (sealC l) a [x0, x1, x2, x3] k).getD (a + k) 0).toNat : Nat) : Int)) := by
        rw [hown.cellAt _ (by omega), List.getElem?_map, hyl]; rfl
      have hfz := hown.frozenAt (a + k)
      have HST := fun u => Lib.hid (hown.stored (a + k) u)
      have HSP := Lib.hid (show sp (sealC l) a [x0, x1, x2, x3] (k + 1) = (sp (sealC l) a [x0, x1, x2, x3] k).set (a + k) ((sp (sealC l) a [x0, x1, x2, x3] k).getD (a + k) 0 ^^^ [x0, x1, x2, x3].getD k 0) from rfl)
      generalize (sp (sealC l) a [x0, x1, x2, x3] k) = s at *
      generalize s.getD (a + k) 0 = y at *
      generalize [x0, x1, x2, x3].getD k 0 = x at *
      have hxo := u8_xor_nat y.toNat x.toNat y.toNat_lt x.toNat_lt
      rw [← UInt8.toNat_xor] at hxo
      clear hown hyl hsl
      go_wp2_with fail
      go_region
      go_wp2
      go_roundw
      case rel =>
        have hst := (HST (.int .u8 ((y.toNat ^^^ x.toNat : Nat) : Int))).out
        have hs := hb.size
        refine ⟨k + 1, by omega, by go_num, ?_, below_drew (hb.grown hst.2 hs (fun g hg => by cases hg; exact hg1))⟩
        rw [HSP.out, List.map_set, show bv (y ^^^ x) = .int .u8 ((y.toNat ^^^ x.toNat : Nat) : Int) by unfold bv; rw [UInt8.toNat_xor]]
        exact hst.1.drew
      case measure => simp [intOf]; omega
    · obtain rfl : k = 4 := by omega
      rw [HS4.out] at hown
      go_wp2_with fail
      refine (open_any _ _ (n + 4) c1 _ _ (Byt.of_own hown) (Nat.le_refl _) (fun h => by cases h) (own_le hown).1 (own_le hown).2 (by omega)).mono ?_
      rintro e w2 ⟨v2, rfl, hown2, hb2⟩
      rw [HX.out]
      have hb3 : Below W.heap.size W w2 := bthen (bthen HB.out hb) hb2
      go_wp2_with (go_at_call 6; refine (awake2_any _).mono ?_; rintro e w7 ⟨rfl, hb7⟩)
      go_ret
      exact ⟨rfl, bthen hb3 hb7⟩

set_option maxHeartbeats 1000000 in
theorem crcSpoilt_law (A : Option Addr) (n c : Nat) (l : List UInt8) (at_ : Int) (x0 x1 x2 x3 : UInt8) (W : World)
    (hl : Byt W W.heap.size A n l) (hnil : A = none → c = 0) (hnc : n ≤ c) (hcm : c ≤ maxLen) (lo : -9223372036854775808 ≤ at_) (hi : at_ ≤ 9223372036854775807) :
    Calls Try.prog 5 #[.slice A n c, .int .i64 at_, arr4 x0 x1 x2 x3] W fun e W' => e = .returned (.bool true) ∧ Below W.heap.size W W' := by
  have hb0 : Below W.heap.size W (W.alloc (.cells #[.int .u8 ((x0.toNat : Nat) : Int), .int .u8 ((x1.toNat : Nat) : Int), .int .u8 ((x2.toNat : Nat) : Int), .int .u8 ((x3.toNat : Nat) : Int)] 32)) := (Below.refl W.heap.size W).alloc (Nat.le_refl _) _
  have HB := Lib.hid hb0
  clear hb0
  by_cases hbig : 1500 < n
  · unfold maxLen at hcm
    unfold arr4
    go_enter Try.func5, Try.ntmps5
    go_wp2_with (go_at_call 6; refine (awake2_any _).mono ?_; rintro e w7 ⟨rfl, hb7⟩)
    go_ret
    exact ⟨rfl, bthen HB.out hb7⟩
  by_cases hneg : at_ < 0
  · unfold maxLen at hcm
    unfold arr4
    go_enter Try.func5, Try.ntmps5
    go_wp2_with (go_at_call 6; refine (awake2_any _).mono ?_; rintro e w7 ⟨rfl, hb7⟩)
    go_ret
    exact ⟨rfl, bthen HB.out hb7⟩
  obtain ⟨a, rfl⟩ := Int.eq_ofNat_of_zero_le (show 0 ≤ at_ by omega)
  by_cases hat : n < a
  · unfold maxLen at hcm
    unfold arr4
    go_enter Try.func5, Try.ntmps5
    go_wp2_with (go_at_call 6; refine (awake2_any _).mono ?_; rintro e w7 ⟨rfl, hb7⟩)
    go_ret
    exact ⟨rfl, bthen HB.out hb7⟩
  by_cases h0 : num [x0, x1, x2, x3] = 0
  · have hz : x0 = 0 ∧ x1 = 0 ∧ x2 = 0 ∧ x3 = 0 := by
      have hh : x0.toNat + 256 * (x1.toNat + 256 * (x2.toNat + 256 * (x3.toNat + 256 * 0))) = 0 := h0
      refine ⟨UInt8.toNat_inj.1 ?_, UInt8.toNat_inj.1 ?_, UInt8.toNat_inj.1 ?_, UInt8.toNat_inj.1 ?_⟩ <;> (show _ = 0; omega)
    obtain ⟨rfl, rfl, rfl, rfl⟩ := hz
    have hEq : ∀ w : World, (Op.equalIn 10000 32 (.agg #[.int .u8 0, .int .u8 0, .int .u8 0, .int .u8 0]) (.agg #[.int .u8 0, .int .u8 0, .int .u8 0, .int .u8 0])).run Try.prog w = .ok true w := fun w => equal4 0 0 0 0 0 0 0 0 w
    unfold maxLen at hcm
    clear h0
    change Calls Try.prog 5 #[.slice A n c, .int .i64 a, .agg #[.int .u8 0, .int .u8 0, .int .u8 0, .int .u8 0]] W _
    go_enter Try.func5, Try.ntmps5
    go_wp2_with (go_at_call 6; refine (awake2_any _).mono ?_; rintro e w7 ⟨rfl, hb7⟩)
    go_ret
    exact ⟨rfl, bthen HB.out hb7⟩
  · exact crcSpoilt_walk A n c l a x0 x1 x2 x3 W hl hnil hnc hcm (by omega) (by omega) h0

end Go.Proofs.Ytcgeelabdajbjaa
