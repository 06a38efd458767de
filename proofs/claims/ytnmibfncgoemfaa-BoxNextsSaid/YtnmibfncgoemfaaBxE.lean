/-
  The statement BoxSpoilt by the program's contracts.
-/
import Derived.Test.YtnmibfncgoemfaaBxD
import Derived.Test.YtnmibfncgoemfaaCrcSpoiltWalk
namespace Go.Proofs.Ytnmibfncgoemfaa
open Go.RowKit
set_option linter.unusedVariables false
set_option linter.unusedSimpArgs false

set_option maxHeartbeats 1000000 in
theorem boxSpoilt_walk (C : BoxC) (A : Option Addr) (n c : Nat) (l : List UInt8) (a : Nat) (x0 x1 x2 x3 : UInt8) (W : World)
    (hl : Byt W W.heap.size A n l) (hnil : A = none → c = 0) (hnc : n ≤ c) (hcm : c ≤ maxLen) (hn1 : 1 ≤ n) (hn : n ≤ 300) (ha : a ≤ n) (h0 : num [x0, x1, x2, x3] ≠ 0) :
    Calls Try.prog 6 #[.slice A n c, .int .i64 a, arr4 x0 x1 x2 x3] W fun e W' => e = .returned (.bool true) ∧ Below W.heap.size W W' := by
  unfold maxLen at hcm
  have hEq : ∀ w : World, (Op.equalIn 10000 38 (.agg #[.int .u8 ((x0.toNat : Nat) : Int), .int .u8 ((x1.toNat : Nat) : Int), .int .u8 ((x2.toNat : Nat) : Int), .int .u8 ((x3.toNat : Nat) : Int)]) (.agg #[.int .u8 0, .int .u8 0, .int .u8 0, .int .u8 0])).run Try.prog w = .ok false w := by
    intro w
    have h := equal4 x0 x1 x2 x3 0 0 0 0 w
    have hf : decide (x0 = 0 ∧ x1 = 0 ∧ x2 = 0 ∧ x3 = 0) = false := by
      rw [decide_eq_false_iff_not]
      rintro ⟨rfl, rfl, rfl, rfl⟩
      exact h0 rfl
    rw [hf] at h
    exact h
  have hln := hl.1
  have hsp := sp_four (boxC l) (2 + a) (n + 2) [x0, x1, x2, x3] (by rw [boxC_len, hln]) (by omega) rfl
  have hhs := head_spoilt l a [x0, x1, x2, x3] (by omega) (by omega) (by omega) rfl h0
  rw [hln, show n - a = n + 2 - (2 + a) by omega, ← hsp] at hhs
  obtain ⟨P, hP⟩ : ∃ P, 2 + a = P := ⟨_, rfl⟩
  rw [hP] at hhs
  have hPi : (2 : Int) + (a : Int) = (P : Int) := by omega
  have hPb : P ≤ n + 2 := by omega
  obtain ⟨N, hN⟩ : ∃ N, n + 6 = N := ⟨_, rfl⟩
  have HN := Lib.hid (show n + 6 = N ∧ P + 4 ≤ N ∧ N ≤ 400 by omega)
  have HX := Lib.hid (show nextC (sp (boxC l) P [x0, x1, x2, x3] 4) 0 = ([], 0, 4) from next_head (sp (boxC l) P [x0, x1, x2, x3] 4) 0 (Nat.zero_le _) 4 (by decide) (by simpa using hhs))
  have HSL := Lib.hid (show (boxC l).length = N by rw [boxC_len, hln, hN])
  have g1 : ((n : Int) == 0) = false := by simp; omega
  have g2 : ¬ (300 : Int) < (n : Int) := by omega
  have g3 : ¬ (a : Int) < 0 := by omega
  have g4 : ¬ (n : Int) < (a : Int) := by omega
  unfold arr4
  clear h0 hsp hhs hP hN hPb
  go_enter Try.func6, Try.ntmps6
  go_wp2_with fail
  have hX0 : ∀ (k : Nat) (x : UInt8), [x0, x1, x2, x3][k]? = some x → (W.alloc (.cells #[.int .u8 ((x0.toNat : Nat) : Int), .int .u8 ((x1.toNat : Nat) : Int), .int .u8 ((x2.toNat : Nat) : Int), .int .u8 ((x3.toNat : Nat) : Int)] 38)).cell? ⟨W.heap.size, k, none⟩ = some (.int .u8 ((x.toNat : Nat) : Int)) := by
    intro k x hx
    rw [World.cell?_alloc_at _ _ _ _ rfl]
    match k, hx with
    | 0, hx => simp at hx; subst hx; rfl
    | 1, hx => simp at hx; subst hx; rfl
    | 2, hx => simp at hx; subst hx; rfl
    | 3, hx => simp at hx; subst hx; rfl
  refine (refBox_any W.heap.size A n c l _ (hl.alloc (Nat.le_refl _) _) (by simp) hnil (by omega)).mono ?_
  rintro e w1 ⟨v1, rfl, hown1, hb1⟩
  have hb01 : Below W.heap.size W (W.alloc (.cells #[.int .u8 ((x0.toNat : Nat) : Int), .int .u8 ((x1.toNat : Nat) : Int), .int .u8 ((x2.toNat : Nat) : Int), .int .u8 ((x3.toNat : Nat) : Int)] 38)) := (Below.refl W.heap.size W).alloc (Nat.le_refl _) _
  have hW0 : W.heap.size < (W.alloc (.cells #[.int .u8 ((x0.toNat : Nat) : Int), .int .u8 ((x1.toNat : Nat) : Int), .int .u8 ((x2.toNat : Nat) : Int), .int .u8 ((x3.toNat : Nat) : Int)] 38)).heap.size := by simp
  generalize (W.alloc (.cells #[.int .u8 ((x0.toNat : Nat) : Int), .int .u8 ((x1.toNat : Nat) : Int), .int .u8 ((x2.toNat : Nat) : Int), .int .u8 ((x3.toNat : Nat) : Int)] 38)) = W0 at hX0 hown1 hb1 hb01 hW0
  rw [HN.out.1] at hown1
  obtain ⟨g1, c1, rfl, hg1, _⟩ := hown1.form (by have := HN.out; omega)
  have HX0 := Lib.hid hX0
  clear hX0 hEq
  have HB := Lib.hid hb01
  clear hb01
  go_wp2_with fail
  go_loopw [8] (fun i wr => ∃ k : Nat, k ≤ 4 ∧ i = .int .i64 k ∧ wr.ownsRow W0.heap.size 5 1 (.slice (some ⟨g1, 0, none⟩) N c1) N ((sp (boxC l) P [x0, x1, x2, x3] k).map bv) ∧ Below W0.heap.size W0 wr)
    (fun i _ => 4 - (intOf i).toNat)
  case atStart => exact ⟨0, by omega, rfl, hown1, hb1⟩
  case round =>
    obtain ⟨k, hk, rfl, hown, hb⟩ := hrel
    by_cases h4 : k < 4
    · have hsl : (sp (boxC l) P [x0, x1, x2, x3] k).length = N := (sp_len _ _ _ _).trans HSL.out
      have hxl : [x0, x1, x2, x3][k]? = some ([x0, x1, x2, x3].getD k 0) := by
        rw [List.getD_eq_getElem?_getD, List.getElem?_eq_getElem (show k < [x0, x1, x2, x3].length from h4)]; rfl
      have hPN : P + k < N := by have := HN.out; omega
      have hyl : (sp (boxC l) P [x0, x1, x2, x3] k)[P + k]? = some ((sp (boxC l) P [x0, x1, x2, x3] k).getD (P + k) 0) := by
        rw [List.getD_eq_getElem?_getD, List.getElem?_eq_getElem (by omega)]; rfl
      have hcx := HX0.out k _ hxl
      rw [← hb.cell hW0] at hcx
      have hcy : wr.cell? ⟨g1, P + k, none⟩ = some (.int .u8 ((((sp (boxC l) P [x0, x1, x2, x3] k).getD (P + k) 0).toNat : Nat) : Int)) := by
        rw [hown.cellAt _ (by omega), List.getElem?_map, hyl]; rfl
      have hfz := hown.frozenAt (P + k)
      have HST := fun u => Lib.hid (hown.stored (P + k) u)
      have HSP := Lib.hid (show sp (boxC l) P [x0, x1, x2, x3] (k + 1) = (sp (boxC l) P [x0, x1, x2, x3] k).set (P + k) ((sp (boxC l) P [x0, x1, x2, x3] k).getD (P + k) 0 ^^^ [x0, x1, x2, x3].getD k 0) from rfl)
      generalize (sp (boxC l) P [x0, x1, x2, x3] k) = s at *
      generalize s.getD (P + k) 0 = y at *
      generalize [x0, x1, x2, x3].getD k 0 = x at *
      have hxo := u8_xor_nat y.toNat x.toNat y.toNat_lt x.toNat_lt
      rw [← UInt8.toNat_xor] at hxo
      have hP4 : P ≤ 400 := by have := HN.out; omega
      clear hown hyl hsl
      go_wp2_with fail
      go_region
      go_wp2
      go_roundw
      case rel =>
        have hst := (HST (.int .u8 ((y.toNat ^^^ x.toNat : Nat) : Int))).out
        have hs := hb.size
        refine ⟨k + 1, by omega, by go_num, ?_, below_drew (hb.grown hst.2 hs (fun g hg => by cases hg; exact hg1))⟩
        rw [HSP.out, List.map_set, show bv (y ^^^ x) = .int .u8 ((y.toNat ^^^ x.toNat : Nat) : Int) by unfold bv; rw [UInt8.toNat_xor]]
        exact hst.1.drew
      case measure => simp [intOf]; omega
    · obtain rfl : k = 4 := by omega
      have hNx := C.next _ N c1 _ 0 wr (Byt.of_own hown) (fun h => by cases h) (own_le hown).1 (own_le hown).2 (by have := HN.out; omega)
      rw [HX.out] at hNx
      unfold NextQ at hNx
      simp only at hNx
      go_wp2_with fail
      refine hNx.mono ?_
      rintro e w2 ⟨A2, m2, c2, rfl, hx2, _, _, _, hb2⟩
      obtain rfl : 0 = m2 := hx2.1
      have hb3 : Below W.heap.size W w2 := bthen (bthen HB.out hb) hb2
      go_wp2_with (go_at_call 7; refine (awake12_any C _).mono ?_; rintro e w7 ⟨rfl, hb7⟩)
      go_ret
      exact ⟨rfl, bthen hb3 hb7⟩

theorem boxSpoilt_law (C : BoxC) (A : Option Addr) (n c : Nat) (l : List UInt8) (at_ : Int) (x0 x1 x2 x3 : UInt8) (W : World)
    (hl : Byt W W.heap.size A n l) (hnil : A = none → c = 0) (hnc : n ≤ c) (hcm : c ≤ maxLen) (lo : -9223372036854775808 ≤ at_) (hi : at_ ≤ 9223372036854775807) :
    Calls Try.prog 6 #[.slice A n c, .int .i64 at_, arr4 x0 x1 x2 x3] W fun e W' => e = .returned (.bool true) ∧ Below W.heap.size W W' := by
  have hA := fun w => awake12_any C w
  have hb0 : Below W.heap.size W (W.alloc (.cells #[.int .u8 ((x0.toNat : Nat) : Int), .int .u8 ((x1.toNat : Nat) : Int), .int .u8 ((x2.toNat : Nat) : Int), .int .u8 ((x3.toNat : Nat) : Int)] 38)) := (Below.refl W.heap.size W).alloc (Nat.le_refl _) _
  have HB := Lib.hid hb0
  clear hb0
  have hcm' : c ≤ 9223372036854775807 := hcm
  by_cases hcase : ((n : Int) == 0) = true ∨ (((n : Int) == 0) = false ∧ (300 : Int) < (n : Int)) ∨ (((n : Int) == 0) = false ∧ ¬ (300 : Int) < (n : Int) ∧ at_ < 0) ∨ (((n : Int) == 0) = false ∧ ¬ (300 : Int) < (n : Int) ∧ ¬ at_ < 0 ∧ (n : Int) < at_)
  · unfold arr4
    rcases hcase with k1 | ⟨k1, k2⟩ | ⟨k1, k2, k3⟩ | ⟨k1, k2, k3, k4⟩
    all_goals
      go_enter Try.func6, Try.ntmps6
      go_wp2_with (go_at_call 7; refine (hA _).mono ?_; rintro e w7 ⟨rfl, hb7⟩)
      go_ret
      exact ⟨rfl, bthen HB.out hb7⟩
  have hn0 : ¬ n = 0 := fun h => hcase (.inl (by simp [h]))
  have hq0 : ((n : Int) == 0) = false := by simp; omega
  have h300 : ¬ 300 < n := fun h => hcase (.inr (.inl ⟨hq0, by omega⟩))
  have hlo : ¬ at_ < 0 := fun h => hcase (.inr (.inr (.inl ⟨hq0, by omega, h⟩)))
  have hhi : ¬ (n : Int) < at_ := fun h => hcase (.inr (.inr (.inr ⟨hq0, by omega, hlo, h⟩)))
  clear hcase
  obtain ⟨a, rfl⟩ := Int.eq_ofNat_of_zero_le (show 0 ≤ at_ by omega)
  by_cases h0 : num [x0, x1, x2, x3] = 0
  · have hz : x0 = 0 ∧ x1 = 0 ∧ x2 = 0 ∧ x3 = 0 := by
      have hh : x0.toNat + 256 * (x1.toNat + 256 * (x2.toNat + 256 * (x3.toNat + 256 * 0))) = 0 := h0
      refine ⟨UInt8.toNat_inj.1 ?_, UInt8.toNat_inj.1 ?_, UInt8.toNat_inj.1 ?_, UInt8.toNat_inj.1 ?_⟩ <;> (show _ = 0; omega)
    obtain ⟨rfl, rfl, rfl, rfl⟩ := hz
    have hEq : ∀ w : World, (Op.equalIn 10000 38 (.agg #[.int .u8 0, .int .u8 0, .int .u8 0, .int .u8 0]) (.agg #[.int .u8 0, .int .u8 0, .int .u8 0, .int .u8 0])).run Try.prog w = .ok true w := fun w => equal4 0 0 0 0 0 0 0 0 w
    have k2 : ¬ (300 : Int) < (n : Int) := by omega
    clear h0
    change Calls Try.prog 6 #[.slice A n c, .int .i64 a, .agg #[.int .u8 0, .int .u8 0, .int .u8 0, .int .u8 0]] W _
    go_enter Try.func6, Try.ntmps6
    go_wp2_with (go_at_call 7; refine (hA _).mono ?_; rintro e w7 ⟨rfl, hb7⟩)
    go_ret
    exact ⟨rfl, bthen HB.out hb7⟩
  · exact boxSpoilt_walk C A n c l a x0 x1 x2 x3 W hl hnil hnc hcm (by omega) (by omega) (by omega) h0

end Go.Proofs.Ytnmibfncgoemfaa
