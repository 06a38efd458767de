/-
  The walk of the reference's Due.
-/
import Derived.Test.YtjegnbpkmhkeoaaDoorPrC
namespace Go.Proofs.YtjegnbpkmhkeoaaDoor
open Go.RowKit
set_option linter.unusedVariables false
set_option linter.unusedSimpArgs false

theorem accV_far (l : List Nat) (e : Int) (d : Nat) (t : Int) (hd : d < l.length) (hx : l.getD d 0 = 1) (ht : (d : Int) + e = t) (h : 63 < t) : capM (accV l e 0) = 18446744073709551615 := by
  obtain ⟨a, rfl⟩ := Int.eq_ofNat_of_zero_le (show 0 ≤ t by omega)
  obtain ⟨h1, _⟩ := accV_take l e d a hd hx ht
  have h2 := accV_le l e d
  have h3 : 2 ^ 64 ≤ 2 ^ a := Nat.pow_le_pow_right (by decide) (by omega)
  rw [h1] at h2
  refine capM_max (Nat.le_trans ?_ h2)
  refine Nat.le_trans ?_ (Nat.le_trans h3 (Nat.le_add_left _ _))
  decide

/-- The loop's state: what has been added up. -/
def DInv (l : List Nat) (e : Int) (len : Nat) (ov iv : Value) : Prop :=
  ∃ (c : Nat) (i : Int), c ≤ len ∧ i = (c : Int) - 1 ∧ iv = .int .i64 i ∧ ov = .int .u64 ((accV l e c : Nat) : Int) ∧ accV l e c < 18446744073709551616

theorem refDue_no (n b : Nat) (hb : b < 18446744073709551616) (hq : partsIs b = false) (W : World) :
    Calls Tryd.prog 8 #[.int .u64 n, .int .u64 b] W fun e W' => e = .returned (.tuple #[.int .u64 0, .bool false]) ∧ W = W' := by
  have cp := refParts_any b hb W
  rw [hq] at cp
  have hm := partsM_lt b hb
  obtain ⟨he0, he1⟩ := partsE_in b hb
  clear hq
  generalize partsM b = m at cp hm
  generalize partsE b = p at cp he0 he1
  go_enter Tryd.func8, Tryd.ntmps8
  go_wp2_with (go_at_call 18; refine cp.mono ?_; rintro e w' ⟨rfl, rfl⟩)
  go_ret2
  exact ⟨rfl, rfl⟩

set_option maxHeartbeats 1000000 in
theorem refDue_yes (n b : Nat) (hn : n < 18446744073709551616) (hb : b < 18446744073709551616) (hq : partsIs b = true) (W : World) :
    Calls Tryd.prog 8 #[.int .u64 n, .int .u64 b] W fun e W' => e = .returned (.tuple #[.int .u64 (dueV n b : Nat), .bool true]) ∧ Below W.heap.size W W' := by
  have cp := refParts_any b hb W
  rw [hq] at cp
  have hm := partsM_lt b hb
  obtain ⟨he0, he1⟩ := partsE_in b hb
  rw [← due_parts]
  clear hq
  generalize partsM b = m at cp hm ⊢
  generalize partsE b = p at cp he0 he1 ⊢
  obtain ⟨V, hV⟩ : ∃ V, V = capM (scale (n * m) p) := ⟨_, rfl⟩
  rw [← hV]
  have HV := Lib.hid hV
  clear hV
  go_enter Tryd.func8, Tryd.ntmps8
  go_wp2_with (go_at_call 18; refine cp.mono ?_; rintro e w' ⟨rfl, rfl⟩)
  refine (refBits_any n hn _).mono ?_
  rintro e1 w1 ⟨v1, k1, rfl, hk1, hn1, hown1, hb1⟩
  obtain ⟨A1, c1, rfl, _, _, _⟩ := own_form hown1
  have hv1 := Vals.of_own hown1
  have HH := Lib.hid hb1
  clear hown1 hb1 cp
  go_wp2_with fail
  refine (refBits_any m (by omega) _).mono ?_
  rintro e2 w2 ⟨v2, k2, rfl, hk2, hm2, hown2, hb2⟩
  obtain ⟨A2, c2, rfl, _, _, _⟩ := own_form hown2
  have hv2 := Vals.of_own hown2
  have hv1' := (hv1.below hb2).more hb2.size
  have HH2 := Lib.hid (bthen HH.out hb2)
  clear hown2 hb2 hv1
  go_wp2_with fail
  refine (refProduct_any n m k1 k2 c1 c2 A1 A2 hn1 hm2 hk1 hk2 _ hv1' hv2).mono ?_
  rintro e3 w3 ⟨v3, l, rfl, hbits, hval, hown3, hb3⟩
  obtain ⟨A3, c3, rfl, _, hle3, hmx3⟩ := own_form hown3
  have hv3 := Vals.of_own hown3
  have HH3 := Lib.hid (bthen HH2.out hb3)
  have hlen : l.length = k1 + k2 + 1 := by have := hv3.1; rwa [List.length_map] at this
  have HE := Lib.hid (And.intro hbits (And.intro hval hlen))
  have HS := Lib.hid (show accV l p (k1 + k2 + 1) = 0 from accV_end l p _ (by omega))
  clear hown3 hb3 hbits hval hlen hv1' hv2 hn1 hm2
  go_wp2_with fail
  go_loop [10, 11] (fun ov iv => DInv l p (k1 + k2 + 1) ov iv) (fun _ iv => (intOf iv + 1).toNat)
  case atStart => exact ⟨k1 + k2 + 1, _, Nat.le_refl _, rfl, by congr 1; omega, by rw [HS.out]; rfl, by rw [HS.out]; decide⟩
  case round =>
    obtain ⟨c, i, hc, hi, rfl, rfl, hlt⟩ := hrel
    have hlen := HE.out.2.2
    by_cases h0 : 0 < c
    · obtain ⟨d, rfl⟩ : ∃ d, c = d + 1 := ⟨c - 1, by omega⟩
      obtain rfl : i = (d : Int) := by omega
      have hd : d < l.length := by omega
      have hbit := HE.out.1 d
      obtain ⟨bA, oA, rfl, hbA, hcA⟩ := hv3.nat (k := d) (by omega)
      obtain ⟨t, ht⟩ : ∃ t : Int, (d : Int) + p = t := ⟨_, rfl⟩
      have ht1 : -2000 ≤ t := by omega
      have ht2 : t ≤ 4000 := by omega
      have hdd : d ≤ 200 := by omega
      have hdx : (d : Int) < (k1 : Int) + k2 + 1 := by omega
      have HD := Lib.hid hd
      have HC := Lib.hid hc
      clear hi hlen hd hc h0
      by_cases hx0 : l.getD d 0 = 0
      · have HK := Lib.hid (accV_skip l p d HD.out hbit (.inl hx0))
        rw [hx0] at hcA
        replace hcA : w3.cell? ⟨bA, oA + d, none⟩ = some (.int .i64 0) := hcA
        have HL := Lib.hid hlt
        generalize accV l p (d + 1) = y at HK HL hlt ⊢
        clear hx0 hbit
        go_wp2
        go_round
        case rel => exact ⟨d, _, by have := HC.out; omega, rfl, rfl, by rw [HK.out], by rw [HK.out]; exact HL.out⟩
        case measure => simp [intOf]
      · have hx1 : l.getD d 0 = 1 := by omega
        rw [hx1] at hcA
        replace hcA : w3.cell? ⟨bA, oA + d, none⟩ = some (.int .i64 1) := hcA
        have HX := Lib.hid hx1
        have HT := Lib.hid ht
        by_cases hneg : t < 0
        · have HK := Lib.hid (accV_skip l p d HD.out hbit (.inr (by omega)))
          have HL := Lib.hid hlt
          generalize accV l p (d + 1) = y at HK HL hlt ⊢
          clear hx0 hbit hx1
          go_wp2
          go_round
          case rel => exact ⟨d, _, by have := HC.out; omega, rfl, rfl, by rw [HK.out], by rw [HK.out]; exact HL.out⟩
          case measure => simp [intOf]
        · by_cases hfar : 63 < t
          · have hVm : V = 18446744073709551615 := by
              rw [HV.out, ← HE.out.2.1, ← accV_zero]
              exact accV_far l p d t HD.out hx1 ht hfar
            generalize accV l p (d + 1) = y at hlt ⊢
            subst hVm
            clear hx0 hbit hx1
            go_wp2
            go_ret2
            exact ⟨rfl, HH3.out⟩
          · obtain ⟨a, rfl⟩ := Int.eq_ofNat_of_zero_le (show 0 ≤ t by omega)
            obtain ⟨hk1, H, hk2⟩ := accV_take l p d a HD.out hx1 ht
            have hroom := accV_room _ H a hk2 hlt (by omega)
            have HK := Lib.hid hk1
            obtain ⟨q, hq⟩ : ∃ q, q = 2 ^ a := ⟨_, rfl⟩
            have e1 : (2 : Int) ^ a = (q : Int) := by rw [hq, Int.natCast_pow]; rfl
            rw [← hq] at hroom
            have HQ := Lib.hid hq
            have ha : a ≤ 63 := by omega
            generalize accV l p (d + 1) = y at HK hlt hroom ⊢
            obtain ⟨s, hs⟩ : ∃ s, s = y + q := ⟨_, rfl⟩
            have e2 : (y : Int) + q = (s : Int) := by omega
            have hq2 : q ≤ 18446744073709551615 := by omega
            have hs2 : s < 18446744073709551616 := by omega
            have HS2 := Lib.hid hs
            clear hx0 hbit hx1 hk1 hk2 hq hs hroom
            go_wp2
            go_round
            case rel => exact ⟨d, _, by have := HC.out; omega, rfl, rfl, by rw [HK.out, ← HQ.out, ← HS2.out], by rw [HK.out, ← HQ.out, ← HS2.out]; exact hs2⟩
            case measure => simp [intOf]
    · obtain rfl : c = 0 := by omega
      obtain rfl : i = -1 := by omega
      have hVm : V = accV l p 0 := by
        rw [HV.out, ← HE.out.2.1, ← accV_zero]
        exact capM_id (by omega)
      rw [← hVm]
      clear hVm hlt hlen hc h0 hi
      go_wp2
      go_ret2
      exact ⟨rfl, HH3.out⟩

end Go.Proofs.YtjegnbpkmhkeoaaDoor
