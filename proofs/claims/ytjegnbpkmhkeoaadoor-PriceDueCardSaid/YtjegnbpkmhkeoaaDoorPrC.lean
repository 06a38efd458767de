/-
  Walks of the reference of package price: bits, product, Due.
-/
import Derived.Test.YtjegnbpkmhkeoaaDoorPrN
import Derived.Test.YtjegnbpkmhkeoaaDoorPrB
import Derived.Test.YtjegnbpkmhkeoaaDoorVals
import Derived.RegionTactic
import Derived.BigRegion
namespace Go.Proofs.YtjegnbpkmhkeoaaDoor
open Go.RowKit
set_option linter.unusedVariables false
set_option linter.unusedSimpArgs false

theorem Tryd.infoInt : (Tryd.prog.info? 3).map (fun i => (i.zero, i.size, i.bytes)) = some (some (.int .i64 0), 1, 8) := by kernel_rfl

theorem bits_small (n i : Nat) (hn : n < 18446744073709551616) (h : 0 < n / 2 ^ i) : i < 64 := by
  apply Nat.lt_of_not_le
  intro hle
  have : 2 ^ 64 ≤ 2 ^ i := Nat.pow_le_pow_right (by decide) hle
  rw [Nat.div_eq_of_lt (by omega)] at h
  omega

set_option maxHeartbeats 1000000 in
theorem refBits_any (n : Nat) (hn : n < 18446744073709551616) (W : World) :
    Calls Tryd.prog 20 #[.int .u64 n] W fun e W' => ∃ v k, e = .returned v ∧ k ≤ 64 ∧ n < 2 ^ k ∧ W'.ownsRow W.heap.size 3 1 v k ((bitsTo n k).map nv) ∧ Below W.heap.size W W' := by
  obtain ⟨i0, hi, hz0, hz1, hz2⟩ := info_parts Tryd.infoInt
  go_enter Tryd.func20, Tryd.ntmps20
  go_wp2
  go_loopw [0, 3] (fun nv' v wr => ∃ i : Nat, i ≤ 64 ∧ nv' = .int .u64 ((n / 2 ^ i : Nat) : Int) ∧ wr.ownsRow W.heap.size 3 1 v i ((bitsTo n i).map nv) ∧ Below W.heap.size W wr)
    (fun _ v _ => 64 - lenV v)
  case atStart => exact ⟨0, by omega, by rw [Nat.pow_zero, Nat.div_one], World.ownsRow_nil _ _ _ _, Below.refl _ _⟩
  case round =>
    obtain ⟨i, hi64, rfl, hown, hb⟩ := hrel
    have hs := hb.size
    by_cases h0 : 0 < n / 2 ^ i
    · have h64 := bits_small n i hn h0
      have HS := Lib.hid (bitsTo_succ n i)
      have HQ := Lib.hid (show n / 2 ^ (i + 1) = n / 2 ^ i / 2 by rw [Nat.pow_succ, ← Nat.div_div_eq_div_mul])
      have hy : n / 2 ^ i < 18446744073709551616 := Nat.lt_of_le_of_lt (Nat.div_le_self _ _) hn
      obtain ⟨A2, c2, rfl, hn2, hl2, hm2⟩ := own_form hown
      generalize n / 2 ^ i = y at h0 HS HQ hy ⊢
      have HI := Lib.hid h64
      clear h64 hi64 hn
      go_wp2_with (at_builtin; refine wpList_append_vals _ rfl _ _ 38 rfl W.heap.size 3 i0 (.int .i64 0) 8 Tryd.underlying38 hi hz0 hz1 hz2 rfl _ _ _ rfl (hown.alloc _) (wr.heap.size + 1) _ 1 1 [nv (y % 2)] rfl ?c1 ?c2 ?c3 ?c4 ?c5 ?c6 ?_)
      case c1 => exact Vals.one _ _ _ (by unfold nv; rw [Int.natCast_emod]; rfl) _
      case c2 => intro h; cases h
      case c3 => exact nvs_one [y % 2]
      case c4 => have := HI.out; omega
      case c5 => have := HI.out; omega
      case c6 => simp; omega
      intro v' w3 hown' hgrow
      have hb' := own_step hb (Nat.le_refl _) hown hgrow
      clear hown hgrow hb
      obtain ⟨A3, c3, rfl, _, _, _⟩ := own_form hown'
      have HO := Lib.hid hown'
      clear hown'
      go_wp2
      go_roundw
      case rel =>
        have h64 := HI.out
        refine ⟨i + 1, by omega, ?_, ?_, hb'⟩
        · rw [HQ.out]; go_num
        · rw [HS.out, List.map_append]
          exact HO.out
      case measure => have := HI.out; simp [lenV]; omega
    · have hz : n / 2 ^ i = 0 := Nat.eq_zero_of_not_pos h0
      rw [hz]
      have hlt : n < 2 ^ i := by
        have := (Nat.div_eq_zero_iff (a := n) (b := 2 ^ i)).1 hz
        have hp := Nat.two_pow_pos i
        omega
      clear hz h0
      go_wp2
      go_ret
      exact ⟨_, i, rfl, hi64, hlt, hown, hb⟩

/-- The product's relations, behind words of their own. -/
def PRel (B g c : Nat) (n m k1 k2 I K : Nat) (W0 wr : World) : Prop :=
  ∃ out, PInv n m k1 k2 I K out ∧ wr.ownsRow B 3 1 (.slice (some ⟨g, 0, none⟩) (k1 + k2 + 1) c) (k1 + k2 + 1) (out.map nv) ∧ Below B W0 wr
def CRel (B g c : Nat) (V L i : Nat) (W0 wr : World) : Prop :=
  ∃ out, CInv V L i out ∧ wr.ownsRow B 3 1 (.slice (some ⟨g, 0, none⟩) (L + 1) c) (L + 1) (out.map nv) ∧ Below B W0 wr

set_option maxHeartbeats 1000000 in
theorem refProduct_any (n m k1 k2 c1 c2 : Nat) (A1 A2 : Option Addr) (hn : n < 2 ^ k1) (hm : m < 2 ^ k2) (h1 : k1 ≤ 64) (h2 : k2 ≤ 64) (W : World)
    (ha : Vals W W.heap.size A1 k1 ((bitsTo n k1).map nv)) (hb : Vals W W.heap.size A2 k2 ((bitsTo m k2).map nv)) :
    Calls Tryd.prog 19 #[.slice A1 k1 c1, .slice A2 k2 c2] W fun e W' => ∃ v out, e = .returned v ∧ IsBits out ∧ val out = n * m ∧ W'.ownsRow W.heap.size 3 1 v (k1 + k2 + 1) (out.map nv) ∧ Below W.heap.size W W' := by
  obtain ⟨i0, hi, hz0, hz1, hz2⟩ := info_parts Tryd.infoInt
  have HN := Lib.hid (And.intro hn hm)
  clear hn hm
  go_enter Tryd.func19, Tryd.ntmps19
  go_wp2_with (at_make; refine wpList_make_vals _ rfl _ _ 38 rfl W.heap.size 3 i0 (.int .i64 0) 8 Tryd.underlying38 hi hz0 rfl rfl hz1 hz2 .i64 .i64 _ _ (k1 + k2 + 1) (k1 + k2 + 1) rfl rfl ?b1 ?b2 ?b3 ?b4 ?b5 ?b6 ?_)
  case b1 => omega
  case b2 => omega
  case b3 => exact Nat.le_refl _
  case b4 => omega
  case b5 => omega
  case b6 => exact Nat.le_refl _
  intro w1 hown1 hg1
  have hb1 : Below W.heap.size W w1 := (Below.refl _ _).grown hg1 (Nat.le_refl _) (by intro k h; cases h)
  have HR := Lib.hid (show PRel W.heap.size W.heap.size (k1 + k2 + 1) n m k1 k2 0 0 W w1 from ⟨_, PInv.start n m k1 k2, by rw [List.map_replicate]; exact hown1, hb1⟩)
  clear hown1 hg1 hb1
  go_wp2_with fail
  go_loopw [6] (fun iv wr => ∃ I : Nat, I ≤ k1 ∧ iv = .int .i64 I ∧ PRel W.heap.size W.heap.size (k1 + k2 + 1) n m k1 k2 I 0 W wr)
    (fun iv _ => k1 - (intOf iv).toNat)
  case atStart => exact ⟨0, by omega, rfl, HR.out⟩
  case round =>
    obtain ⟨I, hI, rfl, hrel⟩ := hrel
    by_cases hlt : I < k1
    · have HP := Lib.hid hrel
      clear hrel HR
      go_wp2_with fail
      obtain ⟨w2, hw2⟩ : ∃ w2, w2 = wr := ⟨_, rfl⟩
      rw [← hw2] at HP ⊢
      clear hw2 wr
      go_loopw [7] (fun kv wr => ∃ K : Nat, K ≤ k2 ∧ kv = .int .i64 K ∧ PRel W.heap.size W.heap.size (k1 + k2 + 1) n m k1 k2 I K W wr)
        (fun kv _ => k2 - (intOf kv).toNat)
      case atStart => exact ⟨0, by omega, rfl, HP.out⟩
      case round =>
        obtain ⟨K, hK, rfl, hrel⟩ := hrel
        by_cases hlt2 : K < k2
        · obtain ⟨out, hinv, hown, hbel⟩ := hrel
          obtain ⟨hst, hbd⟩ := hinv.step hlt hlt2
          have hol : out.length = k1 + k2 + 1 := hinv.1
          obtain ⟨bA, oA, rfl, hbA, hcA⟩ := ha.nat hlt
          obtain ⟨bB, oB, rfl, hbB, hcB⟩ := hb.nat hlt2
          rw [bitsTo_at n k1 I hlt] at hcA
          rw [bitsTo_at m k2 K hlt2] at hcB
          rw [← hbel.cell (p := ⟨bA, oA + I, none⟩) hbA] at hcA
          rw [← hbel.cell (p := ⟨bB, oB + K, none⟩) hbB] at hcB
          have hcO : wr.cell? ⟨W.heap.size, I + K, none⟩ = some (.int .i64 ((out.getD (I + K) 0 : Nat) : Int)) := by
            rw [hown.cellAt _ (by omega), nvs_at out _ (by omega)]
          have hfz := hown.frozenAt (I + K)
          obtain ⟨x, hx⟩ : ∃ x, x = out.getD (I + K) 0 := ⟨_, rfl⟩
          obtain ⟨y, hy⟩ : ∃ y, y = n / 2 ^ I % 2 := ⟨_, rfl⟩
          obtain ⟨z, hz⟩ : ∃ z, z = m / 2 ^ K % 2 := ⟨_, rfl⟩
          rw [← hx] at hcO hst hbd
          rw [← hy] at hcA hst
          rw [← hz] at hcB hst
          have hy1 : y ≤ 1 := by omega
          have hz1' : z ≤ 1 := by omega
          obtain ⟨p, hp⟩ : ∃ p, p = y * z := ⟨_, rfl⟩
          have hp1 : p ≤ 1 := by rw [hp]; exact Nat.mul_le_mul hy1 hz1'
          have e1 : (y : Int) * (z : Int) = (p : Int) := by rw [hp]; exact (Int.natCast_mul y z).symm
          rw [← hp] at hst
          obtain ⟨s, hs⟩ : ∃ s, s = x + p := ⟨_, rfl⟩
          have e2 : (x : Int) + (p : Int) = (s : Int) := by omega
          rw [← hs] at hst
          have hx2 : x ≤ 5000 := by omega
          have hs2 : s ≤ 5001 := by omega
          have HST := Lib.hid (hown.stored (I + K) (nv s))
          have HIN := Lib.hid hst
          have HB := Lib.hid hbel
          clear hst hinv hown hbel hx hy hz hp hs hol hbd HP ha hb
          go_wp2_with fail
          go_region
          go_wp2
          go_roundw
          case rel =>
            have hst := HST.out
            refine ⟨K + 1, by omega, by go_num, _, HIN.out, ?_, ?_⟩
            · rw [List.map_set]
              exact hst.1.drew
            · exact below_drew (HB.out.grown hst.2 (by have := HB.out.size; omega) (fun g hg => by cases hg; exact Nat.le_refl _))
          case measure => simp [intOf]; omega
        · obtain rfl : K = k2 := by omega
          obtain ⟨out, hinv, hown, hbel⟩ := hrel
          have HP2 := Lib.hid (show PRel W.heap.size W.heap.size (k1 + K + 1) n m k1 K (I + 1) 0 W wr from ⟨out, hinv.row HN.out.2 h2, hown, hbel⟩)
          clear hinv hown hbel HP
          go_wp2
          go_roundw
          case rel => exact ⟨I + 1, by omega, by go_num, HP2.out⟩
          case measure => simp [intOf]; omega
    · obtain rfl : I = k1 := by omega
      obtain ⟨out, hinv, hown, hbel⟩ := hrel
      have HC := Lib.hid (show CRel W.heap.size W.heap.size (I + k2 + 1) (n * m) (I + k2) 0 W wr from ⟨out, CInv.start hinv HN.out.1 h1, hown, hbel⟩)
      clear hinv hown hbel HR
      go_wp2_with fail
      obtain ⟨w2, hw2⟩ : ∃ w2, w2 = wr := ⟨_, rfl⟩
      rw [← hw2] at HC ⊢
      clear hw2 wr
      go_loopw [8] (fun iv wr => ∃ i : Nat, i ≤ I + k2 ∧ iv = .int .i64 i ∧ CRel W.heap.size W.heap.size (I + k2 + 1) (n * m) (I + k2) i W wr)
        (fun iv _ => I + k2 - (intOf iv).toNat)
      case atStart => exact ⟨0, by omega, rfl, HC.out⟩
      case round =>
        obtain ⟨i, hi2, rfl, out, hinv, hown, hbel⟩ := hrel
        have hol : out.length = I + k2 + 1 := hinv.1
        by_cases hlt2 : i < I + k2
        · obtain ⟨hst, hb1, hb2⟩ := hinv.step hlt2
          have hc1 : wr.cell? ⟨W.heap.size, i + 1, none⟩ = some (.int .i64 ((out.getD (i + 1) 0 : Nat) : Int)) := by
            rw [hown.cellAt _ (by omega), nvs_at out _ (by omega)]
          have hc0 : wr.cell? ⟨W.heap.size, i, none⟩ = some (.int .i64 ((out.getD i 0 : Nat) : Int)) := by
            rw [hown.cellAt _ (by omega), nvs_at out _ (by omega)]
          have hf1 := hown.frozenAt (i + 1)
          obtain ⟨x, hx⟩ : ∃ x, x = out.getD (i + 1) 0 := ⟨_, rfl⟩
          obtain ⟨y, hy⟩ : ∃ y, y = out.getD i 0 := ⟨_, rfl⟩
          rw [← hx] at hc1 hst hb1
          rw [← hy] at hc0 hst hb2
          obtain ⟨s, hs⟩ : ∃ s, s = x + y / 2 := ⟨_, rfl⟩
          rw [← hs] at hst
          have e2 : (x : Int) + (y : Int) / 2 = (s : Int) := by omega
          have HST := Lib.hid (hown.stored (i + 1) (nv s))
          have HIN := Lib.hid hst
          have HB := Lib.hid hbel
          clear hst hinv hown hbel hx hy hs hol HC ha hb
          go_wp2_with fail
          go_region
          obtain ⟨w3, hw3⟩ : ∃ w3, w3 = (wr.setCell ⟨W.heap.size, i + 1, none⟩ (.int .i64 (s : Int))).drew := ⟨_, rfl⟩
          have hown3 : w3.ownsRow W.heap.size 3 1 (.slice (some ⟨W.heap.size, 0, none⟩) (I + k2 + 1) (I + k2 + 1)) (I + k2 + 1) ((out.set (i + 1) s).map nv) := by
            rw [hw3, List.map_set]
            exact HST.out.1.drew
          have hb3 : Below W.heap.size W w3 := by
            rw [hw3]
            exact below_drew (HB.out.grown HST.out.2 (by have := HB.out.size; omega) (fun g hg => by cases hg; exact Nat.le_refl _))
          have hc3 : w3.cell? ⟨W.heap.size, i, none⟩ = some (.int .i64 (y : Int)) := by
            rw [← hc0, hw3]
            show (wr.setCell ⟨W.heap.size, i + 1, none⟩ (.int .i64 (s : Int))).cell? ⟨W.heap.size, i, none⟩ = _
            rw [World.cell?_setCell_other]
            intro h
            injection h with _ h _
            omega
          have hf3 := hown3.frozenAt i
          rw [← hw3]
          have HST3 := Lib.hid (hown3.stored i (nv (y % 2)))
          have HB3 := Lib.hid hb3
          have hw3s := hb3.size
          clear hw3 hown3 hb3 hc0 hc1 hf1 e2 HB HST
          go_wp2
          go_roundw
          case rel =>
            have hst := HST3.out
            refine ⟨i + 1, by omega, by go_num, _, HIN.out, ?_, ?_⟩
            · rw [List.map_set]
              exact hst.1
            · exact HB3.out.grown hst.2 (by have := HB3.out.size; omega) (fun g hg => by cases hg; exact Nat.le_refl _)
          case measure => simp [intOf]; omega
        · obtain rfl : i = I + k2 := by omega
          obtain ⟨g1, g2, g3⟩ := hinv.done (by rw [Nat.pow_add]; exact Nat.mul_lt_mul'' HN.out.1 HN.out.2)
          clear hinv HC HN
          go_wp2
          go_ret
          exact ⟨_, out, rfl, g1, g2, hown, hbel⟩

end Go.Proofs.YtjegnbpkmhkeoaaDoor
