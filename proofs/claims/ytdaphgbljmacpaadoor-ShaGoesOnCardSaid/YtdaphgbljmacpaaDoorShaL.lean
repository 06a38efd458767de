/-
  Walks of the laws of package sha: whether the program answers at all; what follows n bytes; the digest of any bytes.
-/
import Derived.Test.YtdaphgbljmacpaaDoorShaT
import Derived.Test.YtdaphgbljmacpaaDoorShaV
namespace Go.Proofs.YtdaphgbljmacpaaDoor
open Go.RowKit
set_option linter.unusedVariables false
set_option linter.unusedSimpArgs false

theorem abc_v : (Value.agg ((shaD [97, 98, 99]).map bv).toArray) = .agg #[.int .u8 186, .int .u8 120, .int .u8 22, .int .u8 191, .int .u8 143, .int .u8 1, .int .u8 207, .int .u8 234, .int .u8 65, .int .u8 65, .int .u8 64, .int .u8 222, .int .u8 93, .int .u8 174, .int .u8 34, .int .u8 35, .int .u8 176, .int .u8 3, .int .u8 97, .int .u8 163, .int .u8 150, .int .u8 23, .int .u8 122, .int .u8 156, .int .u8 180, .int .u8 16, .int .u8 255, .int .u8 97, .int .u8 242, .int .u8 0, .int .u8 21, .int .u8 173] := by rw [shaD_abc]; rfl
def abcL : List Value := [.int .u8 186, .int .u8 120, .int .u8 22, .int .u8 191, .int .u8 143, .int .u8 1, .int .u8 207, .int .u8 234, .int .u8 65, .int .u8 65, .int .u8 64, .int .u8 222, .int .u8 93, .int .u8 174, .int .u8 34, .int .u8 35, .int .u8 176, .int .u8 3, .int .u8 97, .int .u8 163, .int .u8 150, .int .u8 23, .int .u8 122, .int .u8 156, .int .u8 180, .int .u8 16, .int .u8 255, .int .u8 97, .int .u8 242, .int .u8 0, .int .u8 21, .int .u8 173]
theorem abc_one : ∀ v ∈ abcL, v.oneCell' = true := by decide

theorem shaSum_abc (A : Option Addr) (W : World) (l : List UInt8) (hq : l = [97, 98, 99]) (hl : Byt W W.heap.size A 3 l) (hA : A = none → (3 : Nat) = 0) (hC : CK W) :
    Calls Tryd.prog 8 #[.slice A 3 3] W fun e W' => e = .returned (.agg abcL.toArray) ∧ Below W.heap.size W W' := by
  refine (shaSum_any A 3 3 l W hl hA (by decide) (by decide) (by decide) hC).mono fun e W' h => ⟨h.1.trans ?_, h.2⟩
  rw [hq, abc_v]; rfl

set_option maxRecDepth 100000 in
set_option maxHeartbeats 1000000 in
theorem awake3_any (W : World) (hC : CK W) :
    Calls Tryd.prog 7 #[] W fun e W' => e = .returned (.bool true) ∧ Below W.heap.size W W' := by
  have hp : padZ 3 = 52 := rfl
  have kc := fun (w : World) (C : Array Value) (n c : Nat) => Lib.run_convert_bytes_const (P := Tryd.prog) w 22 5 C n c Tryd.underlying22 Tryd.underlying5
  have hlit := Byt.lit W [97, 98, 99] #[.int .u8 97, .int .u8 98, .int .u8 99] rfl 5 (3, 4) 3 rfl
  have HL := Lib.hid hlit
  clear hlit
  have HC := Lib.hid (hC.alloc (.cells #[.int .u8 97, .int .u8 98, .int .u8 99] 5 (3, 4)))
  have HB := Lib.hid (show Below W.heap.size W (W.alloc (.cells #[.int .u8 97, .int .u8 98, .int .u8 99] 5 (3, 4))) from (Below.refl W.heap.size W).alloc (Nat.le_refl _) _)
  go_enter Tryd.func7, Tryd.ntmps7
  have z32 : (#[.int .u8 0, .int .u8 0, .int .u8 0, .int .u8 0, .int .u8 0, .int .u8 0, .int .u8 0, .int .u8 0, .int .u8 0, .int .u8 0, .int .u8 0, .int .u8 0, .int .u8 0, .int .u8 0, .int .u8 0, .int .u8 0, .int .u8 0, .int .u8 0, .int .u8 0, .int .u8 0, .int .u8 0, .int .u8 0, .int .u8 0, .int .u8 0, .int .u8 0, .int .u8 0, .int .u8 0, .int .u8 0, .int .u8 0, .int .u8 0, .int .u8 0, .int .u8 0] : Array Value) = (zL.map bv).toArray := rfl
  go_wp2_with fail
  refine (shaSum_abc _ _ [97, 98, 99] rfl (by have := HL.out; rw [World.size_alloc]; exact this) (fun h => by cases h) HC.out).mono ?_
  rintro e w2 ⟨rfl, hb2⟩
  have hz := Blk.new (cs := zL.map bv) w2 24 _ rfl
  have hbz : Below W.heap.size W (w2.alloc (.cells (zL.map bv).toArray 24)) := (bthen HB.out hb2).alloc (Nat.le_trans HB.out.size hb2.size) _
  have hR := hz.row abcL
  have hbr := below_row hbz (g := w2.heap.size) (Nat.le_trans HB.out.size hb2.size) abcL.toArray
  go_wp2_with (first
    | (refine st_blk rfl 24 _ _ rfl w2.heap.size abcL rfl rfl 24 (zL.map bv) hz (by kernel_rfl) (by rw [List.length_map]; rfl) abc_one ?_;
       generalize (w2.alloc (.cells (zL.map bv).toArray 24)).setRow w2.heap.size abcL.toArray = w3 at hR hbr ⊢;
       have k0 : w3.cell? ⟨w2.heap.size, 0, none⟩ = some (.int .u8 186) := hR.cell 0;
       have k1 : w3.cell? ⟨w2.heap.size, 1, none⟩ = some (.int .u8 120) := hR.cell 1;
       have k31 : w3.cell? ⟨w2.heap.size, 31, none⟩ = some (.int .u8 173) := hR.cell 31)
    | (go_at_call 15; refine (pad_any 3 (by decide) _).mono ?_; rintro e w4 ⟨v, rfl, hown, hb4⟩; obtain ⟨g3, c3, rfl, hg3, _⟩ := hown.form (by decide)))
  go_ret
  exact ⟨rfl, bthen hbr hb4⟩

/-- An array's block, sliced whole. -/
theorem Byt.of_blk {w : World} {g : Nat} {t : TypeId} {l : List UInt8} {n : Nat} (h : Blk w g t (l.map bv)) (hn : l.length = n) : Byt w w.heap.size (some ⟨g, 0, none⟩) n l :=
  ⟨hn, fun _ => ⟨g, 0, rfl, h.lt, fun j x hx => by rw [Nat.zero_add, h.cell, List.getElem?_map, hx]; rfl⟩⟩

set_option maxRecDepth 100000 in
set_option maxHeartbeats 2000000 in
theorem shaSums_law (A : Option Addr) (n c : Nat) (l : List UInt8) (W : World)
    (hl : Byt W W.heap.size A n l) (hnil : A = none → c = 0) (hnc : n ≤ c) (hcm : c ≤ maxLen) (hC : CK W) :
    Calls Tryd.prog 3 #[.slice A n c] W fun e W' => e = .returned (.bool true) ∧ Below W.heap.size W W' := by
  by_cases hbig : 1000 < n
  · unfold maxLen at hcm
    go_enter Tryd.func3, Tryd.ntmps3
    go_wp2_with (go_at_call 7; refine (awake3_any _ hC).mono ?_; rintro e w' ⟨rfl, hb⟩)
    go_ret
    exact ⟨rfl, hb⟩
  have z32 : (#[.int .u8 0, .int .u8 0, .int .u8 0, .int .u8 0, .int .u8 0, .int .u8 0, .int .u8 0, .int .u8 0, .int .u8 0, .int .u8 0, .int .u8 0, .int .u8 0, .int .u8 0, .int .u8 0, .int .u8 0, .int .u8 0, .int .u8 0, .int .u8 0, .int .u8 0, .int .u8 0, .int .u8 0, .int .u8 0, .int .u8 0, .int .u8 0, .int .u8 0, .int .u8 0, .int .u8 0, .int .u8 0, .int .u8 0, .int .u8 0, .int .u8 0, .int .u8 0] : Array Value) = (zL.map bv).toArray := rfl
  obtain ⟨D, hD⟩ : ∃ D, D = shaD l := ⟨_, rfl⟩
  have hDl : D.length = 32 := by rw [hD]; exact shaD_len l
  have HD := Lib.hid hD
  clear hD
  go_enter Tryd.func3, Tryd.ntmps3
  go_wp2_with fail
  refine (shaSum_any A n c l W hl hnil hnc hcm (by omega) hC).mono ?_
  rintro e w2 ⟨rfl, hb2⟩
  rw [← HD.out]
  have hz := Blk.new (cs := zL.map bv) w2 24 _ rfl
  have hR := hz.row (D.map bv)
  have hbr := below_row (hb2.alloc hb2.size (.cells (zL.map bv).toArray 24)) (g := w2.heap.size) hb2.size (D.map bv).toArray
  have hDm : (D.map bv).length = 32 := by rw [List.length_map, hDl]
  have HR := Lib.hid hR
  have HB := Lib.hid hbr
  clear hR hbr
  go_wp2_with (refine st_blk rfl 24 _ _ rfl w2.heap.size (D.map bv) rfl rfl 24 (zL.map bv) hz (by rw [hDm]; kernel_rfl) (by rw [hDm, List.length_map]; rfl) (bvs_one _) ?_)
  have hR := HR.out
  have hbr := HB.out
  obtain ⟨g, hg⟩ : ∃ g, g = w2.heap.size := ⟨_, rfl⟩
  rw [← hg] at hR hbr ⊢
  generalize (w2.alloc (.cells (zL.map bv).toArray 24)).setRow g (D.map bv).toArray = w3 at hR hbr ⊢
  clear hz HR HB hb2 z32 hg
  have hlx := hl.below hbr
  have hCx := hC.below hbr hC.pos
  have hw := hbr.size
  go_wp2_with fail
  go_region_with (first
    | (go_at_call 10; refine (refSha_any A n c l _ (Byt.more (Byt.drew hlx) hw) hnil (by omega)).mono ?_; rintro e w4 ⟨v4, rfl, hown4, hb4⟩; rw [← HD.out] at hown4; obtain ⟨g4, c4, rfl, hg4, _⟩ := hown4.form (by omega);
       have hb4' : Below w3.heap.size w3 w4 := bthen (below_drew (Below.refl _ _)) hb4;
       have hs4 := hb4'.size;
       have h1 := ((Byt.of_blk hR hDl).below hb4').more hs4; have h2 := Byt.of_own hown4; have hC4 := hCx.below hb4' hCx.pos)
    | (go_at_call 9; refine (same_true _ _ 32 32 32 c4 D D w4.heap.size _ h1 h2 (by omega) rfl).mono ?_; rintro e w5 ⟨rfl, k5, rfl⟩)
    | (go_at_call 7; refine (awake3_any _ (hC4.drewN k5)).mono ?_; rintro e w6 ⟨rfl, hb6⟩))
  go_wp2_with fail
  go_ret
  exact ⟨rfl, bthen (bthen hbr hb4') (bthen (below_drewN (Below.refl _ _) k5) hb6)⟩

set_option maxRecDepth 100000 in
set_option maxHeartbeats 2000000 in
theorem shaPads_law (z : Int) (W : World) (lo : -9223372036854775808 ≤ z) (hi : z ≤ 9223372036854775807) (hC : CK W) :
    Calls Tryd.prog 5 #[.int .i64 z] W fun e W' => e = .returned (.bool true) ∧ Below W.heap.size W W' := by
  by_cases hbig : 1152921504606846976 < z
  · go_enter Tryd.func5, Tryd.ntmps5
    go_wp2_with (go_at_call 7; refine (awake3_any _ hC).mono ?_; rintro e w' ⟨rfl, hb⟩)
    go_ret
    exact ⟨rfl, hb⟩
  by_cases hneg : z < 0
  · have HP := Lib.hid (show 9 + padZ 0 = 64 from rfl)
    go_enter Tryd.func5, Tryd.ntmps5
    go_wp2_with fail
    refine (pad_neg z hneg lo _).mono ?_
    rintro e w1 ⟨v1, rfl, hown1, hb1⟩
    obtain ⟨A1, c1, rfl, hn1, hl1, hm1⟩ := own_form hown1
    go_wp2_with fail
    refine (refPad_any 0 (by decide) _).mono ?_
    rintro e w2 ⟨v2, rfl, hown2, hb2⟩
    obtain ⟨A2, c2, rfl, hn2, hl2, hm2⟩ := own_form hown2
    have hb12 := bthen hb1 hb2
    have e1 := Byt.of_own (own_below hown1 hb2)
    have e2 := Byt.of_own hown2
    have hC2 := hC.below hb12 hC.pos
    go_wp2_with (first
      | (go_at_call 9; refine (same_true _ _ _ c1 _ c2 (padL 0) (padL 0) w2.heap.size _ e1 e2 (by decide) rfl).mono ?_; rintro e w3 ⟨rfl, k3, rfl⟩)
      | (go_at_call 7; refine (awake3_any _ (hC2.drewN k3)).mono ?_; rintro e w4 ⟨rfl, hb4⟩))
    go_ret
    exact ⟨rfl, bthen hb12 (bthen (below_drewN (Below.refl _ _) k3) hb4)⟩
  obtain ⟨n, rfl⟩ := Int.eq_ofNat_of_zero_le (show 0 ≤ z by omega)
  have hn : n ≤ 1152921504606846976 := by omega
  obtain ⟨q, hq⟩ : ∃ q, 9 + padZ n = q := ⟨_, rfl⟩
  have hq72 : q ≤ 72 := by have := padZ_lt n; omega
  have hmod : ((n : Int) % 64 + (q : Int)) % 64 = 0 := by have := padL_whole n; rw [padL_len] at this; omega
  have HQ := Lib.hid hq
  clear hq hneg hbig lo hi
  go_enter Tryd.func5, Tryd.ntmps5
  go_wp2_with fail
  refine (pad_any n hn _).mono ?_
  rintro e w1 ⟨v1, rfl, hown1, hb1⟩
  rw [HQ.out] at hown1
  obtain ⟨A1, c1, rfl, hn1, hl1, hm1⟩ := own_form hown1
  clear hn1
  go_wp2_with fail
  refine (refPad_any n hn _).mono ?_
  rintro e w2 ⟨v2, rfl, hown2, hb2⟩
  rw [HQ.out] at hown2
  obtain ⟨A2, c2, rfl, hn2, hl2, hm2⟩ := own_form hown2
  clear hn2
  have hb12 := bthen hb1 hb2
  have e1 := Byt.of_own (own_below hown1 hb2)
  have e2 := Byt.of_own hown2
  have hC2 := hC.below hb12 hC.pos
  go_wp2_with (first
    | (go_at_call 9; refine (same_true _ _ q c1 q c2 (padL n) (padL n) w2.heap.size _ e1 e2 (by omega) rfl).mono ?_; rintro e w3 ⟨rfl, k3, rfl⟩)
    | (go_at_call 7; refine (awake3_any _ (hC2.drewN k3)).mono ?_; rintro e w4 ⟨rfl, hb4⟩))
  go_ret
  exact ⟨rfl, bthen hb12 (bthen (below_drewN (Below.refl _ _) k3) hb4)⟩

end Go.Proofs.YtdaphgbljmacpaaDoor
