/-
  The reference's digest.
-/
import Derived.Test.YtbpjklafhohlnaaDoorShaE
import Derived.Test.YtbpjklafhohlnaaDoorShaS
import Derived.Deep.AppendLies
namespace Go.Proofs.YtbpjklafhohlnaaDoor
open Go.RowKit
set_option linter.unusedVariables false
set_option linter.unusedSimpArgs false

theorem chunk_byt {w : World} {B n : Nat} {A : Option Addr} {l : List UInt8} (h : Byt w B A n l) (k : Nat) (hk : 64 * k + 64 ≤ n) : ∃ g o, A = some ⟨g, o, none⟩ ∧ Byt w B (some ⟨g, o + 64 * k, none⟩) 64 (chunkL l k) := by
  obtain ⟨g, o, rfl, hg, hc⟩ := h.2 (by omega)
  refine ⟨g, o, rfl, ?_, fun _ => ⟨g, o + 64 * k, rfl, hg, fun j x hx => ?_⟩⟩
  · unfold chunkL; rw [List.length_take, List.length_drop, h.1]; omega
  · unfold chunkL at hx
    rw [List.getElem?_take] at hx
    split at hx
    · rw [List.getElem?_drop] at hx
      rw [Nat.add_assoc]
      exact hc _ x hx
    · cases hx

set_option maxRecDepth 100000 in
set_option maxHeartbeats 2000000 in
theorem refSha_any (A : Option Addr) (n c : Nat) (l : List UInt8) (W : World) (hl : Byt W W.heap.size A n l) (hnil : A = none → c = 0) (hn : n ≤ 35184372088832) :
    Calls Tryd.prog 12 #[.slice A n c] W fun e W' => ∃ v, e = .returned v ∧ W'.ownsRow W.heap.size 5 1 v 32 ((shaD l).map bv) ∧ Below W.heap.size W W' := by
  obtain ⟨i0, hi, hz0, hz1, hz2⟩ := info_parts Tryd.info5
  have hp64 := padZ_lt n
  have HL := Lib.hid hl.1
  have hlit := World.ownsRow_lit (base := W.heap.size) (e := 5) (size := 1) W #[] 0 (Nat.le_refl _) (by decide) rfl
  go_enter Tryd.func12, Tryd.ntmps12
  go_wp2_with (at_builtin; refine wpList_append_byt _ rfl _ _ 22 rfl W.heap.size 5 i0 (.int .u8 0) Tryd.underlying22 hi hz0 hz1 hz2 rfl _ _ _ rfl hlit W.heap.size A n c l rfl (hl.alloc (Nat.le_refl _) _) hnil ?c1 ?c2 ?_)
  all_goals try omega
  intro v1 w1 hown1 hg1
  have hb1 : Below W.heap.size W w1 := ((Below.refl _ _).alloc (Nat.le_refl _) _).grown hg1 (by simp) (fun k h => by cases h; exact Nat.le_refl _)
  clear hlit hg1 hl
  go_wp2_with fail
  refine (refPad_any n (by omega) _).mono ?_
  rintro e w2 ⟨v2, rfl, hown2, hb2⟩
  have hown1' := own_below hown1 hb2
  have hbb2 := bthen hb1 hb2
  obtain ⟨A2, c2, rfl, hn2, hl2, hm2⟩ := own_form hown2
  have hnA2 : A2 = none → c2 = 0 := fun h => (hn2 h).2
  have hsrc := Byt.of_own hown2
  have hW2 := hbb2.size
  clear hown1 hown2 hb1 hb2
  go_wp2_with (at_builtin; refine wpList_append_byt _ rfl _ _ 22 rfl W.heap.size 5 i0 (.int .u8 0) Tryd.underlying22 hi hz0 hz1 hz2 rfl _ _ _ rfl hown1' w2.heap.size A2 (9 + padZ n) c2 (padL n) rfl hsrc hnA2 ?d1 ?d2 ?_)
  all_goals try omega
  intro v3 w3 hown3 hg3
  have hb3 : Below W.heap.size W w3 := hbb2.grown hg3 hW2 (fun k h => (hown1'.lt k h).1)
  obtain ⟨NB, hNB⟩ : ∃ NB, NB = nBlk n := ⟨_, rfl⟩
  have hL64 : n + (9 + padZ n) = 64 * NB := by have := nBlk_eq n; omega
  rw [← List.map_append, show l ++ padL n = allL l by unfold allL; rw [HL.out]] at hown3
  have HNB := Lib.hid hNB
  obtain ⟨L, hLL⟩ : ∃ L, n + (9 + padZ n) = L := ⟨_, rfl⟩
  rw [hLL] at hown3 hL64
  have hL47 : L ≤ 70368744177664 := by omega
  clear hNB hown1' hg3 hbb2 hsrc hnA2 hn2 hl2 hm2 hW2 hp64 hLL
  obtain ⟨A3, c3, rfl, hn3, hl3, hm3⟩ := own_form hown3
  have HA := Lib.hid (Byt.of_own hown3)
  have hW3 := hb3.size
  have HN := Lib.hid hL64
  clear hown3 hn3 hm3 hL64
  have z00 : (#[.int .u32 0, .int .u32 0, .int .u32 0, .int .u32 0, .int .u32 0, .int .u32 0, .int .u32 0, .int .u32 0] : Array Value) = (st00.l.map uv).toArray := rfl
  go_wp2_with fail
  refine (refStart_any _).mono ?_
  rintro e w4 ⟨rfl, hb4⟩
  rw [St.v_l]
  have hN4 := Blk.new (cs := st00.l.map uv) w4 39 _ rfl
  go_wp2_with (refine st_blk rfl 39 _ _ rfl w4.heap.size (st0.l.map uv) rfl rfl 39 _ hN4 (by rw [St.len]; kernel_rfl) ((St.len _).trans (St.len _).symm) (uvs_one _) ?_)
  have h5 := hN4.row (st0.l.map uv)
  have hb5 : Below w3.heap.size w3 ((w4.alloc (.cells (st00.l.map uv).toArray 39)).setRow w4.heap.size (st0.l.map uv).toArray) := below_row (hb4.alloc hb4.size _) hb4.size _
  have hW4 := hb4.size
  clear z00 hN4 hb4
  generalize (w4.alloc (.cells (st00.l.map uv).toArray 39)).setRow w4.heap.size (st0.l.map uv).toArray = w5 at h5 hb5 ⊢
  obtain ⟨g, hg⟩ : ∃ g, g = w4.heap.size := ⟨_, rfl⟩
  rw [← hg] at h5 hW4 ⊢
  clear hg
  go_loopw [5] (fun i wr => ∃ (k q : Nat), k ≤ NB ∧ i = .int .i64 q ∧ q = 64 * k ∧ Blk wr g 39 ((blocksS st0 (allL l) k).l.map uv) ∧ Below w3.heap.size w3 wr)
    (fun i _ => L - (intOf i).toNat)
  case atStart => exact ⟨0, 0, by omega, rfl, rfl, h5, hb5⟩
  case round =>
    obtain ⟨k, q, hk, rfl, hq, hB, hb⟩ := hrel
    have HB := Lib.hid hB
    have Hb := Lib.hid hb
    by_cases hlt : k < NB
    · have hqL : (q : Int) + 64 ≤ (L : Int) := by have := HN.out; omega
      have HK := Lib.hid hlt
      have HQ := Lib.hid hq
      obtain ⟨g3, o3, rfl, hch⟩ := chunk_byt (HA.out.below hb) k (by have := HN.out; omega)
      rw [← hq] at hch
      have hws := hb.size
      have hch2 : Byt wr.drew wr.drew.heap.size (some ⟨g3, o3 + q, none⟩) 64 (chunkL (allL l) k) := hch.more hws
      have HS := Lib.hid (show blocksS st0 (allL l) (k + 1) = blockS (blocksS st0 (allL l) k) (chunkL (allL l) k) from rfl)
      obtain ⟨f, rf, lf⟩ : ∃ f : Nat, (q : Int) + 64 = (f : Int) ∧ f = q + 64 := ⟨q + 64, by omega, rfl⟩
      have wf : IntKind.i64.wrap (f : Int) = (f : Int) := IntWalk.i64_in _ (by omega)
      have hfL : (f : Int) ≤ (L : Int) := by omega
      have hfc : (f : Int) ≤ (c3 : Int) := by omega
      have hqf : (q : Int) ≤ (f : Int) := by omega
      have hfq : f - q = 64 := by omega
      have hne : ¬ c3 = q := by omega
      generalize blocksS st0 (allL l) k = tt at hB HS
      obtain ⟨x0, x1, x2, x3, x4, x5, x6, x7⟩ := tt
      have e0 : wr.cell? ⟨g, 0, none⟩ = some (.int .u32 (uN x0)) := hB.cell 0
      have e1 : wr.cell? ⟨g, 1, none⟩ = some (.int .u32 (uN x1)) := hB.cell 1
      have e2 : wr.cell? ⟨g, 2, none⟩ = some (.int .u32 (uN x2)) := hB.cell 2
      have e3 : wr.cell? ⟨g, 3, none⟩ = some (.int .u32 (uN x3)) := hB.cell 3
      have e4 : wr.cell? ⟨g, 4, none⟩ = some (.int .u32 (uN x4)) := hB.cell 4
      have e5 : wr.cell? ⟨g, 5, none⟩ = some (.int .u32 (uN x5)) := hB.cell 5
      have e6 : wr.cell? ⟨g, 6, none⟩ = some (.int .u32 (uN x6)) := hB.cell 6
      have e7 : wr.cell? ⟨g, 7, none⟩ = some (.int .u32 (uN x7)) := hB.cell 7
      clear hlt hk hq hqL lf hch
      go_wp2_with fail
      refine still_tail 6 (by kernel_rfl) (by kernel_rfl) ?_
      simp only [List.take_succ_cons, List.take_zero, List.drop_succ_cons, List.drop_zero]
      repeat still_step
      refine wpStill_nil ?_
      go_wp2_with fail
      refine (refBlock_any ⟨x0, x1, x2, x3, x4, x5, x6, x7⟩ _ 64 (c3 - q) (chunkL (allL l) k) _ hch2 (by omega)).mono ?_
      rintro e w6 ⟨rfl, hb6⟩
      generalize blockS ⟨x0, x1, x2, x3, x4, x5, x6, x7⟩ (chunkL (allL l) k) = tq at HS ⊢
      rw [St.v_l]
      have hb6' : Below wr.heap.size wr w6 := bthen (below_drew (Below.refl _ _)) hb6
      have hB6 := hB.below hb6' hB.lt
      clear e0 e1 e2 e3 e4 e5 e6 e7 hb6
      go_wp2_with (refine st_blk rfl 39 _ _ rfl g (tq.l.map uv) rfl rfl 39 _ hB6 (by rw [St.len]; kernel_rfl) ((St.len _).trans (St.len _).symm) (uvs_one _) ?_)
      go_roundw
      case measure => simp [intOf]; omega
      case rel =>
        refine ⟨k + 1, q + 64, by have := HK.out; omega, by go_num, by have := HQ.out; omega, ?_, below_row (bthen hb hb6') (by omega) _⟩
        rw [HS.out]
        exact hB6.row _
    · have hkN : k = NB := by omega
      have hqL : ¬ ((q : Int) + 64 ≤ (L : Int)) := by have := HN.out; omega
      have HKN := Lib.hid hkN
      obtain ⟨f, rf, lf⟩ : ∃ f : Nat, (q : Int) + 64 = (f : Int) ∧ f = q + 64 := ⟨q + 64, by omega, rfl⟩
      have hf47 : f ≤ 80368744177664 := by have := HN.out; omega
      rw [rf] at hqL
      clear hlt hk hq hkN hB hb lf
      go_wp2_with fail
      have HD := Lib.hid (show digL (blocksS st0 (allL l) k).l = shaD l by unfold shaD; rw [HKN.out, HNB.out, HL.out])
      have hB := HB.out
      have hb := Hb.out
      clear HB Hb HA HKN rf hqL
      generalize blocksS st0 (allL l) k = tt at hB HD
      obtain ⟨w7, rfl⟩ : ∃ w7, w7 = wr := ⟨_, rfl⟩
      go_loopw [6, 7] (fun v i wx => ∃ j : Nat, j ≤ 8 ∧ i = .int .i64 j ∧ wx.ownsRow w7.heap.size 5 1 v (4 * j) ((digL (tt.l.take j)).map bv) ∧ Below w7.heap.size w7 wx)
        (fun _ i _ => 8 - (intOf i).toNat)
      case atStart => exact ⟨0, by omega, rfl, World.ownsRow_nil _ _ _ _, Below.refl _ _⟩
      case round =>
        obtain ⟨j, hj, rfl, hown, hbx⟩ := hrel
        have hsx := hbx.size
        by_cases h8 : j < 8
        · have hBx := hB.below hbx hB.lt
          have hc := word_at hBx (i := j) (show j < 8 from h8)
          have HT := Lib.hid (show digL (tt.l.take (j + 1)) = digL (tt.l.take j) ++ wb (tt.l.getD j 0) by
            unfold digL
            rw [List.take_add_one, List.getElem?_eq_getElem (show j < tt.l.length from h8), List.flatMap_append, List.getD_eq_getElem?_getD, List.getElem?_eq_getElem (show j < tt.l.length from h8)]
            simp)
          generalize tt.l.getD j 0 = x at hc HT
          have hj8 : (j : Int) < 8 := by omega
          have hxlo := uN_lo x
          have HO := Lib.hid hown
          have HX := Lib.hid hbx
          have HJ := Lib.hid h8
          have hx := x.toNat_lt
          obtain ⟨d3, r3, l3⟩ : ∃ a : Nat, (uN x).tdiv 16777216 = (a : Int) ∧ a = x.toNat / 16777216 := ⟨_, by rw [Int.tdiv_eq_ediv_of_nonneg hxlo]; unfold uN; omega, rfl⟩
          obtain ⟨d2, r2, l2⟩ : ∃ a : Nat, (uN x).tdiv 65536 = (a : Int) ∧ a = x.toNat / 65536 := ⟨_, by rw [Int.tdiv_eq_ediv_of_nonneg hxlo]; unfold uN; omega, rfl⟩
          obtain ⟨d1, r1, l1⟩ : ∃ a : Nat, (uN x).tdiv 256 = (a : Int) ∧ a = x.toNat / 256 := ⟨_, by rw [Int.tdiv_eq_ediv_of_nonneg hxlo]; unfold uN; omega, rfl⟩
          obtain ⟨m2, q2, k2⟩ : ∃ a : Nat, (d2 : Int).tmod 256 = (a : Int) ∧ a = d2 % 256 := ⟨_, by rw [Int.tmod_eq_emod_of_nonneg (by omega)]; omega, rfl⟩
          obtain ⟨m1, q1, k1⟩ : ∃ a : Nat, (d1 : Int).tmod 256 = (a : Int) ∧ a = d1 % 256 := ⟨_, by rw [Int.tmod_eq_emod_of_nonneg (by omega)]; omega, rfl⟩
          obtain ⟨m0, q0, k0⟩ : ∃ a : Nat, (uN x).tmod 256 = (a : Int) ∧ a = x.toNat % 256 := ⟨_, by rw [Int.tmod_eq_emod_of_nonneg hxlo]; unfold uN; omega, rfl⟩
          have hx' : x.toNat < 4294967296 := hx
          have v3 : IntKind.u32.wrap (d3 : Int) = (d3 : Int) := by rw [IntKind.wrap_u32']; omega
          have v2 : IntKind.u32.wrap (d2 : Int) = (d2 : Int) := by rw [IntKind.wrap_u32']; omega
          have v1' : IntKind.u32.wrap (d1 : Int) = (d1 : Int) := by rw [IntKind.wrap_u32']; omega
          have v2m : IntKind.u32.wrap (m2 : Int) = (m2 : Int) := by rw [IntKind.wrap_u32']; omega
          have v1m : IntKind.u32.wrap (m1 : Int) = (m1 : Int) := by rw [IntKind.wrap_u32']; omega
          have v0m : IntKind.u32.wrap (m0 : Int) = (m0 : Int) := by rw [IntKind.wrap_u32']; omega
          have b83 : IntKind.u8.wrap (d3 : Int) = (d3 : Int) := by rw [IntKind.wrap_u8']; omega
          have b82 : IntKind.u8.wrap (m2 : Int) = (m2 : Int) := by rw [IntKind.wrap_u8']; omega
          have b81 : IntKind.u8.wrap (m1 : Int) = (m1 : Int) := by rw [IntKind.wrap_u8']; omega
          have b80 : IntKind.u8.wrap (m0 : Int) = (m0 : Int) := by rw [IntKind.wrap_u8']; omega
          have HW := Lib.hid (show (wb x).map bv = [.int .u8 (d3 : Int), .int .u8 (m2 : Int), .int .u8 (m1 : Int), .int .u8 (m0 : Int)] by
            unfold wb
            have t3 : bv (UInt8.ofNat (x.toNat / 16777216)) = .int .u8 (d3 : Int) := by unfold bv; rw [ofNat_mod, l3]; congr 1; omega
            have t2 : bv (UInt8.ofNat (x.toNat / 65536)) = .int .u8 (m2 : Int) := by unfold bv; rw [ofNat_mod, k2, l2]
            have t1 : bv (UInt8.ofNat (x.toNat / 256)) = .int .u8 (m1 : Int) := by unfold bv; rw [ofNat_mod, k1, l1]
            have t0 : bv (UInt8.ofNat x.toNat) = .int .u8 (m0 : Int) := by unfold bv; rw [ofNat_mod, k0]
            simp only [List.map_cons, List.map_nil, t3, t2, t1, t0])
          have hgw : g < w7.heap.size := hB.lt
          have hag : Value.ownBlock u6 ≠ some g := fun h => by have := (hown.lt g h).1; omega
          have hn4 : 4 * j + 4 ≤ maxLen := by unfold maxLen; omega
          have hn5 : (4 * j + 4) * 1 ≤ 140737488355328 := by omega
          clear hj h8 hBx hx hx' hxlo l1 l2 l3 k0 k1 k2 hbx
          go_wp2_with fail
          go_region_held3 (fun w' => w'.cell? ⟨g, j, none⟩ = some (.int .u32 (uN x)))
            (first
              | go_keep
              | (rw [hgrow.cell_far _ (by simp; omega) (Ne.symm hag)]; assumption))
            ((refine step_append_lies _ (by rfl) _ _ _ (by rfl) w7.heap.size 5 i0 _ 1 1 Tryd.underlying22 hi hz0 hz1 hz2 rfl (by omega) u6 (4 * j) ((digL (tt.l.take j)).map bv) (by rfl) ((hown.alloc _).drew)
                  ⟨wr.heap.size, 0, none⟩ 4 4 [.int .u8 (d3 : Int), .int .u8 (m2 : Int), .int .u8 (m1 : Int), .int .u8 (m0 : Int)] (by rfl) (by rfl) (World.news_of_block (cs := #[.int .u8 (d3 : Int), .int .u8 (m2 : Int), .int .u8 (m1 : Int), .int .u8 (m0 : Int)]) (t := 5) (fr := (0, 0)) (heap_alloc_new wr _)) (by simp [Value.oneCell'])
                  (by omega) hn4 hn5 (by simp; omega) (wr.heap.size + 1) (by simp) ?_; intro gg cap w8 hown8 hgrow hat hlt))
          have hb8 : Below w7.heap.size w7 w8 := (below_drew (HX.out.alloc hsx _)).grown hgrow (by simp; omega) (fun k hk => (hown.lt k hk).1)
          have H8 := Lib.hid hown8
          clear hown8 hgrow hown r3 r2 r1 q2 q1 q0 v3 v2 v1' v2m v1m v0m b83 b82 b81 b80 hag
          go_wp2
          go_roundw
          case measure => have := HJ.out; simp [intOf]; omega
          case rel =>
            have hj8' := HJ.out
            refine ⟨j + 1, by omega, by go_num, ?_, hb8⟩
            rw [HT.out, List.map_append, HW.out, show 4 * (j + 1) = 4 * j + 4 by omega]
            exact H8.out
        · have hj8 : ¬ ((j : Int) < 8) := by omega
          have HJ := Lib.hid (show j = 8 by omega)
          have HO := Lib.hid hown
          clear hj h8 hown
          go_wp2_with fail
          go_ret
          refine ⟨_, rfl, ?_, (hb3.trans (hb.mono hW3)).trans (hbx.mono (Nat.le_trans hW3 hb.size))⟩
          have := HO.out
          rw [HJ.out, List.take_of_length_le (show tt.l.length ≤ 8 from Nat.le_refl 8), HD.out] at this
          exact own_mono this (Nat.le_trans hW3 hb.size)

end Go.Proofs.YtbpjklafhohlnaaDoor
