/-
  Walks over package sha: a block.
-/
import Derived.Test.YtbpjklafhohlnaaDoorShaB
namespace Go.Proofs.YtbpjklafhohlnaaDoor
open Go.RowKit
set_option linter.unusedVariables false
set_option linter.unusedSimpArgs false

attribute [local go_sem] u_addm u_addw u_add3 u_add4 u_add5 u_add12 u_add13 u_xor u_and u_or u_not u_not2 u_not3 u_not4 u_shr3 u_shr10

/-- What the turns' loop keeps. -/
def BlkI (s : St) (tb : List UInt32) (W : World) (k : Nat) (wr : World) : Prop :=
  Blk wr W.heap.size 39 (s.l.map uv) ∧ Blk wr (W.heap.size + 1 + 1) 39 (st00.l.map uv) ∧ Blk wr (W.heap.size + 1 + 1 + 1) 39 ((turns tb s k).l.map uv) ∧ Below W.heap.size W wr

set_option maxHeartbeats 2000000 in
theorem block_any (s : St) (b : List UInt8) (hb : b.length = 64) (W : World) (hC : CK W) :
    Calls Tryd.prog 29 #[s.v, .agg (b.map bv).toArray] W fun e W' => e = .returned (blockS s b).v ∧ Below W.heap.size W W' := by
  obtain ⟨V, hV⟩ : ∃ V, V = (blockS s b).v := ⟨_, rfl⟩
  rw [← hV]
  have HV := Lib.hid hV
  clear hV
  rw [St.v_l]
  have z00 : (#[.int .u32 0, .int .u32 0, .int .u32 0, .int .u32 0, .int .u32 0, .int .u32 0, .int .u32 0, .int .u32 0] : Array Value) = (st00.l.map uv).toArray := rfl
  have hS := ((Blk.new (cs := s.l.map uv) W 39 _ rfl).alloc (.cells (b.map bv).toArray 31)).alloc (.cells (st00.l.map uv).toArray 39)
  have hX := ((Blk.new (cs := b.map bv) (W.alloc (.cells (s.l.map uv).toArray 39)) 31 _ rfl).alloc (.cells (st00.l.map uv).toArray 39))
  have hR := (Blk.new (cs := st00.l.map uv) ((W.alloc (.cells (s.l.map uv).toArray 39)).alloc (.cells (b.map bv).toArray 31)) 39 _ rfl)
  have hT := Blk.new (cs := st00.l.map uv) (((W.alloc (.cells (s.l.map uv).toArray 39)).alloc (.cells (b.map bv).toArray 31)).alloc (.cells (st00.l.map uv).toArray 39)) 39 _ rfl
  rw [World.size_alloc] at hX
  rw [World.size_alloc, World.size_alloc] at hR
  rw [World.size_alloc, World.size_alloc, World.size_alloc] at hT
  have hL : Below W.heap.size W ((((W.alloc (.cells (s.l.map uv).toArray 39)).alloc (.cells (b.map bv).toArray 31)).alloc (.cells (st00.l.map uv).toArray 39)).alloc (.cells (st00.l.map uv).toArray 39)) :=
    ((((Below.refl W.heap.size W).alloc (Nat.le_refl _) _).alloc (by simp) _).alloc (by simp; omega) _).alloc (by simp; omega) _
  have hL2 := (below_row hL (g := W.heap.size + 1 + 1 + 1) (by omega) (s.l.map uv).toArray)
  have hS2 := (hS.alloc (.cells (st00.l.map uv).toArray 39)).row_other (W.heap.size + 1 + 1 + 1) (s.l.map uv).toArray (by omega)
  have hX2 := (hX.alloc (.cells (st00.l.map uv).toArray 39)).row_other (W.heap.size + 1 + 1 + 1) (s.l.map uv).toArray (by omega)
  have hR2 := (hR.alloc (.cells (st00.l.map uv).toArray 39)).row_other (W.heap.size + 1 + 1 + 1) (s.l.map uv).toArray (by omega)
  have hT2 := hT.row (s.l.map uv)
  go_enter Tryd.func29, Tryd.ntmps29
  go_wp2_with (first
    | (refine ld_blk rfl 39 _ rfl W.heap.size rfl 39 (s.l.map uv) hS 8 38 Tryd.underlying39 (by kernel_rfl) ?_)
    | (refine st_blk rfl 39 _ _ rfl (W.heap.size + 1 + 1 + 1) (s.l.map uv) rfl rfl 39 (st00.l.map uv) hT (by kernel_rfl) rfl (uvs_one _) ?_)
    | (refine ld_blk rfl 31 _ rfl (W.heap.size + 1) rfl 31 (b.map bv) hX2 64 5 Tryd.underlying31 (by rw [List.length_map, hb]; kernel_rfl) ?_))
  generalize ((((W.alloc (.cells (s.l.map uv).toArray 39)).alloc (.cells (b.map bv).toArray 31)).alloc (.cells (st00.l.map uv).toArray 39)).alloc (.cells (st00.l.map uv).toArray 39)).setRow (W.heap.size + 1 + 1 + 1) (s.l.map uv).toArray = W0 at hS2 hR2 hT2 hL2 ⊢
  clear hS hX hR hT hL hX2
  refine (spread_any b hb _).mono ?_
  rintro e w1 ⟨rfl, hb1⟩
  obtain ⟨tb, htb⟩ : ∃ tb, tb = tab b 64 := ⟨_, rfl⟩
  have htl : tb.length = 64 := by rw [htb]; exact tab_len b 64
  rw [← htb]
  have HT := Lib.hid htb
  clear htb
  have hI : BlkI s tb W 0 w1 := ⟨hS2.below hb1 hS2.lt, hR2.below hb1 hR2.lt, hT2.below hb1 hT2.lt, bthen hL2 hb1⟩
  clear hS2 hR2 hT2 hL2 hb1
  go_wp2_with fail
  go_loopw [6, 7, 13] (fun _ _ i wr => ∃ k : Nat, k ≤ 64 ∧ i = .int .i64 k ∧ BlkI s tb W k wr)
    (fun _ _ i _ => 64 - (intOf i).toNat)
  case atStart => exact ⟨0, by omega, rfl, hI⟩
  case round =>
    obtain ⟨k, hk, rfl, hI⟩ := hrel
    have HI := Lib.hid hI
    clear hI
    by_cases h64 : k < 64
    · have hx : ∀ w : World, (Instr.index 46 (.agg (tb.map uv).toArray) (.int .i64 ((k : Nat) : Int))).run Tryd.prog w = .ok (.int .u32 (uN (tb.getD k 0))) w := fun w =>
        index_agg w 46 38 64 (tb.map uv) Tryd.underlying46 (by kernel_rfl) (by kernel_rfl) k .i64 h64 _ (uv_at tb (by omega))
      have hc : wr.cell? ⟨0, k, none⟩ = some (.int .u32 (uN (kc k))) := (HI.out.2.2.2.cell (p := ⟨0, k, none⟩) hC.pos).trans (hC k h64)
      have HS := Lib.hid (show turns tb s (k + 1) = turnS (turns tb s k) (kc k + tb.getD k 0) from rfl)
      have h5 := HI.out.2.2.1
      have HC := Lib.hid hC
      clear hC
      generalize turns tb s k = tt at HS h5
      obtain ⟨x0, x1, x2, x3, x4, x5, x6, x7⟩ := tt
      have e0 : wr.cell? ⟨W.heap.size + 1 + 1 + 1, 0, none⟩ = some (.int .u32 (uN x0)) := h5.cell 0
      have e1 : wr.cell? ⟨W.heap.size + 1 + 1 + 1, 1, none⟩ = some (.int .u32 (uN x1)) := h5.cell 1
      have e2 : wr.cell? ⟨W.heap.size + 1 + 1 + 1, 2, none⟩ = some (.int .u32 (uN x2)) := h5.cell 2
      have e3 : wr.cell? ⟨W.heap.size + 1 + 1 + 1, 3, none⟩ = some (.int .u32 (uN x3)) := h5.cell 3
      have e4 : wr.cell? ⟨W.heap.size + 1 + 1 + 1, 4, none⟩ = some (.int .u32 (uN x4)) := h5.cell 4
      have e5 : wr.cell? ⟨W.heap.size + 1 + 1 + 1, 5, none⟩ = some (.int .u32 (uN x5)) := h5.cell 5
      have e6 : wr.cell? ⟨W.heap.size + 1 + 1 + 1, 6, none⟩ = some (.int .u32 (uN x6)) := h5.cell 6
      have e7 : wr.cell? ⟨W.heap.size + 1 + 1 + 1, 7, none⟩ = some (.int .u32 (uN x7)) := h5.cell 7
      generalize tb.getD k 0 = wk at hx HS
      generalize kc k = ck at hc HS
      go_wp2_with fail
      refine still_tail 6 (by kernel_rfl) (by kernel_rfl) ?_
      simp only [List.take_succ_cons, List.take_zero, List.drop_succ_cons, List.drop_zero]
      repeat still_step
      refine wpStill_nil ?_
      go_wp2_with fail
      refine (turn_any ⟨x0, x1, x2, x3, x4, x5, x6, x7⟩ (ck + wk) _).mono ?_
      rintro e w2 ⟨rfl, hb2⟩
      generalize turnS ⟨x0, x1, x2, x3, x4, x5, x6, x7⟩ (ck + wk) = q at HS ⊢
      rw [St.v_l]
      have h5' := h5.drew.below hb2 h5.lt
      have HB := Lib.hid hb2
      clear hb2 e0 e1 e2 e3 e4 e5 e6 e7 hc hx
      go_wp2_with (refine st_blk rfl 39 _ _ rfl (W.heap.size + 1 + 1 + 1) (q.l.map uv) rfl rfl 39 _ h5' (by kernel_rfl) rfl (uvs_one _) ?_)
      go_roundw
      case measure => simp [intOf]; omega
      case rel =>
        refine ⟨k + 1, by omega, by go_num, ?_⟩
        obtain ⟨h1, h2, _, hL⟩ := HI.out
        have hb2 := HB.out
        refine ⟨(h1.drew.below hb2 h1.lt).row_other _ _ (by omega), (h2.drew.below hb2 h2.lt).row_other _ _ (by omega), ?_, below_row (bthen hL (bthen (below_drew (Below.refl _ _)) hb2)) (by omega) _⟩
        rw [HS.out]
        exact h5'.row _
    · have HK := Lib.hid (show k = 64 by omega)
      have h64' : ¬ ((k : Int) < 64) := by omega
      clear hk h64
      obtain ⟨h1, h2, h5, hL⟩ := HI.out
      clear HI hC
      have HV2 : Hid (V = .agg ((addK s.l (turns tb s k).l 8).map uv).toArray) := Lib.hid (by rw [HV.out, HK.out, addK_8, HT.out]; rfl)
      generalize turns tb s k = tt at h5 HV2
      have htt : tt.l.length = 8 := rfl
      go_wp2_with (refine ld_blk rfl 39 _ rfl (W.heap.size + 1 + 1 + 1) rfl 39 (tt.l.map uv) h5 8 38 Tryd.underlying39 (by kernel_rfl) ?_)
      go_loopw [8, 9, 26] (fun _ _ i wr => ∃ k : Nat, k ≤ 8 ∧ i = .int .i64 k ∧ Blk wr W.heap.size 39 ((addK s.l tt.l k).map uv) ∧ Blk wr (W.heap.size + 1 + 1) 39 (st00.l.map uv) ∧ Below W.heap.size W wr)
        (fun _ _ i _ => 8 - (intOf i).toNat)
      case atStart => exact ⟨0, by omega, rfl, h1, h2, hL⟩
      case round =>
        obtain ⟨j, hj, rfl, hI⟩ := hrel
        have HI := Lib.hid hI
        have hsl : (addK s.l tt.l j).length = 8 := addK_len _ _ _
        obtain ⟨g1, g2, gL⟩ := hI
        by_cases h8 : j < 8
        · have hx : ∀ w : World, (Instr.index 39 (.agg (tt.l.map uv).toArray) (.int .i64 ((j : Nat) : Int))).run Tryd.prog w = .ok (.int .u32 (uN (tt.l.getD j 0))) w := fun w =>
            index_agg w 39 38 8 (tt.l.map uv) Tryd.underlying39 (by kernel_rfl) (by kernel_rfl) j .i64 h8 _ (uv_at tt.l (by omega))
          have ct := word_at g1 (i := j) (by omega)
          have cf := g1.frozen j
          have HS := Lib.hid (show addK s.l tt.l (j + 1) = (addK s.l tt.l j).set j ((addK s.l tt.l j).getD j 0 + tt.l.getD j 0) from rfl)
          have hj8 : (j : Int) < 8 := by omega
          clear g1 g2 gL
          generalize (addK s.l tt.l j).getD j 0 = x at ct HS
          generalize tt.l.getD j 0 = y at hx HS
          go_wp2
          go_roundw
          case measure => simp [intOf]; omega
          case rel =>
            obtain ⟨g1, g2, gL⟩ := HI.out
            refine ⟨j + 1, by omega, by go_num, ?_, g2.other _ _ (by simp; omega), gL.setCell (p := ⟨W.heap.size, _, none⟩) (by simp) _⟩
            rw [HS.out, List.map_set]
            exact g1.set j (uv (x + y))
        · have HJ := Lib.hid (show j = 8 by omega)
          have h8' : ¬ ((j : Int) < 8) := by omega
          clear hj h8
          go_wp2_with (first
            | (refine ld_blk rfl 39 _ rfl W.heap.size rfl 39 _ g1 8 38 Tryd.underlying39 (by rw [List.length_map, hsl]; kernel_rfl) ?_)
            | (refine st_blk rfl 39 _ _ rfl (W.heap.size + 1 + 1) ((addK s.l tt.l j).map uv) rfl rfl 39 _ g2 (by rw [List.length_map, hsl]; kernel_rfl) (by rw [List.length_map, List.length_map, hsl]; rfl) (uvs_one _) ?_))
          try simp only [Exit.inBlock, Exit.then]
          refine ret_cell rfl _ _ _ rfl (g2.row ((addK s.l tt.l j).map uv)) 8 38 Tryd.underlying39 (by rw [List.length_map, hsl]; kernel_rfl) rfl ⟨?_, below_row gL (by omega) _⟩
          rw [HV2.out, HJ.out]

end Go.Proofs.YtbpjklafhohlnaaDoor
