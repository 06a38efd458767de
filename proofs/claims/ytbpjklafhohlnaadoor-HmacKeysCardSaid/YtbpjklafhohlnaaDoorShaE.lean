/-
  Walks over the reference of package sha: a block.
-/
import Derived.Test.YtbpjklafhohlnaaDoorShaD
namespace Go.Proofs.YtbpjklafhohlnaaDoor
open Go.RowKit
set_option linter.unusedVariables false
set_option linter.unusedSimpArgs false

theorem u_mod (x : UInt32) : uN x % 4294967296 = uN x := Int.emod_eq_of_lt (uN_lo x) (uN_hi x)
theorem u_add14 (x y z t u : UInt32) : (uN x + (uN y + uN z + uN t + uN u)) % 4294967296 = uN (x + (y + z + t + u)) := by
  unfold uN; rw [UInt32.toNat_add, UInt32.toNat_add, UInt32.toNat_add, UInt32.toNat_add]; omega

attribute [local go_sem] u_mod u_add14 u_addm u_addw u_add3 u_add4 u_add5 u_add12 u_add13 u_xor u_and u_or u_not u_not2 u_not3 u_not4 u_shr3 u_shr10

theorem be_sum (x0 x1 x2 x3 : UInt8) :
    ((x0.toNat : Nat) : Int) * 16777216 + ((x1.toNat : Nat) : Int) * 65536 + ((x2.toNat : Nat) : Int) * 256 + ((x3.toNat : Nat) : Int) =
    uN (UInt32.ofNat (x0.toNat * 16777216 + x1.toNat * 65536 + x2.toNat * 256 + x3.toNat)) := by
  have h0 := x0.toNat_lt
  have h1 := x1.toNat_lt
  have h2 := x2.toNat_lt
  have h3 := x3.toNat_lt
  unfold uN
  rw [UInt32.toNat_ofNat', Nat.mod_eq_of_lt (by omega)]
  omega

theorem turnS_two (x0 x1 x2 x3 x4 x5 x6 x7 ck wk : UInt32) : turnS ⟨x0, x1, x2, x3, x4, x5, x6, x7⟩ (ck + wk) =
    ⟨x7 + (rotr x4 6 ^^^ rotr x4 11 ^^^ rotr x4 25) + (x4 &&& x5 ^^^ (4294967295 ^^^ x4) &&& x6) + ck + wk + ((rotr x0 2 ^^^ rotr x0 13 ^^^ rotr x0 22) + (x0 &&& x1 ^^^ x0 &&& x2 ^^^ x1 &&& x2)),
      x0, x1, x2, x3 + (x7 + (rotr x4 6 ^^^ rotr x4 11 ^^^ rotr x4 25) + (x4 &&& x5 ^^^ (4294967295 ^^^ x4) &&& x6) + ck + wk), x4, x5, x6⟩ := by
  unfold turnS turnT bs1 bs0 chF majF
  simp only [UInt32.add_assoc]

/-- What the reference's loops keep. -/
def RI (s : St) (tb : List UInt32) (W : World) (g5 g6 : Nat) (wr : World) : Prop :=
  Blk wr W.heap.size 39 (s.l.map uv) ∧ Blk wr (W.heap.size + 1) 39 (st00.l.map uv) ∧ Blk wr g5 46 (kcL.map uv) ∧ Blk wr g6 46 (tb.map uv) ∧ Below W.heap.size W wr

/-- What the second loop keeps. -/
def RJ (s : St) (tb vl : List UInt32) (W : World) (g g9 : Nat) (wr : World) : Prop :=
  RI s tb W g (g + 1) wr ∧ Blk wr g9 39 (vl.map uv)

set_option maxHeartbeats 2000000 in
set_option maxRecDepth 100000 in
theorem refBlock_any (s : St) (A : Option Addr) (n c : Nat) (l : List UInt8) (W : World) (hl : Byt W W.heap.size A n l) (hn : 64 ≤ n) :
    Calls Tryd.prog 20 #[s.v, .slice A n c] W fun e W' => e = .returned (blockS s l).v ∧ Below W.heap.size W W' := by
  obtain ⟨V, hV⟩ : ∃ V, V = (blockS s l).v := ⟨_, rfl⟩
  rw [← hV]
  have HV := Lib.hid hV
  clear hV
  rw [St.v_l]
  have z00 : (#[.int .u32 0, .int .u32 0, .int .u32 0, .int .u32 0, .int .u32 0, .int .u32 0, .int .u32 0, .int .u32 0] : Array Value) = (st00.l.map uv).toArray := rfl
  have z64 : (#[.int .u32 0, .int .u32 0, .int .u32 0, .int .u32 0, .int .u32 0, .int .u32 0, .int .u32 0, .int .u32 0, .int .u32 0, .int .u32 0, .int .u32 0, .int .u32 0, .int .u32 0, .int .u32 0, .int .u32 0, .int .u32 0, .int .u32 0, .int .u32 0, .int .u32 0, .int .u32 0, .int .u32 0, .int .u32 0, .int .u32 0, .int .u32 0, .int .u32 0, .int .u32 0, .int .u32 0, .int .u32 0, .int .u32 0, .int .u32 0, .int .u32 0, .int .u32 0, .int .u32 0, .int .u32 0, .int .u32 0, .int .u32 0, .int .u32 0, .int .u32 0, .int .u32 0, .int .u32 0, .int .u32 0, .int .u32 0, .int .u32 0, .int .u32 0, .int .u32 0, .int .u32 0, .int .u32 0, .int .u32 0, .int .u32 0, .int .u32 0, .int .u32 0, .int .u32 0, .int .u32 0, .int .u32 0, .int .u32 0, .int .u32 0, .int .u32 0, .int .u32 0, .int .u32 0, .int .u32 0, .int .u32 0, .int .u32 0, .int .u32 0, .int .u32 0] : Array Value) = ((tab l 0).map uv).toArray := rfl
  go_enter Tryd.func20, Tryd.ntmps20
  go_wp2_with fail
  refine (constants_any _).mono ?_
  rintro e w1 ⟨rfl, hb1⟩
  have hS := ((Blk.new (cs := s.l.map uv) W 39 _ rfl).alloc (.cells (st00.l.map uv).toArray 39))
  have hR := (Blk.new (cs := st00.l.map uv) (W.alloc (.cells (s.l.map uv).toArray 39)) 39 _ rfl)
  rw [World.size_alloc] at hR
  have hL : Below W.heap.size W ((W.alloc (.cells (s.l.map uv).toArray 39)).alloc (.cells (st00.l.map uv).toArray 39)) :=
    ((Below.refl W.heap.size W).alloc (Nat.le_refl _) _).alloc (by simp) _
  have hS1 := hS.below hb1 hS.lt
  have hR1 := hR.below hb1 hR.lt
  have hL1 := bthen hL hb1
  clear hS hR hL hb1
  have hN := Blk.new (cs := (tab l 0).map uv) w1 46 _ rfl
  have hlt5 := hR1.lt
  go_wp2_with (refine st_blk rfl 46 _ _ rfl w1.heap.size (kcL.map uv) rfl rfl 46 _ hN (by kernel_rfl) rfl (uvs_one _) ?_)
  have hI : RI s (tab l 0) W w1.heap.size (w1.heap.size + 1) (((w1.alloc (.cells ((tab l 0).map uv).toArray 46)).setRow w1.heap.size (kcL.map uv).toArray).alloc (.cells ((tab l 0).map uv).toArray 46)) := by
    have h6 := Blk.new (cs := (tab l 0).map uv) ((w1.alloc (.cells ((tab l 0).map uv).toArray 46)).setRow w1.heap.size (kcL.map uv).toArray) 46 _ rfl
    rw [size_setRow, World.size_alloc] at h6
    have hs := hL1.size
    exact ⟨((hS1.alloc _).row_other _ _ (by omega)).alloc _, ((hR1.alloc _).row_other _ _ (by omega)).alloc _, (hN.row _).alloc _, h6,
      (below_row (hL1.alloc hs _) hs _).alloc (by simp; omega) _⟩
  have hlt : W.heap.size + 1 < w1.heap.size := hlt5
  clear hS1 hR1 hL1 hN hlt5 z64 z00
  generalize ((w1.alloc (.cells ((tab l 0).map uv).toArray 46)).setRow w1.heap.size (kcL.map uv).toArray).alloc (.cells ((tab l 0).map uv).toArray 46) = W0 at hI ⊢
  generalize w1.heap.size = g at hI hlt ⊢
  go_loopw [7, 8, 9] (fun i _ _ wr => ∃ k : Nat, k ≤ 64 ∧ i = .int .i64 k ∧ RI s (tab l k) W g (g + 1) wr)
    (fun i _ _ _ => 64 - (intOf i).toNat)
  case atStart => exact ⟨0, by omega, rfl, hI⟩
  case round =>
    obtain ⟨k, hk, rfl, hI⟩ := hrel
    have HI := Lib.hid hI
    clear hI
    by_cases h64 : k < 64
    · by_cases h16 : k < 16
      · obtain ⟨g0, o, rfl, hg0, hc⟩ := hl.2 (by omega)
        have hll := hl.1
        have h2 := HI.out.2.2.2.1
        have hL := HI.out.2.2.2.2
        have at_ : ∀ j : Nat, j < 64 → wr.cell? ⟨g0, o + j, none⟩ = some (.int .u8 (((l.getD j 0).toNat : Nat) : Int)) := fun j hj =>
          (hL.cell (p := ⟨g0, o + j, none⟩) hg0).trans (hc j _ (by rw [List.getD_eq_getElem?_getD, List.getElem?_eq_getElem (by omega)]; rfl))
        obtain ⟨q, rq, lq⟩ : ∃ a : Nat, 4 * (k : Int) = (a : Int) ∧ a = 4 * k := ⟨4 * k, by omega, rfl⟩
        obtain ⟨q1, rq1, lq1⟩ : ∃ a : Nat, (q : Int) + 1 = (a : Int) ∧ a = 4 * k + 1 := ⟨4 * k + 1, by omega, rfl⟩
        obtain ⟨q2, rq2, lq2⟩ : ∃ a : Nat, (q : Int) + 2 = (a : Int) ∧ a = 4 * k + 2 := ⟨4 * k + 2, by omega, rfl⟩
        obtain ⟨q3, rq3, lq3⟩ : ∃ a : Nat, (q : Int) + 3 = (a : Int) ∧ a = 4 * k + 3 := ⟨4 * k + 3, by omega, rfl⟩
        have c0 := at_ q (by omega)
        have c1 := at_ q1 (by omega)
        have c2 := at_ q2 (by omega)
        have c3 := at_ q3 (by omega)
        have w0 : IntKind.i64.wrap (q : Int) = (q : Int) := IntWalk.i64_in _ (by omega)
        have w1 : IntKind.i64.wrap (q1 : Int) = (q1 : Int) := IntWalk.i64_in _ (by omega)
        have w2 : IntKind.i64.wrap (q2 : Int) = (q2 : Int) := IntWalk.i64_in _ (by omega)
        have w3 : IntKind.i64.wrap (q3 : Int) = (q3 : Int) := IntWalk.i64_in _ (by omega)
        have b0 : (q : Int) < (n : Int) := by omega
        have b1 : (q1 : Int) < (n : Int) := by omega
        have b2 : (q2 : Int) < (n : Int) := by omega
        have b3 : (q3 : Int) < (n : Int) := by omega
        have bk : (k : Int) < 64 := by omega
        have bk16 : (k : Int) < 16 := by omega
        have ct := word_at h2 (i := k) (by rw [tab_len]; omega)
        have cf := h2.frozen k
        have HB := Lib.hid (show be4 l k = UInt32.ofNat ((l.getD q 0).toNat * 16777216 + (l.getD q1 0).toNat * 65536 + (l.getD q2 0).toNat * 256 + (l.getD q3 0).toNat) by rw [lq, lq1, lq2, lq3]; rfl)
        have HK := Lib.hid h16
        generalize (tab l k).getD k 0 = old at ct
        generalize l.getD q 0 = x0 at c0 HB
        generalize l.getD q1 0 = x1 at c1 HB
        generalize l.getD q2 0 = x2 at c2 HB
        generalize l.getD q3 0 = x3 at c3 HB
        have y0 := x0.toNat_lt
        have y1 := x1.toNat_lt
        have y2 := x2.toNat_lt
        have y3 := x3.toNat_lt
        clear lq lq1 lq2 lq3 at_ hc hll h2 hL h16 h64 hk hn hg0
        go_wp2_with fail
        refine still_tail 35 (by kernel_rfl) (by kernel_rfl) ?_
        simp only [List.take_succ_cons, List.take_zero, List.drop_succ_cons, List.drop_zero]
        repeat still_step
        refine wpStill_nil ?_
        go_wp2
        go_roundw
        case measure => simp [intOf]; omega
        case rel =>
          refine ⟨k + 1, by omega, by go_num, ?_⟩
          obtain ⟨h1, h2, h3, h4, hL⟩ := HI.out
          rw [be_sum, ← HB.out]
          have hs := hL.size
          refine ⟨(h1.other _ _ (by simp; omega)).drew, (h2.other _ _ (by simp; omega)).drew, (h3.other _ _ (by simp)).drew, ?_, below_drew (hL.setCell (p := ⟨_, _, none⟩) (by simp; omega) _)⟩
          have := (h4.set k (uv (be4 l k))).drew
          rw [← List.map_set] at this
          rw [show tab l (k + 1) = (tab l k).set k (be4 l k) by rw [tab, if_pos HK.out]]
          exact this
      · have h2 := HI.out.2.2.2.1
        have ct := word_at h2 (i := k) (by rw [tab_len]; omega)
        have cf := h2.frozen k
        have c2 := word_at h2 (i := k - 2) (by rw [tab_len]; omega)
        have c7 := word_at h2 (i := k - 7) (by rw [tab_len]; omega)
        have c15 := word_at h2 (i := k - 15) (by rw [tab_len]; omega)
        have c16 := word_at h2 (i := k - 16) (by rw [tab_len]; omega)
        have HW := Lib.hid (show wNext (tab l k) k = (tab l k).getD (k - 16) 0 + (tab l k).getD (k - 7) 0 + (rotr ((tab l k).getD (k - 15) 0) 7 ^^^ rotr ((tab l k).getD (k - 15) 0) 18 ^^^ shr ((tab l k).getD (k - 15) 0) 3) + (rotr ((tab l k).getD (k - 2) 0) 17 ^^^ rotr ((tab l k).getD (k - 2) 0) 19 ^^^ shr ((tab l k).getD (k - 2) 0) 10) by
          unfold wNext ss0 ss1
          rw [UInt32.add_assoc ((tab l k).getD (k - 16) 0), UInt32.add_comm (rotr _ 7 ^^^ _ ^^^ _), ← UInt32.add_assoc])
        have HK := Lib.hid h16
        clear h2
        generalize (tab l k).getD k 0 = old at ct
        generalize (tab l k).getD (k - 2) 0 = y at c2 HW
        generalize (tab l k).getD (k - 7) 0 = z at c7 HW
        generalize (tab l k).getD (k - 15) 0 = x at c15 HW
        generalize (tab l k).getD (k - 16) 0 = v at c16 HW
        obtain ⟨a2, r2, l2⟩ : ∃ a : Nat, (k : Int) - 2 = (a : Int) ∧ a = k - 2 := ⟨k - 2, by omega, rfl⟩
        obtain ⟨a7, r7, l7⟩ : ∃ a : Nat, (k : Int) - 7 = (a : Int) ∧ a = k - 7 := ⟨k - 7, by omega, rfl⟩
        obtain ⟨a15, r15, l15⟩ : ∃ a : Nat, (k : Int) - 15 = (a : Int) ∧ a = k - 15 := ⟨k - 15, by omega, rfl⟩
        obtain ⟨a16, r16, l16⟩ : ∃ a : Nat, (k : Int) - 16 = (a : Int) ∧ a = k - 16 := ⟨k - 16, by omega, rfl⟩
        rw [← l2] at c2
        rw [← l7] at c7
        rw [← l15] at c15
        rw [← l16] at c16
        have w2 : IntKind.i64.wrap (a2 : Int) = (a2 : Int) := IntWalk.i64_in _ (by omega)
        have w7 : IntKind.i64.wrap (a7 : Int) = (a7 : Int) := IntWalk.i64_in _ (by omega)
        have w15 : IntKind.i64.wrap (a15 : Int) = (a15 : Int) := IntWalk.i64_in _ (by omega)
        have w16 : IntKind.i64.wrap (a16 : Int) = (a16 : Int) := IntWalk.i64_in _ (by omega)
        have b2 : (a2 : Int) < 64 := by omega
        have b7 : (a7 : Int) < 64 := by omega
        have b15 : (a15 : Int) < 64 := by omega
        have b16 : (a16 : Int) < 64 := by omega
        have bk : (k : Int) < 64 := by omega
        have bk16 : ¬ ((k : Int) < 16) := by omega
        clear l2 l7 l15 l16 h16 hk h64 hn
        go_wp2_with fail
        refine still_tail 29 (by kernel_rfl) (by kernel_rfl) ?_
        simp only [List.take_succ_cons, List.take_zero, List.drop_succ_cons, List.drop_zero]
        repeat (first | still_step | (refine wpStill_step (fun K hK => ?_); go_simp; refine ⟨_, refTurn_q _ _ (by decide) _, hK _ ?_⟩; clear hK K))
        refine wpStill_nil ?_
        go_wp2
        go_roundw
        case measure => simp [intOf]; omega
        case rel =>
          refine ⟨k + 1, by omega, by go_num, ?_⟩
          obtain ⟨h1, h2, h3, h4, hL⟩ := HI.out
          have hs := hL.size
          refine ⟨(h1.other _ _ (by simp; omega)).drew, (h2.other _ _ (by simp; omega)).drew, (h3.other _ _ (by simp)).drew, ?_, below_drew (hL.setCell (p := ⟨_, _, none⟩) (by simp; omega) _)⟩
          have := (h4.set k (uv (wNext (tab l k) k))).drew
          rw [← List.map_set] at this
          rw [show tab l (k + 1) = (tab l k).set k (wNext (tab l k) k) by rw [tab, if_neg HK.out]]
          rw [HW.out] at this ⊢
          exact this
    · have HK := Lib.hid (show k = 64 by omega)
      have h64' : ¬ ((k : Int) < 64) := by omega
      clear hk h64
      obtain ⟨h1, h2, h3, h4, hL⟩ := HI.out
      clear HI hl hn
      obtain ⟨tb, htb⟩ : ∃ tb, tb = tab l k := ⟨_, rfl⟩
      have htl : tb.length = 64 := by rw [htb]; exact tab_len l k
      rw [← htb] at h4
      have HV2 : Hid (V = (addS (turns tb s 64) s).v) := Lib.hid (by rw [HV.out, htb, HK.out, addS_comm]; rfl)
      clear htb HV
      have z00 : (#[.int .u32 0, .int .u32 0, .int .u32 0, .int .u32 0, .int .u32 0, .int .u32 0, .int .u32 0, .int .u32 0] : Array Value) = (st00.l.map uv).toArray := rfl
      have h9 := Blk.new (cs := st00.l.map uv) wr 39 _ rfl
      go_wp2_with (first
        | (refine ld_blk rfl 39 _ rfl W.heap.size rfl 39 (s.l.map uv) h1 8 38 Tryd.underlying39 (by kernel_rfl) ?_)
        | (refine st_blk rfl 39 _ _ rfl wr.heap.size (s.l.map uv) rfl rfl 39 (st00.l.map uv) h9 (by kernel_rfl) rfl (uvs_one _) ?_))
      have hJ : RJ s tb s.l W g wr.heap.size ((wr.alloc (.cells (st00.l.map uv).toArray 39)).setRow wr.heap.size (s.l.map uv).toArray) := by
        have l1 := h1.lt
        have l2 := h2.lt
        have l3 := h3.lt
        have l4 := h4.lt
        exact ⟨⟨(h1.alloc _).row_other _ _ (by omega), (h2.alloc _).row_other _ _ (by omega), (h3.alloc _).row_other _ _ (by omega), (h4.alloc _).row_other _ _ (by omega), below_row (hL.alloc (by omega) _) (by omega) _⟩, h9.row _⟩
      have hg9 : g + 1 < wr.heap.size := h4.lt
      clear h1 h2 h3 h4 hL h9 z00
      generalize (wr.alloc (.cells (st00.l.map uv).toArray 39)).setRow wr.heap.size (s.l.map uv).toArray = W1 at hJ ⊢
      generalize wr.heap.size = g9 at hJ hg9 ⊢
      go_loopw [11, 12, 13] (fun i _ _ wr => ∃ j : Nat, j ≤ 64 ∧ i = .int .i64 j ∧ RJ s tb (turns tb s j).l W g g9 wr)
        (fun i _ _ _ => 64 - (intOf i).toNat)
      case atStart => exact ⟨0, by omega, rfl, hJ⟩
      case round =>
        obtain ⟨j, hj, rfl, hJ⟩ := hrel
        have HJ := Lib.hid hJ
        clear hJ
        by_cases h64 : j < 64
        · have hS := HJ.out.2
          have HS := Lib.hid (show turns tb s (j + 1) = turnS (turns tb s j) (kc j + tb.getD j 0) from rfl)
          have hck : (wr.cell? ⟨g, j, none⟩) = some (.int .u32 (uN (kc j))) := by rw [← kcL_at]; exact word_at HJ.out.1.2.2.1 (by rw [kcL_len]; omega)
          have hwk : (wr.cell? ⟨g + 1, j, none⟩) = some (.int .u32 (uN (tb.getD j 0))) := word_at HJ.out.1.2.2.2.1 (by omega)
          generalize turns tb s j = tt at HS hS
          obtain ⟨x0, x1, x2, x3, x4, x5, x6, x7⟩ := tt
          have e0 : wr.cell? ⟨g9, 0, none⟩ = some (.int .u32 (uN x0)) := hS.cell 0
          have e1 : wr.cell? ⟨g9, 1, none⟩ = some (.int .u32 (uN x1)) := hS.cell 1
          have e2 : wr.cell? ⟨g9, 2, none⟩ = some (.int .u32 (uN x2)) := hS.cell 2
          have e3 : wr.cell? ⟨g9, 3, none⟩ = some (.int .u32 (uN x3)) := hS.cell 3
          have e4 : wr.cell? ⟨g9, 4, none⟩ = some (.int .u32 (uN x4)) := hS.cell 4
          have e5 : wr.cell? ⟨g9, 5, none⟩ = some (.int .u32 (uN x5)) := hS.cell 5
          have e6 : wr.cell? ⟨g9, 6, none⟩ = some (.int .u32 (uN x6)) := hS.cell 6
          have e7 : wr.cell? ⟨g9, 7, none⟩ = some (.int .u32 (uN x7)) := hS.cell 7
          rw [turnS_two] at HS
          generalize tb.getD j 0 = wk at hwk HS
          generalize kc j = ck at hck HS
          have bj : (j : Int) < 64 := by omega
          have HJ64 := Lib.hid h64
          clear h64 hj
          go_wp2_with fail
          go_quiet ((go_at_call 27; exact Calls.quiet_of_same (refTurn_q _ _ (by decide) _)))
          go_wp2_with fail
          go_quiet ((go_at_call 27; exact quiet_same2 (refTurn_q _ _ (by decide) _)))
          have f0 := hS.frozen 0
          have f1 := hS.frozen 1
          have f2 := hS.frozen 2
          have f3 := hS.frozen 3
          have f4 := hS.frozen 4
          have f5 := hS.frozen 5
          have f6 := hS.frozen 6
          have f7 := hS.frozen 7
          go_wp2
          go_roundw
          case measure => simp [intOf]; omega
          case rel =>
            refine ⟨j + 1, by omega, by go_num, ?_⟩
            obtain ⟨⟨h1, h2, h3, h4, hL⟩, _⟩ := HJ.out
            have hs := hL.size
            rw [HS.out]
            refine ⟨⟨keep8 (h1.drewN _) (by omega) _ _ _ _ _ _ _ _, keep8 (h2.drewN _) (by omega) _ _ _ _ _ _ _ _, keep8 (h3.drewN _) (by omega) _ _ _ _ _ _ _ _, keep8 (h4.drewN _) (by omega) _ _ _ _ _ _ _ _, ?_⟩, ?_⟩
            · exact (blk8 (hS.drewN _) rfl (below_drewN hL _) (by omega) _ _ _ _ _ _ _ _).2
            · exact (blk8 (hS.drewN _) rfl (below_drewN hL _) (by omega) _ _ _ _ _ _ _ _).1
        · have HK2 := Lib.hid (show j = 64 by omega)
          have h64' : ¬ ((j : Int) < 64) := by omega
          clear hj h64
          obtain ⟨⟨h1, h2, h3, h4, hL⟩, h9⟩ := HJ.out
          clear HJ
          have HV3 : Hid (V = .agg ((addK (turns tb s j).l s.l 8).map uv).toArray) := Lib.hid (by rw [HV2.out, HK2.out, addK_8]; rfl)
          generalize turns tb s j = tt at h9 HV3
          have hsl : s.l.length = 8 := rfl
          go_wp2_with fail
          go_loopw [14] (fun i wr => ∃ m : Nat, m ≤ 8 ∧ i = .int .i64 m ∧ RJ s tb (addK tt.l s.l m) W g g9 wr)
            (fun i _ => 8 - (intOf i).toNat)
          case atStart => exact ⟨0, by omega, rfl, ⟨h1, h2, h3, h4, hL⟩, h9⟩
          case round =>
            obtain ⟨m, hm, rfl, hJ⟩ := hrel
            have HJ := Lib.hid hJ
            clear hJ
            have hal : (addK tt.l s.l m).length = 8 := addK_len _ _ _
            by_cases h8 : m < 8
            · have ca := word_at HJ.out.2 (i := m) (by omega)
              have cb := word_at HJ.out.1.1 (i := m) (by omega)
              have cf := HJ.out.2.frozen m
              have HS := Lib.hid (show addK tt.l s.l (m + 1) = (addK tt.l s.l m).set m ((addK tt.l s.l m).getD m 0 + s.l.getD m 0) from rfl)
              have hm8 : (m : Int) < 8 := by omega
              generalize (addK tt.l s.l m).getD m 0 = x at ca HS
              generalize s.l.getD m 0 = y at cb HS
              clear h1 h2 h3 h4 hL h9
              go_wp2_with fail
              go_region
              go_wp2
              go_roundw
              case measure => simp [intOf]; omega
              case rel =>
                obtain ⟨⟨h1, h2, h3, h4, hL⟩, h9⟩ := HJ.out
                have hs := hL.size
                refine ⟨m + 1, by omega, by go_num, ⟨(h1.other _ _ (by simp; omega)).drew, (h2.other _ _ (by simp; omega)).drew, (h3.other _ _ (by simp; omega)).drew, (h4.other _ _ (by simp; omega)).drew, below_drew (hL.setCell (p := ⟨_, _, none⟩) (by simp; omega) _)⟩, ?_⟩
                rw [HS.out, List.map_set]
                exact (h9.set m (uv (x + y))).drew
            · have HM := Lib.hid (show m = 8 by omega)
              have h8' : ¬ ((m : Int) < 8) := by omega
              clear hm h8 h1 h2 h3 h4 hL h9
              obtain ⟨⟨h1, h2, h3, h4, hL⟩, h9⟩ := HJ.out
              go_wp2_with (first
                | (refine ld_blk rfl 39 _ rfl g9 rfl 39 _ h9 8 38 Tryd.underlying39 (by rw [List.length_map, hal]; kernel_rfl) ?_)
                | (refine st_blk rfl 39 _ _ rfl (W.heap.size + 1) ((addK tt.l s.l m).map uv) rfl rfl 39 _ h2 (by rw [List.length_map, hal]; kernel_rfl) (by rw [List.length_map, List.length_map, hal]; rfl) (uvs_one _) ?_))
              try simp only [Exit.inBlock, Exit.then]
              refine ret_cell rfl _ _ _ rfl (h2.row ((addK tt.l s.l m).map uv)) 8 38 Tryd.underlying39 (by rw [List.length_map, hal]; kernel_rfl) rfl ⟨?_, below_row hL (by omega) _⟩
              rw [HV3.out, HM.out]

end Go.Proofs.YtbpjklafhohlnaaDoor
