/-
  Walks over package sha: a block's 64 numbers.
-/
import Derived.Test.YtbpjklafhohlnaaDoorShaA
import Derived.RegionTactic
import Derived.BigRegion
import Derived.StillTailTactics
import Derived.IntWalk
namespace Go.Proofs.YtbpjklafhohlnaaDoor
open Go.RowKit
set_option linter.unusedVariables false
set_option linter.unusedSimpArgs false

attribute [local go_sem] u_addm u_addw u_add3 u_add4 u_add5 u_add12 u_add13 u_xor u_and u_or u_not u_not2 u_not3 u_not4 u_shr3 u_shr10

theorem word_at {w : World} {g : Nat} {t : TypeId} {l : List UInt32} (h : Blk w g t (l.map uv)) {i : Nat} (hi : i < l.length) : w.cell? ⟨g, i, none⟩ = some (.int .u32 (uN (l.getD i 0))) := by
  rw [h.cell, List.getElem?_map, List.getElem?_eq_getElem hi, List.getD_eq_getElem?_getD, List.getElem?_eq_getElem hi]
  rfl
theorem slice_block (g k m : Nat) (hm : 4 * k + m = 64) (h4 : 4 ≤ m) (w : World) :
    (Instr.sliceAt 31 (.pointer (some ⟨g, 0, none⟩)) (some (.int .i64 (4 * ((k : Nat) : Int)))) none none).run Tryd.prog w = .ok (.slice (some ⟨g, 4 * k, none⟩) m m) w := by
  have hl : Tryd.prog.arrayLen 31 = 64 := by kernel_rfl
  have he : Tryd.prog.elem 31 = 5 := by kernel_rfl
  rw [run_sliceAt_array_l w 31 ⟨g, 0, none⟩ (by rw [hl, he]; exact Tryd.underlying31) .i64 _ (by omega) (by rw [hl]; omega)]
  rw [hl, he]
  have hs : (sizeOf 5).run Tryd.prog w = .ok 1 w := by kernel_rfl
  rw [hs]
  show Result.ok _ w = _
  unfold slicedAt
  rw [show (4 * ((k : Nat) : Int)).toNat = 4 * k by omega, if_neg (by omega), show 64 - 4 * k = m by omega, Nat.mul_one, Addr.add_lit, Nat.zero_add]

/-- A region that draws, whose first n operations read: the tail behind it in the world that has drawn. -/
theorem still_tail {P : Program} {id : Nat} {Q : Exit → Act → World → Prop} {a : Act} {w : World} {l : List Oper} (n : Nat) (hm : P.follows .mixedOrders = true) (hB : Region.lexTailB .any l.toArray n = true)
    (h : wpStill P l.toArray w.drew (fun a' => wpList P l.toArray Q (l.drop n) a' w.drew) (l.take n) a) : (Code.region id l.toArray true).wp P Q a w :=
  wp_region_still_tail n hm hB h

theorem be_bits (x0 x1 x2 x3 : UInt8) :
    bits .or .u32 (bits .or .u32 (bits .or .u32 (((x0.toNat : Nat) : Int) * 16777216) (((x1.toNat : Nat) : Int) * 65536)) (((x2.toNat : Nat) : Int) * 256)) ((x3.toNat : Nat) : Int) =
    uN (UInt32.ofNat (x0.toNat * 16777216 + x1.toNat * 65536 + x2.toNat * 256 + x3.toNat)) := by
  have h0 := x0.toNat_lt
  have h1 := x1.toNat_lt
  have h2 := x2.toNat_lt
  have h3 := x3.toNat_lt
  generalize x0.toNat = a at *
  generalize x1.toNat = b at *
  generalize x2.toNat = c at *
  generalize x3.toNat = d at *
  have e1 : bits .or .u32 ((a : Int) * 16777216) ((b : Int) * 65536) = ((a * 16777216 + b * 65536 : Nat) : Int) := by
    have := u32_or_nat (a * 16777216) (b * 65536) (by omega) (by omega)
    rw [show a * 16777216 = 2 ^ 24 * a by omega, ← Nat.two_pow_add_eq_or_of_lt (by omega), show 2 ^ 24 * a = a * 16777216 by omega] at this
    rw [← this]; rfl
  rw [e1]
  have e2 : bits .or .u32 ((a * 16777216 + b * 65536 : Nat) : Int) ((c : Int) * 256) = ((a * 16777216 + b * 65536 + c * 256 : Nat) : Int) := by
    have := u32_or_nat (a * 16777216 + b * 65536) (c * 256) (by omega) (by omega)
    rw [show a * 16777216 + b * 65536 = 2 ^ 16 * (a * 256 + b) by omega, ← Nat.two_pow_add_eq_or_of_lt (by omega), show 2 ^ 16 * (a * 256 + b) = a * 16777216 + b * 65536 by omega] at this
    rw [← this]; rfl
  rw [e2]
  have e3 : bits .or .u32 ((a * 16777216 + b * 65536 + c * 256 : Nat) : Int) (d : Int) = ((a * 16777216 + b * 65536 + c * 256 + d : Nat) : Int) := by
    have := u32_or_nat (a * 16777216 + b * 65536 + c * 256) d (by omega) (by omega)
    rw [show a * 16777216 + b * 65536 + c * 256 = 2 ^ 8 * (a * 65536 + b * 256 + c) by omega, ← Nat.two_pow_add_eq_or_of_lt (by omega), show 2 ^ 8 * (a * 65536 + b * 256 + c) = a * 16777216 + b * 65536 + c * 256 by omega] at this
    rw [← this]
  rw [e3]
  unfold uN
  rw [UInt32.toNat_ofNat', Nat.mod_eq_of_lt (by omega)]

/-- What the first loop keeps: the block's bytes, the table as far as it stands. -/
def SprI (b : List UInt8) (W : World) (k : Nat) (wr : World) : Prop :=
  Blk wr W.heap.size 31 (b.map bv) ∧ Blk wr (W.heap.size + 1 + 1) 46 ((tab b k).map uv) ∧ Blk wr (W.heap.size + 1) 46 ((tab b 0).map uv) ∧ Below W.heap.size W wr

set_option maxHeartbeats 2000000 in
theorem spread_any (b : List UInt8) (hb : b.length = 64) (W : World) :
    Calls Tryd.prog 31 #[.agg (b.map bv).toArray] W fun e W' => e = .returned (.agg ((tab b 64).map uv).toArray) ∧ Below W.heap.size W W' := by
  go_enter Tryd.func31, Tryd.ntmps31
  go_wp2_with fail
  go_loopw [4, 5, 9] (fun _ _ i wr => ∃ k : Nat, k ≤ 16 ∧ i = .int .i64 k ∧ SprI b W k wr)
    (fun _ _ i _ => 16 - (intOf i).toNat)
  case atStart =>
    refine ⟨0, by omega, rfl, ?_, ?_, ?_, ?_⟩
    · exact ((Blk.new W _ _ rfl).alloc _).alloc _
    · have h := Blk.new (cs := (tab b 0).map uv) ((W.alloc (.cells (b.map bv).toArray 31)).alloc (.cells ((tab b 0).map uv).toArray 46)) 46 _ rfl
      rw [World.size_alloc, World.size_alloc] at h
      exact h
    · have h := (Blk.new (cs := (tab b 0).map uv) (W.alloc (.cells (b.map bv).toArray 31)) 46 _ rfl).alloc (.cells ((tab b 0).map uv).toArray 46)
      rw [World.size_alloc] at h
      exact h
    · exact (((Below.refl W.heap.size W).alloc (Nat.le_refl _) _).alloc (by simp) _).alloc (by simp; omega) _
  case round =>
    obtain ⟨k, hk, rfl, hI⟩ := hrel
    by_cases h16 : k < 16
    · obtain ⟨m, hm⟩ : ∃ m, 4 * k + m = 64 := ⟨64 - 4 * k, by omega⟩
      have h4 : 4 ≤ m := by omega
      have hsl := slice_block W.heap.size k m hm h4 wr
      have HI := Lib.hid hI
      obtain ⟨h1, h2, h3, hL⟩ := hI
      have c0 := h1.byte (i := 4 * k) (by omega)
      have c1 := h1.byte (i := 4 * k + 1) (by omega)
      have c2 := h1.byte (i := 4 * k + 2) (by omega)
      have c3 := h1.byte (i := 4 * k + 3) (by omega)
      have ct := word_at h2 (i := k) (by rw [tab_len]; omega)
      have cf := h2.frozen k
      have HB := Lib.hid (show be4 b k = UInt32.ofNat ((b.getD (4 * k) 0).toNat * 16777216 + (b.getD (4 * k + 1) 0).toNat * 65536 + (b.getD (4 * k + 2) 0).toNat * 256 + (b.getD (4 * k + 3) 0).toNat) from rfl)
      clear h1 h2 h3 hL
      generalize (tab b k).getD k 0 = old at ct
      generalize b.getD (4 * k) 0 = x0 at c0 HB
      generalize b.getD (4 * k + 1) 0 = x1 at c1 HB
      generalize b.getD (4 * k + 2) 0 = x2 at c2 HB
      generalize b.getD (4 * k + 3) 0 = x3 at c3 HB
      have y0 := x0.toNat_lt
      have y1 := x1.toNat_lt
      have y2 := x2.toNat_lt
      have y3 := x3.toNat_lt
      go_wp2_with fail
      go_region
      go_wp2
      refine ⟨⟨k + 1, by omega, by go_num, ?_⟩, by simp [intOf]; omega⟩
      obtain ⟨h1, h2, h3, hL⟩ := HI.out
      rw [be_bits, ← HB.out]
      refine ⟨(h1.other _ _ (by simp; omega)).drew, ?_, (h3.other _ _ (by simp)).drew, below_drew (hL.setCell (p := ⟨_, _, none⟩) (by simp; omega) _)⟩
      have := (h2.set k (uv (be4 b k))).drew
      rw [← List.map_set] at this
      rw [show tab b (k + 1) = (tab b k).set k (be4 b k) by rw [tab, if_pos h16]]
      exact this
    · have HI0 := Lib.hid hI
      have HK0 := Lib.hid (show k = 16 by omega)
      clear hI
      have h16' : ¬ ((k : Int) < 16) := by omega
      clear hk h16
      go_wp2_with fail
      go_loopw [6, 7, 8] (fun i _ _ wr => ∃ k : Nat, 16 ≤ k ∧ k ≤ 64 ∧ i = .int .i64 k ∧ SprI b W k wr)
        (fun i _ _ _ => 64 - (intOf i).toNat)
      case atStart => exact ⟨16, by omega, by omega, rfl, by rw [← HK0.out]; exact HI0.out⟩
      case round =>
        obtain ⟨k, hk16, hk, rfl, hI⟩ := hrel
        have HI := Lib.hid hI
        clear hI
        by_cases h64 : k < 64
        · have h2 := HI.out.2.1
          have ct := word_at h2 (i := k) (by rw [tab_len]; omega)
          have cf := h2.frozen k
          have c2 := word_at h2 (i := k - 2) (by rw [tab_len]; omega)
          have c7 := word_at h2 (i := k - 7) (by rw [tab_len]; omega)
          have c15 := word_at h2 (i := k - 15) (by rw [tab_len]; omega)
          have c16 := word_at h2 (i := k - 16) (by rw [tab_len]; omega)
          have HW := Lib.hid (show wNext (tab b k) k = (tab b k).getD (k - 16) 0 + (rotr ((tab b k).getD (k - 15) 0) 7 ^^^ rotr ((tab b k).getD (k - 15) 0) 18 ^^^ shr ((tab b k).getD (k - 15) 0) 3) + (tab b k).getD (k - 7) 0 + (rotr ((tab b k).getD (k - 2) 0) 17 ^^^ rotr ((tab b k).getD (k - 2) 0) 19 ^^^ shr ((tab b k).getD (k - 2) 0) 10) from rfl)
          clear h2
          generalize (tab b k).getD k 0 = old at ct
          generalize (tab b k).getD (k - 2) 0 = y at c2 HW
          generalize (tab b k).getD (k - 7) 0 = z at c7 HW
          generalize (tab b k).getD (k - 15) 0 = x at c15 HW
          generalize (tab b k).getD (k - 16) 0 = v at c16 HW
          obtain ⟨a2, r2, l2⟩ : ∃ a : Nat, (k : Int) - 2 = (a : Int) ∧ a = k - 2 := ⟨k - 2, by omega, rfl⟩
          obtain ⟨a7, r7, l7⟩ : ∃ a : Nat, (k : Int) - 7 = (a : Int) ∧ a = k - 7 := ⟨k - 7, by omega, rfl⟩
          obtain ⟨a15, r15, l15⟩ : ∃ a : Nat, (k : Int) - 15 = (a : Int) ∧ a = k - 15 := ⟨k - 15, by omega, rfl⟩
          obtain ⟨a16, r16, l16⟩ : ∃ a : Nat, (k : Int) - 16 = (a : Int) ∧ a = k - 16 := ⟨k - 16, by omega, rfl⟩
          rw [← l2] at c2
          rw [← l7] at c7
          rw [← l15] at c15
          rw [← l16] at c16
          have w2 : IntKind.i64.wrap (a2 : Int) = (a2 : Int) := IntWalk.i64_in _ (by omega)
          have w7 : IntKind.i64.wrap (a7 : Int) = (a7 : Int) := IntWalk.i64_in _ (by omega)
          have w15 : IntKind.i64.wrap (a15 : Int) = (a15 : Int) := IntWalk.i64_in _ (by omega)
          have w16 : IntKind.i64.wrap (a16 : Int) = (a16 : Int) := IntWalk.i64_in _ (by omega)
          have b2 : (a2 : Int) < 64 := by omega
          have b7 : (a7 : Int) < 64 := by omega
          have b15 : (a15 : Int) < 64 := by omega
          have b16 : (a16 : Int) < 64 := by omega
          have bk : (k : Int) < 64 := by omega
          clear l2 l7 l15 l16 hk16 hk h64
          go_wp2_with fail
          go_quiet (fail)
          go_wp2_with fail
          refine still_tail 29 (by kernel_rfl) (by kernel_rfl) ?_
          simp only [List.take_succ_cons, List.take_zero, List.drop_succ_cons, List.drop_zero]
          repeat (first | still_step | (refine wpStill_step (fun K hK => ?_); go_simp; refine ⟨_, right_q _ _ (by decide) _, hK _ ?_⟩; clear hK K))
          refine wpStill_nil ?_
          go_wp2
          go_roundw
          case measure => simp [intOf]; omega
          case rel =>
           refine ⟨k + 1, by omega, by omega, by go_num, ?_⟩
           obtain ⟨h1, h2, h3, hL⟩ := HI.out
           refine ⟨(h1.drewN _).other _ _ (by simp; omega), ?_, (h3.drewN _).other _ _ (by simp), (below_drewN hL _).setCell (p := ⟨W.heap.size + 1 + 1, _, none⟩) (by simp; omega) _⟩
           have := (h2.drewN (nq + 1)).set k (uv (wNext (tab b k) k))
           rw [← List.map_set] at this
           rw [show tab b (k + 1) = (tab b k).set k (wNext (tab b k) k) by rw [tab, if_neg (by omega)]]
           rw [HW.out] at this ⊢
           exact this
        · obtain rfl : k = 64 := by omega
          obtain ⟨h1, h2, h3, hL⟩ := HI.out
          clear hk hk16 h64
          generalize htb : tab b 64 = tb at h2 ⊢
          have htl : tb.length = 64 := by rw [← htb]; exact tab_len b 64
          have hz : ((tab b 0).map uv).length = 64 := by rw [List.length_map]; exact tab_len b 0
          go_wp2_with (first
            | (refine ld_blk rfl 46 _ rfl (W.heap.size + 1 + 1) rfl 46 _ h2 64 38 Tryd.underlying46 (by rw [List.length_map, htl]; kernel_rfl) ?_)
            | (refine st_blk rfl 46 _ _ rfl (W.heap.size + 1) (tb.map uv) rfl rfl 46 _ h3 (by rw [List.length_map, htl]; kernel_rfl) (by rw [hz, List.length_map, htl]) (uvs_one tb) ?_))
          try simp only [Exit.inBlock, Exit.then]
          subst htb
          refine ret_cell rfl _ _ _ rfl (h3.row ((tab b 64).map uv)) 64 38 Tryd.underlying46 (by rw [List.length_map, htl]; kernel_rfl) rfl ⟨rfl, below_row hL (by omega) _⟩

end Go.Proofs.YtbpjklafhohlnaaDoor
