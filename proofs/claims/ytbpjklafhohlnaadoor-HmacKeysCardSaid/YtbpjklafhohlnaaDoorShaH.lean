/-
  A digest's bytes; slices.Grow and slices.Concat, where Sum calls them.
-/
import Derived.Test.YtbpjklafhohlnaaDoorShaP
import Derived.Test.YtbpjklafhohlnaaDoorShaB
import Derived.Lib.AppendZeros
namespace Go.Proofs.YtbpjklafhohlnaaDoor
open Go.RowKit
set_option linter.unusedVariables false
set_option linter.unusedSimpArgs false

/-- A number's four bytes, the highest first. -/
def wb (x : UInt32) : List UInt8 := [UInt8.ofNat (x.toNat / 16777216), UInt8.ofNat (x.toNat / 65536), UInt8.ofNat (x.toNat / 256), UInt8.ofNat x.toNat]
/-- The digest of a state. -/
def digL (l : List UInt32) : List UInt8 := l.flatMap wb
def digK (l : List UInt32) : Nat → List UInt8
  | 0 => List.replicate 32 0
  | k + 1 => ((((digK l k).set (4 * k) (UInt8.ofNat ((l.getD k 0).toNat / 16777216))).set (4 * k + 1) (UInt8.ofNat ((l.getD k 0).toNat / 65536))).set (4 * k + 2) (UInt8.ofNat ((l.getD k 0).toNat / 256))).set (4 * k + 3) (UInt8.ofNat (l.getD k 0).toNat)
theorem digK_len (l : List UInt32) (k : Nat) : (digK l k).length = 32 := by
  induction k with
  | zero => rfl
  | succ k ih => rw [digK, List.length_set, List.length_set, List.length_set, List.length_set, ih]
theorem digK_8 (s : St) : digK s.l 8 = digL s.l := by
  obtain ⟨a, b, c, d, e, f, g, h⟩ := s
  unfold digL
  simp only [digK, St.l, List.getD_cons_zero, List.getD_cons_succ, List.flatMap_cons, List.flatMap_nil, wb, List.replicate, List.set_cons_succ, List.set_cons_zero, Nat.reduceMul, Nat.reduceAdd, Nat.mul_zero, Nat.zero_add, List.cons_append, List.nil_append]
theorem digL_len (s : St) : (digL s.l).length = 32 := rfl

theorem by_3 (x : UInt32) : uN x / 16777216 % 256 = (((UInt8.ofNat (x.toNat / 16777216)).toNat : Nat) : Int) := by unfold uN; rw [ofNat_mod]; simp
theorem by_2 (x : UInt32) : uN x / 65536 % 256 = (((UInt8.ofNat (x.toNat / 65536)).toNat : Nat) : Int) := by unfold uN; rw [ofNat_mod]; simp
theorem by_1 (x : UInt32) : uN x / 256 % 256 = (((UInt8.ofNat (x.toNat / 256)).toNat : Nat) : Int) := by unfold uN; rw [ofNat_mod]; simp
theorem by_0 (x : UInt32) : uN x % 256 = (((UInt8.ofNat x.toNat).toNat : Nat) : Int) := by unfold uN; rw [ofNat_mod]; simp

set_option maxRecDepth 100000 in
set_option maxHeartbeats 2000000 in
theorem digest_any (s : St) (W : World) :
    Calls Tryd.prog 23 #[s.v] W fun e W' => e = .returned (.agg ((digL s.l).map bv).toArray) ∧ Below W.heap.size W W' := by
  rw [← digK_8, St.v_l]
  have z32 : (#[.int .u8 0, .int .u8 0, .int .u8 0, .int .u8 0, .int .u8 0, .int .u8 0, .int .u8 0, .int .u8 0, .int .u8 0, .int .u8 0, .int .u8 0, .int .u8 0, .int .u8 0, .int .u8 0, .int .u8 0, .int .u8 0, .int .u8 0, .int .u8 0, .int .u8 0, .int .u8 0, .int .u8 0, .int .u8 0, .int .u8 0, .int .u8 0, .int .u8 0, .int .u8 0, .int .u8 0, .int .u8 0, .int .u8 0, .int .u8 0, .int .u8 0, .int .u8 0] : Array Value) = ((digK s.l 0).map bv).toArray := rfl
  obtain ⟨V, hV⟩ : ∃ V, V = (Value.agg ((digK s.l 8).map bv).toArray) := ⟨_, rfl⟩
  rw [← hV]
  have HV := Lib.hid hV
  clear hV
  have b1 := ((Blk.new (cs := s.l.map uv) W 39 _ rfl).alloc (.cells ((digK s.l 0).map bv).toArray 24)).alloc (.cells ((digK s.l 0).map bv).toArray 24)
  have b2 := ((Blk.new (cs := (digK s.l 0).map bv) (W.alloc (.cells (s.l.map uv).toArray 39)) 24 _ rfl).alloc (.cells ((digK s.l 0).map bv).toArray 24))
  have b3 := (Blk.new (cs := (digK s.l 0).map bv) ((W.alloc (.cells (s.l.map uv).toArray 39)).alloc (.cells ((digK s.l 0).map bv).toArray 24)) 24 _ rfl)
  rw [World.size_alloc] at b2
  rw [World.size_alloc, World.size_alloc] at b3
  have hL : Below W.heap.size W (((W.alloc (.cells (s.l.map uv).toArray 39)).alloc (.cells ((digK s.l 0).map bv).toArray 24)).alloc (.cells ((digK s.l 0).map bv).toArray 24)) :=
    (((Below.refl W.heap.size W).alloc (Nat.le_refl _) _).alloc (by simp) _).alloc (by simp; omega) _
  go_enter Tryd.func23, Tryd.ntmps23
  go_wp2_with (refine ld_blk rfl 39 _ rfl W.heap.size rfl 39 (s.l.map uv) b1 8 38 Tryd.underlying39 (by kernel_rfl) ?_)
  clear z32
  go_loopw [4, 5, 7] (fun _ _ i wr => ∃ k : Nat, k ≤ 8 ∧ i = .int .i64 k ∧ Blk wr (W.heap.size + 1) 24 ((digK s.l 0).map bv) ∧ Blk wr (W.heap.size + 1 + 1) 24 ((digK s.l k).map bv) ∧ Below W.heap.size W wr)
    (fun _ _ i _ => 8 - (intOf i).toNat)
  case atStart => exact ⟨0, by omega, rfl, b2, b3, hL⟩
  case round =>
    obtain ⟨k, hk, rfl, h1, h2, h3⟩ := hrel
    have H1 := Lib.hid h1
    have H2 := Lib.hid h2
    have H3 := Lib.hid h3
    by_cases h8 : k < 8
    · have hx : ∀ w : World, (Instr.index 39 (.agg (s.l.map uv).toArray) (.int .i64 ((k : Nat) : Int))).run Tryd.prog w = .ok (.int .u32 (uN (s.l.getD k 0))) w := fun w =>
        index_agg w 39 38 8 (s.l.map uv) Tryd.underlying39 (by kernel_rfl) (by kernel_rfl) k .i64 h8 _ (uv_at s.l (show k < 8 from h8))
      have hl := digK_len s.l k
      have f := fun j => h2.frozen j
      have cc : ∀ j, j < 32 → wr.cell? ⟨W.heap.size + 1 + 1, j, none⟩ = some (.int .u8 ((((digK s.l k).getD j 0).toNat : Nat) : Int)) := fun j hj => h2.byte (by omega)
      obtain ⟨q, rq, lq⟩ : ∃ a : Nat, 4 * (k : Int) = (a : Int) ∧ a = 4 * k := ⟨4 * k, by omega, rfl⟩
      obtain ⟨q1, rq1, lq1⟩ : ∃ a : Nat, (q : Int) + 1 = (a : Int) ∧ a = 4 * k + 1 := ⟨4 * k + 1, by omega, rfl⟩
      obtain ⟨q2, rq2, lq2⟩ : ∃ a : Nat, (q : Int) + 2 = (a : Int) ∧ a = 4 * k + 2 := ⟨4 * k + 2, by omega, rfl⟩
      obtain ⟨q3, rq3, lq3⟩ : ∃ a : Nat, (q : Int) + 3 = (a : Int) ∧ a = 4 * k + 3 := ⟨4 * k + 3, by omega, rfl⟩
      have HD := Lib.hid (show digK s.l (k + 1) = ((((digK s.l k).set q (UInt8.ofNat ((s.l.getD k 0).toNat / 16777216))).set q1 (UInt8.ofNat ((s.l.getD k 0).toNat / 65536))).set q2 (UInt8.ofNat ((s.l.getD k 0).toNat / 256))).set q3 (UInt8.ofNat (s.l.getD k 0).toNat) by rw [lq, lq1, lq2, lq3]; rfl)
      have c0 := cc q (by omega)
      have c1 := cc q1 (by omega)
      have c2 := cc q2 (by omega)
      have c3 := cc q3 (by omega)
      have f0 := f q
      have f1 := f q1
      have f2 := f q2
      have f3 := f q3
      have n01 : q ≠ q1 := by omega
      have n02 : q ≠ q2 := by omega
      have n03 : q ≠ q3 := by omega
      have n12 : q1 ≠ q2 := by omega
      have n13 : q1 ≠ q3 := by omega
      have n23 : q2 ≠ q3 := by omega
      have l0 : (q : Int) < 32 := by omega
      have l1 : (q1 : Int) < 32 := by omega
      have l2 : (q2 : Int) < 32 := by omega
      have l3 : (q3 : Int) < 32 := by omega
      clear lq lq1 lq2 lq3 f cc hl h1 h2 h3
      generalize s.l.getD k 0 = x at hx HD
      generalize (digK s.l k).getD q 0 = y0 at c0
      generalize (digK s.l k).getD q1 0 = y1 at c1
      generalize (digK s.l k).getD q2 0 = y2 at c2
      generalize (digK s.l k).getD q3 0 = y3 at c3
      go_wp2
      go_roundw
      case measure => simp [intOf]; omega
      case rel =>
        refine ⟨k + 1, by omega, by go_num, ((((H1.out.other _ _ (by simp)).other _ _ (by simp)).other _ _ (by simp)).other _ _ (by simp)), ?_,
          ((((H3.out.setCell (p := ⟨W.heap.size + 1 + 1, q, none⟩) (by simp; omega) _).setCell (p := ⟨W.heap.size + 1 + 1, q1, none⟩) (by simp; omega) _).setCell (p := ⟨W.heap.size + 1 + 1, q2, none⟩) (by simp; omega) _).setCell (p := ⟨W.heap.size + 1 + 1, q3, none⟩) (by simp; omega) _)⟩
        rw [by_3, by_2, by_1, by_0, HD.out, List.map_set, List.map_set, List.map_set, List.map_set]
        exact (((H2.out.set q _).set q1 _).set q2 _).set q3 _
    · have HK := Lib.hid (show k = 8 by omega)
      have h8' : ¬ ((k : Int) < 8) := by omega
      have hlen : ((digK s.l k).map bv).length = 32 := by rw [List.length_map, digK_len]
      have hlen0 : ((digK s.l 0).map bv).length = 32 := by rw [List.length_map, digK_len]
      clear hk h8
      go_wp2_with (first
        | (refine ld_blk rfl 24 _ rfl (W.heap.size + 1 + 1) rfl 24 _ h2 32 5 Tryd.underlying24 (by rw [hlen]; kernel_rfl) ?_)
        | (refine st_blk rfl 24 _ _ rfl (W.heap.size + 1) ((digK s.l k).map bv) rfl rfl 24 _ h1 (by rw [hlen]; kernel_rfl) (by rw [hlen, hlen0]) (bvs_one _) ?_))
      try simp only [Exit.inBlock, Exit.then]
      refine ret_cell rfl _ _ _ rfl (h1.row ((digK s.l k).map bv)) 32 5 Tryd.underlying24 (by rw [hlen]; kernel_rfl) rfl ⟨?_, below_row h3 (by omega) _⟩
      rw [HV.out, HK.out]

set_option maxHeartbeats 1000000 in
/-- Grow of the nil slice by n > 0. -/
theorem grow_any (n : Nat) (h0 : 0 < n) (hn : n ≤ 140737488355328) (W : World) :
    Calls Tryd.prog 25 #[.slice none 0 0, .int .i64 ((n : Nat) : Int)] W fun e W' => ∃ v, e = .returned v ∧
      W'.ownsRow W.heap.size 5 1 v 0 [] ∧ Below W.heap.size W W' := by
  obtain ⟨i0, hi, hz0, hz1, hz2⟩ := info_parts Tryd.info5
  go_enter Tryd.func25, Tryd.ntmps25
  go_wp2_with (at_builtin; refine Lib.wpList_append_run _ rfl _ _ 22 3 rfl (.slice none 0 0) (.int .i64 n) rfl rfl _ _ (Lib.run_append_nil_zeros _ 22 3 _ 5 i0 (.int .u8 0) .i64 .i64 Tryd.underlying22 Tryd.underlying3 hi hz0 n h0 (by rw [hz1]; decide) (by omega) (by rw [hz2]; omega)) ?_)
  go_ret
  refine ⟨_, rfl, ⟨rfl, .inr ⟨W.heap.size, grownCap W n 0 5, _, rfl, Nat.le_refl _, heap_alloc_new W _, Nat.zero_le _, grownCap_le_maxLen _ _ _ _ (by unfold maxLen; omega), ?_, by simp⟩⟩, ?_⟩
  · have := grownCap_ge W n 0 5
    rw [Array.size_append, size_zeroCells, size_zeroCells]
    simp
    omega
  · exact below_drew ((Below.refl _ _).alloc (Nat.le_refl _) _)

/-- The bytes of the first k of two. -/
def twoL (l1 l2 : List UInt8) (k : Nat) : List UInt8 := if k = 0 then [] else if k = 1 then l1 else l1 ++ l2
def twoN (n1 n2 k : Nat) : Nat := if k = 0 then 0 else if k = 1 then n1 else n1 + n2

set_option maxHeartbeats 2000000 in
/-- Concat of two slices of bytes that lie in a slice of two. -/
theorem concat_any (A1 : Option Addr) (n1 c1 : Nat) (l1 : List UInt8) (A2 : Option Addr) (n2 c2 : Nat) (l2 : List UInt8) (g B : Nat) (W : World)
    (h1 : Byt W B A1 n1 l1) (hn1 : A1 = none → c1 = 0) (h2 : Byt W B A2 n2 l2) (hn2 : A2 = none → c2 = 0) (hB : B ≤ W.heap.size) (hb1 : n1 ≤ 70368744177664) (hb2 : n2 ≤ 70368744177664) (h0 : 0 < n1 + n2)
    (hc0 : W.cell? ⟨g, 0, none⟩ = some (.slice A1 n1 c1)) (hc1 : W.cell? ⟨g, 1, none⟩ = some (.slice A2 n2 c2)) :
    Calls Tryd.prog 16 #[.slice (some ⟨g, 0, none⟩) 2 2] W fun e W' => ∃ v, e = .returned v ∧
      W'.ownsRow W.heap.size 5 1 v (n1 + n2) ((l1 ++ l2).map bv) ∧ Below W.heap.size W W' := by
  obtain ⟨i0, hi, hz0, hz1, hz2⟩ := info_parts Tryd.info5
  have hgl := World.block_lt_of_cell? W _ hc0
  go_enter Tryd.func16, Tryd.ntmps16
  go_wp2_with fail
  go_loopw [3, 5, 11] (fun sz _ i wr => wr = W ∧ ∃ k m : Nat, k ≤ 2 ∧ i = .int .i64 k ∧ sz = .int .i64 m ∧ m = twoN n1 n2 k)
    (fun _ _ i _ => 2 - (intOf i).toNat)
  case atStart => exact ⟨rfl, 0, 0, by omega, rfl, rfl, rfl⟩
  case round =>
    obtain ⟨rfl, k, m, hk, rfl, rfl, hm⟩ := hrel
    by_cases hk0 : k = 0
    · subst hk0
      obtain rfl : m = 0 := hm
      go_wp2
      go_roundw
      case rel => exact ⟨trivial, 1, n1, by omega, by go_num, by go_num, rfl⟩
      case measure => simp [intOf]
    · by_cases hk1 : k = 1
      · subst hk1
        obtain rfl : m = n1 := hm
        go_wp2
        go_roundw
        case rel => exact ⟨trivial, 2, m + n2, by omega, by go_num, by go_num, rfl⟩
        case measure => simp [intOf]
      · have hk2 : ¬ ((k : Int) < 2) := by omega
        have hmm : m = n1 + n2 := by rw [hm]; unfold twoN; rw [if_neg hk0, if_neg hk1]
        have hm0 : 0 < m := by omega
        have hm47 : m ≤ 140737488355328 := by omega
        have HM := Lib.hid hmm
        clear hk hk0 hk1 hm hmm
        go_wp2_with (go_at_call 25; refine (grow_any m hm0 hm47 _).mono ?_; rintro e w1 ⟨v, rfl, hown, hbel⟩)
        obtain ⟨w0, rfl⟩ : ∃ w0, w0 = wr := ⟨_, rfl⟩
        clear hk2
        go_loopw [6, 8, 27] (fun v _ i wx => ∃ j : Nat, j ≤ 2 ∧ i = .int .i64 j ∧ wx.ownsRow w0.heap.size 5 1 v (twoN n1 n2 j) ((twoL l1 l2 j).map bv) ∧ Below w0.heap.size w0 wx)
          (fun _ _ i _ => 2 - (intOf i).toNat)
        case atStart => exact ⟨0, by omega, rfl, hown, hbel⟩
        case round =>
          obtain ⟨j, hj, rfl, hown2, hb2⟩ := hrel
          have hs2 := hb2.size
          have d0 := (hb2.cell (p := ⟨g, 0, none⟩) hgl).trans hc0
          have d1 := (hb2.cell (p := ⟨g, 1, none⟩) hgl).trans hc1
          have e1 := h1.below (hb2.mono hB)
          have e2 := h2.below (hb2.mono hB)
          clear hown hbel
          by_cases hj0 : j = 0
          · subst hj0
            go_wp2_with (at_builtin; refine wpList_append_byt _ rfl _ _ 22 rfl w0.heap.size 5 i0 (.int .u8 0) Tryd.underlying22 hi hz0 hz1 hz2 rfl _ _ _ rfl hown2 B A1 n1 c1 l1 rfl e1 hn1 ?x3 ?x4 ?_)
            case x3 => show 0 + n1 ≤ _; omega
            case x4 => omega
            intro v' w3 hown' hgrow
            have hb' := hb2.grown hgrow hs2 (fun j hj => (hown2.lt j hj).1)
            have HO := Lib.hid hown'
            clear hown' hown2 hgrow
            go_wp2
            go_roundw
            case rel => exact ⟨1, by omega, by go_num, by have := HO.out; simpa [twoN, twoL] using this, hb'⟩
            case measure => simp [intOf]
          · by_cases hj1 : j = 1
            · subst hj1
              go_wp2_with (at_builtin; refine wpList_append_byt _ rfl _ _ 22 rfl w0.heap.size 5 i0 (.int .u8 0) Tryd.underlying22 hi hz0 hz1 hz2 rfl _ _ _ rfl hown2 B A2 n2 c2 l2 rfl e2 hn2 ?y3 ?y4 ?_)
              case y3 => unfold twoN; simp; omega
              case y4 => omega
              intro v' w3 hown' hgrow
              have hb' := hb2.grown hgrow hs2 (fun j hj => (hown2.lt j hj).1)
              have HO := Lib.hid hown'
              clear hown' hown2 hgrow
              go_wp2
              go_roundw
              case rel => exact ⟨2, by omega, by go_num, by have := HO.out; simpa [twoN, twoL] using this, hb'⟩
              case measure => simp [intOf]
            · have hj2 : ¬ ((j : Int) < 2) := by omega
              have HJ := Lib.hid (show j = 2 by omega)
              have HO := Lib.hid hown2
              clear hj hj0 hj1 hown2
              go_wp2_with fail
              go_ret
              refine ⟨_, rfl, ?_, hb2⟩
              have := HO.out
              rw [HJ.out] at this
              simpa [twoN, twoL] using this

end Go.Proofs.YtbpjklafhohlnaaDoor
