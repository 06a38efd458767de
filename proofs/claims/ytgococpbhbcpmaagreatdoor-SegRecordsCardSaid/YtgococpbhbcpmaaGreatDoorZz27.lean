/-
  The program's closure that takes records one behind the other.
-/
import Derived.Test.YtgococpbhbcpmaaGreatDoorZz23
import Derived.Test.YtgococpbhbcpmaaGreatDoorZz26
import Derived.Test.YtgococpbhbcpmaaGreatDoorZz19
import Derived.Deep.RegionHeld3
namespace Go.Proofs.YtgococpbhbcpmaaGreatDoor
open Go.RowKit
set_option linter.unusedVariables false
set_option linter.unusedSimpArgs false

/-- The number that is awaited next. -/
def nextN (r : Rc) : Nat := (r.seq + 1) % 18446744073709551616

theorem turn_setRow {S : Nat → Prop} {W w : World} {g : Nat} (h : Turn S W w) (hg : W.heap.size ≤ g) (C : Array Value) : Turn S W (w.setRow g C) :=
  ⟨h.os, h.tape, h.output, by rw [size_setRow]; exact h.size, fun k hk hn => by
    rw [← h.block k hk hn]
    unfold World.setRow
    show (w.heap.modify g _)[k]? = _
    rw [Array.getElem?_modify, if_neg (by omega)]⟩

set_option maxRecDepth 100000 in
set_option maxHeartbeats 4000000 in
theorem stake_yes (A : Option Addr) (n c : Nat) (l : List UInt8) (W : World) (gF gA : Nat) (f : Bool) (a : Nat) (hl : Byt W W.heap.size A n l) (hnil : A = none → c = 0) (hn : n ≤ 140737488355328) (hD : DK W)
    (hF : Blk W gF 4 [.bool f]) (hA : Blk W gA 23 [.int .u64 (a : Nat)]) (hne : gF ≠ gA) (r : Rc) (hr : decC l = (r, 0)) (hs : r.seq < 18446744073709551616) (hq : f = true ∨ r.seq = a) :
    Calls Tryz.prog 44 #[.slice A n c, .pointer (some ⟨gF, 0, none⟩), .pointer (some ⟨gA, 0, none⟩)] W fun e W' => e = .returned (.tuple #[.agg #[.int .u64 (r.seq : Nat), .int .i64 r.kind, .string ⟨r.ten.toArray⟩, .int .u64 (r.lease : Nat), .int .u64 (r.n : Nat), .int .u64 (r.bits : Nat)], .bool true]) ∧
      Blk W' gF 4 [.bool false] ∧ Blk W' gA 23 [.int .u64 (nextN r : Nat)] ∧ Turn (fun k => k = gF ∨ k = gA) W W' := by
  have hF0 := hF.alloc (.cells (rcCs 0 0 ⟨#[]⟩ 0 0 0).toArray 25)
  have hA0 := hA.alloc (.cells (rcCs 0 0 ⟨#[]⟩ 0 0 0).toArray 25)
  have hR0 := Blk.new (cs := rcCs 0 0 ⟨#[]⟩ 0 0 0) W 25 _ rfl
  have hB0 := (Below.refl W.heap.size W).alloc (Nat.le_refl _) (.cells (rcCs 0 0 ⟨#[]⟩ 0 0 0).toArray 25)
  have hl0 := (hl.alloc (Nat.le_refl _) (.cells (rcCs 0 0 ⟨#[]⟩ 0 0 0).toArray 25)).more (show W.heap.size ≤ (W.alloc (.cells (rcCs 0 0 ⟨#[]⟩ 0 0 0).toArray 25)).heap.size by rw [World.size_alloc]; omega)
  have hD0 := dk_below hD hB0 (Nat.le_refl _)
  have hDec := decode_any A n c l _ hl0 hnil hn hD0
  rw [hr] at hDec
  unfold rcVr Rc.cells at hDec
  have hFlt := hF.lt
  have hAlt := hA.lt
  have HL := Lib.hid (And.intro hFlt hAlt)
  have H := Lib.hid (And.intro hs hq)
  clear hr hq hl hl0 hD hD0 hF hA
  go_enter Tryz.func44, Tryz.ntmps44
  go_wp2_with fail
  refine hDec.mono ?_
  rintro e w2 ⟨rfl, hb2⟩
  have hF2 := hF0.below hb2 hF0.lt
  have hA2 := hA0.below hb2 hA0.lt
  have hR2 := hR0.below hb2 hR0.lt
  have hB2 := bthen hB0 hb2
  clear hF0 hA0 hR0 hB0 hDec
  have hF3 := hF2.alloc (.cells #[.int .u64 (r.seq : Nat), .int .i64 r.kind, .string ⟨r.ten.toArray⟩, .int .u64 (r.lease : Nat), .int .u64 (r.n : Nat), .int .u64 (r.bits : Nat)] 25)
  have hA3 := hA2.alloc (.cells #[.int .u64 (r.seq : Nat), .int .i64 r.kind, .string ⟨r.ten.toArray⟩, .int .u64 (r.lease : Nat), .int .u64 (r.n : Nat), .int .u64 (r.bits : Nat)] 25)
  have hR3 := hR2.alloc (.cells #[.int .u64 (r.seq : Nat), .int .i64 r.kind, .string ⟨r.ten.toArray⟩, .int .u64 (r.lease : Nat), .int .u64 (r.n : Nat), .int .u64 (r.bits : Nat)] 25)
  have hr3 := Blk.new (cs := r.cells) w2 25 _ rfl
  have hlt2 := hB2.size
  have hw2 := hR2.lt
  have c1 := hF3.cell 0
  have c2 := hA3.cell 0
  have f1 := hF3.frozen 0
  have f2 := hA3.frozen 0
  have d0 := hr3.cell 0
  obtain ⟨y, hy⟩ : ∃ y, nextN r = y := ⟨_, rfl⟩
  have hyw : IntKind.u64.wrap ((r.seq : Int) + 1) = (y : Int) := by
    have := H.out.1
    rw [← hy, IntKind.wrap_u64]; unfold nextN; omega
  have HY := Lib.hid hy
  have hsl : (r.seq : Int) ≤ 18446744073709551615 := by have := H.out.1; omega
  have HW := Lib.hid (And.intro hF3 (And.intro hA3 (And.intro hR3 (And.intro hr3 (And.intro hFlt (And.intro hAlt (And.intro hlt2 (And.intro hw2 (And.intro hB2 hne)))))))))
  obtain ⟨p3, hp3⟩ : ∃ x, w2.heap.size = x := ⟨_, rfl⟩
  obtain ⟨W3, hW3⟩ : ∃ x, w2.alloc (.cells #[.int .u64 (r.seq : Nat), .int .i64 r.kind, .string ⟨r.ten.toArray⟩, .int .u64 (r.lease : Nat), .int .u64 (r.n : Nat), .int .u64 (r.bits : Nat)] 25) = x := ⟨_, rfl⟩
  have e0 : w2.alloc (.cells r.cells.toArray 25) = W3 := hW3
  rw [hW3] at c1 c2 f1 f2
  rw [e0] at d0
  rw [hp3] at d0
  replace d0 : W3.cell? ⟨p3, 0, none⟩ = some (.int .u64 (r.seq : Nat)) := d0
  replace c1 : W3.cell? ⟨gF, 0, none⟩ = some (.bool f) := c1
  replace c2 : W3.cell? ⟨gA, 0, none⟩ = some (.int .u64 (a : Nat)) := c2
  clear hy hF2 hA2 hR2 hF3 hA3 hR3 hr3 hFlt hAlt hlt2 hw2
  have hcase : f = true ∨ (f = false ∧ r.seq = a) := by cases f with | true => exact .inl rfl | false => exact .inr ⟨rfl, H.out.2.resolve_left (by decide)⟩
  rcases hcase with rfl | ⟨rfl, rfl⟩
  · have hss : True := trivial
    go_upto_region 5 with fail
    obtain ⟨hF3, hA3, hR3, hr3, hFlt, hAlt, hlt2, hw2, hB2', hne'⟩ := HW.out
    rw [hp3] at hr3 hw2
    rw [e0] at hr3
    rw [hW3] at hF3 hA3 hR3
    have hT : Turn (fun k => k = gF ∨ k = gA) W W3 := Turn.of_below (by rw [← e0]; exact hB2'.alloc hlt2 _)
    have hp3F : p3 ≠ gF := by omega
    have hp3A : p3 ≠ gA := by omega
    have hRF : W.heap.size ≠ gF := by omega
    have hRA : W.heap.size ≠ gA := by omega
    have kF := (hF3.other ⟨gA, 0, none⟩ (.int .u64 (y : Nat)) hne).set 0 (.bool false)
    have kA := (hA3.set 0 (.int .u64 (y : Nat))).other ⟨gF, 0, none⟩ (.bool false) (fun e => hne e.symm)
    have kR := (hR3.other ⟨gA, 0, none⟩ (.int .u64 (y : Nat)) hRA).other ⟨gF, 0, none⟩ (.bool false) hRF
    have kr := (hr3.other ⟨gA, 0, none⟩ (.int .u64 (y : Nat)) hp3A).other ⟨gF, 0, none⟩ (.bool false) hp3F
    have kT := (hT.setCell (p := ⟨gA, 0, none⟩) (.inr rfl) (.int .u64 (y : Nat))).setCell (p := ⟨gF, 0, none⟩) (.inl rfl) (.bool false)
    obtain ⟨W5, hW5⟩ : ∃ x, (W3.setCell ⟨gA, 0, none⟩ (.int .u64 (y : Nat))).setCell ⟨gF, 0, none⟩ (.bool false) = x := ⟨_, rfl⟩
    rw [hW5] at kF kA kR kr kT ⊢
    have q0 : W5.cell? ⟨p3, 0, none⟩ = some (.int .u64 (r.seq : Nat)) := kr.cell 0
    have q1 : W5.cell? ⟨p3, 1, none⟩ = some (.int .i64 r.kind) := kr.cell 1
    have q2 : W5.cell? ⟨p3, 2, none⟩ = some (.string ⟨r.ten.toArray⟩) := kr.cell 2
    have q3 : W5.cell? ⟨p3, 3, none⟩ = some (.int .u64 (r.lease : Nat)) := kr.cell 3
    have q4 : W5.cell? ⟨p3, 4, none⟩ = some (.int .u64 (r.n : Nat)) := kr.cell 4
    have q5 : W5.cell? ⟨p3, 5, none⟩ = some (.int .u64 (r.bits : Nat)) := kr.cell 5
    have HK := Lib.hid (And.intro kF (And.intro kA kT))
    have hsz := kR.lt
    clear hF3 hA3 hR3 hr3 hFlt hAlt hT hp3F hp3A hRF hRA kF kA kr kT hW5 hW3 e0 d0 c1 c2 f1 f2 hp3 HW hlt2 hw2 hB2' hB2
    go_wp2_with (refine st_blk rfl 25 _ _ rfl W.heap.size r.cells rfl rfl 25 (rcCs 0 0 ⟨#[]⟩ 0 0 0) kR (by kernel_rfl) rfl (by intro v hv; simp [Rc.cells] at hv; rcases hv with rfl | rfl | rfl | rfl | rfl | rfl <;> rfl) ?_)
    try simp only [Exit.inBlock, Exit.then]
    refine ret_cell_tmp rfl W.heap.size 25 r.cells rfl (kR.row _) _ Tryz.underlying25 (by kernel_rfl) _ rfl rfl ?_
    have hgF : gF ≠ W.heap.size := fun e => by have := HL.out.1; omega
    have hgA : gA ≠ W.heap.size := fun e => by have := HL.out.2; omega
    refine ⟨rfl, HK.out.1.row_other _ _ hgF, ?_, ?_⟩
    · rw [HY.out]; exact HK.out.2.1.row_other _ _ hgA
    · exact turn_setRow HK.out.2.2 (Nat.le_refl _) _
  · have hss : ((r.seq : Int) != (r.seq : Int)) = false := by simp
    go_upto_region 5 with fail
    obtain ⟨hF3, hA3, hR3, hr3, hFlt, hAlt, hlt2, hw2, hB2', hne'⟩ := HW.out
    rw [hp3] at hr3 hw2
    rw [e0] at hr3
    rw [hW3] at hF3 hA3 hR3
    have hT : Turn (fun k => k = gF ∨ k = gA) W W3 := Turn.of_below (by rw [← e0]; exact hB2'.alloc hlt2 _)
    have hp3F : p3 ≠ gF := by omega
    have hp3A : p3 ≠ gA := by omega
    have hRF : W.heap.size ≠ gF := by omega
    have hRA : W.heap.size ≠ gA := by omega
    have kF := (hF3.other ⟨gA, 0, none⟩ (.int .u64 (y : Nat)) hne).set 0 (.bool false)
    have kA := (hA3.set 0 (.int .u64 (y : Nat))).other ⟨gF, 0, none⟩ (.bool false) (fun e => hne e.symm)
    have kR := (hR3.other ⟨gA, 0, none⟩ (.int .u64 (y : Nat)) hRA).other ⟨gF, 0, none⟩ (.bool false) hRF
    have kr := (hr3.other ⟨gA, 0, none⟩ (.int .u64 (y : Nat)) hp3A).other ⟨gF, 0, none⟩ (.bool false) hp3F
    have kT := (hT.setCell (p := ⟨gA, 0, none⟩) (.inr rfl) (.int .u64 (y : Nat))).setCell (p := ⟨gF, 0, none⟩) (.inl rfl) (.bool false)
    obtain ⟨W5, hW5⟩ : ∃ x, (W3.setCell ⟨gA, 0, none⟩ (.int .u64 (y : Nat))).setCell ⟨gF, 0, none⟩ (.bool false) = x := ⟨_, rfl⟩
    rw [hW5] at kF kA kR kr kT ⊢
    have q0 : W5.cell? ⟨p3, 0, none⟩ = some (.int .u64 (r.seq : Nat)) := kr.cell 0
    have q1 : W5.cell? ⟨p3, 1, none⟩ = some (.int .i64 r.kind) := kr.cell 1
    have q2 : W5.cell? ⟨p3, 2, none⟩ = some (.string ⟨r.ten.toArray⟩) := kr.cell 2
    have q3 : W5.cell? ⟨p3, 3, none⟩ = some (.int .u64 (r.lease : Nat)) := kr.cell 3
    have q4 : W5.cell? ⟨p3, 4, none⟩ = some (.int .u64 (r.n : Nat)) := kr.cell 4
    have q5 : W5.cell? ⟨p3, 5, none⟩ = some (.int .u64 (r.bits : Nat)) := kr.cell 5
    have HK := Lib.hid (And.intro kF (And.intro kA kT))
    have hsz := kR.lt
    clear hF3 hA3 hR3 hr3 hFlt hAlt hT hp3F hp3A hRF hRA kF kA kr kT hW5 hW3 e0 d0 c1 c2 f1 f2 hp3 HW hlt2 hw2 hB2' hB2
    go_wp2_with (refine st_blk rfl 25 _ _ rfl W.heap.size r.cells rfl rfl 25 (rcCs 0 0 ⟨#[]⟩ 0 0 0) kR (by kernel_rfl) rfl (by intro v hv; simp [Rc.cells] at hv; rcases hv with rfl | rfl | rfl | rfl | rfl | rfl <;> rfl) ?_)
    try simp only [Exit.inBlock, Exit.then]
    refine ret_cell_tmp rfl W.heap.size 25 r.cells rfl (kR.row _) _ Tryz.underlying25 (by kernel_rfl) _ rfl rfl ?_
    have hgF : gF ≠ W.heap.size := fun e => by have := HL.out.1; omega
    have hgA : gA ≠ W.heap.size := fun e => by have := HL.out.2; omega
    refine ⟨rfl, HK.out.1.row_other _ _ hgF, ?_, ?_⟩
    · rw [HY.out]; exact HK.out.2.1.row_other _ _ hgA
    · exact turn_setRow HK.out.2.2 (Nat.le_refl _) _

set_option maxRecDepth 100000 in
set_option maxHeartbeats 4000000 in
theorem stake_no (A : Option Addr) (n c : Nat) (l : List UInt8) (W : World) (gF gA : Nat) (f : Bool) (a : Nat) (hl : Byt W W.heap.size A n l) (hnil : A = none → c = 0) (hn : n ≤ 140737488355328) (hD : DK W)
    (hF : Blk W gF 4 [.bool f]) (hA : Blk W gA 23 [.int .u64 (a : Nat)]) (hne : gF ≠ gA) (r : Rc) (ec : Int) (hr : decC l = (r, ec)) (hs : r.seq < 18446744073709551616) (hq : ec ≠ 0 ∨ (ec = 0 ∧ f = false ∧ r.seq ≠ a)) :
    Calls Tryz.prog 44 #[.slice A n c, .pointer (some ⟨gF, 0, none⟩), .pointer (some ⟨gA, 0, none⟩)] W fun e W' => e = .returned (.tuple #[.agg (rcCs 0 0 ⟨#[]⟩ 0 0 0).toArray, .bool false]) ∧ Below W.heap.size W W' := by
  have hF0 := hF.alloc (.cells (rcCs 0 0 ⟨#[]⟩ 0 0 0).toArray 25)
  have hA0 := hA.alloc (.cells (rcCs 0 0 ⟨#[]⟩ 0 0 0).toArray 25)
  have hR0 := Blk.new (cs := rcCs 0 0 ⟨#[]⟩ 0 0 0) W 25 _ rfl
  have hB0 := (Below.refl W.heap.size W).alloc (Nat.le_refl _) (.cells (rcCs 0 0 ⟨#[]⟩ 0 0 0).toArray 25)
  have hl0 := (hl.alloc (Nat.le_refl _) (.cells (rcCs 0 0 ⟨#[]⟩ 0 0 0).toArray 25)).more (show W.heap.size ≤ (W.alloc (.cells (rcCs 0 0 ⟨#[]⟩ 0 0 0).toArray 25)).heap.size by rw [World.size_alloc]; omega)
  have hD0 := dk_below hD hB0 (Nat.le_refl _)
  have hDec := decode_any A n c l _ hl0 hnil hn hD0
  rw [hr] at hDec
  unfold rcVr Rc.cells at hDec
  have hFlt := hF.lt
  have hAlt := hA.lt
  have HL := Lib.hid (And.intro hFlt hAlt)
  have H := Lib.hid (And.intro hs hq)
  clear hr hq hl hl0 hD hD0 hF hA
  go_enter Tryz.func44, Tryz.ntmps44
  go_wp2_with fail
  refine hDec.mono ?_
  rintro e w2 ⟨rfl, hb2⟩
  have hF2 := hF0.below hb2 hF0.lt
  have hA2 := hA0.below hb2 hA0.lt
  have hR2 := hR0.below hb2 hR0.lt
  have hB2 := bthen hB0 hb2
  clear hF0 hA0 hR0 hB0 hDec
  have hF3 := hF2.alloc (.cells #[.int .u64 (r.seq : Nat), .int .i64 r.kind, .string ⟨r.ten.toArray⟩, .int .u64 (r.lease : Nat), .int .u64 (r.n : Nat), .int .u64 (r.bits : Nat)] 25)
  have hA3 := hA2.alloc (.cells #[.int .u64 (r.seq : Nat), .int .i64 r.kind, .string ⟨r.ten.toArray⟩, .int .u64 (r.lease : Nat), .int .u64 (r.n : Nat), .int .u64 (r.bits : Nat)] 25)
  have hR3 := hR2.alloc (.cells #[.int .u64 (r.seq : Nat), .int .i64 r.kind, .string ⟨r.ten.toArray⟩, .int .u64 (r.lease : Nat), .int .u64 (r.n : Nat), .int .u64 (r.bits : Nat)] 25)
  have hr3 := Blk.new (cs := r.cells) w2 25 _ rfl
  have hlt2 := hB2.size
  have hw2 := hR2.lt
  have c1 := hF3.cell 0
  have c2 := hA3.cell 0
  have f1 := hF3.frozen 0
  have f2 := hA3.frozen 0
  have d0 := hr3.cell 0
  have hsl : (r.seq : Int) ≤ 18446744073709551615 := by have := H.out.1; omega
  have HW := Lib.hid (And.intro hF3 (And.intro hA3 (And.intro hR3 (And.intro hr3 (And.intro hFlt (And.intro hAlt (And.intro hlt2 (And.intro hw2 (And.intro hB2 hne)))))))))
  obtain ⟨p3, hp3⟩ : ∃ x, w2.heap.size = x := ⟨_, rfl⟩
  obtain ⟨W3, hW3⟩ : ∃ x, w2.alloc (.cells #[.int .u64 (r.seq : Nat), .int .i64 r.kind, .string ⟨r.ten.toArray⟩, .int .u64 (r.lease : Nat), .int .u64 (r.n : Nat), .int .u64 (r.bits : Nat)] 25) = x := ⟨_, rfl⟩
  have e0 : w2.alloc (.cells r.cells.toArray 25) = W3 := hW3
  rw [hW3] at c1 c2 f1 f2
  rw [e0] at d0
  rw [hp3] at d0
  replace d0 : W3.cell? ⟨p3, 0, none⟩ = some (.int .u64 (r.seq : Nat)) := d0
  replace c1 : W3.cell? ⟨gF, 0, none⟩ = some (.bool f) := c1
  replace c2 : W3.cell? ⟨gA, 0, none⟩ = some (.int .u64 (a : Nat)) := c2
  clear hF2 hA2 hR2 hF3 hA3 hR3 hr3 hFlt hAlt hlt2 hw2
  have hcase : (ec != 0) = true ∨ (ec = 0 ∧ f = false ∧ ((r.seq : Int) != (a : Int)) = true) := by
    rcases H.out.2 with h | ⟨h1, h2, h3⟩
    · exact .inl (by simpa using h)
    · exact .inr ⟨h1, h2, by simp; omega⟩
  rcases hcase with hec | ⟨rfl, rfl, hss⟩
  all_goals
    go_upto_region 3 with fail
    obtain ⟨hF3, hA3, hR3, hr3, hFlt, hAlt, hlt2, hw2, hB2', hne'⟩ := HW.out
    rw [hW3] at hR3
    have hT : Below W.heap.size W W3 := by rw [← e0]; exact hB2'.alloc hlt2 _
    have HT := Lib.hid hT
    clear hF3 hA3 hr3 hFlt hAlt hlt2 hw2 hB2' hB2 hT HW hW3 e0 d0 c1 c2 f1 f2 hp3
    go_wp2_with (refine st_blk rfl 25 _ _ rfl W.heap.size (rcCs 0 0 ⟨#[]⟩ 0 0 0) rfl rfl 25 (rcCs 0 0 ⟨#[]⟩ 0 0 0) hR3 (by kernel_rfl) rfl (by intro v hv; simp [rcCs] at hv; rcases hv with rfl | rfl | rfl | rfl | rfl | rfl <;> rfl) ?_)
    try simp only [Exit.inBlock, Exit.then]
    refine ret_cell_tmp rfl W.heap.size 25 (rcCs 0 0 ⟨#[]⟩ 0 0 0) rfl (hR3.row _) _ Tryz.underlying25 (by kernel_rfl) _ rfl rfl ?_
    exact ⟨rfl, below_row HT.out (Nat.le_refl _) _⟩

theorem enters_take : ∀ args w, (callFunc 44 args).run Tryz.prog w = .ok (.enter 44 args) w := enters_of Tryz.func44 (by kernel_rfl) rfl

/-- What awaits behind the records that were taken. -/
def awN (out : List Rc) : Nat := match out.getLast? with | none => 0 | some q => nextN q
def TkS (w : World) (gF gA : Nat) (out : List Rc) : Prop := Blk w gF 4 [.bool out.isEmpty] ∧ Blk w gA 23 [.int .u64 (awN out : Nat)]
theorem awaits_awN (out : List Rc) (r : Rc) : awaits out r = (out.isEmpty || decide (r.seq = awN out)) := by
  unfold awaits awN nextN
  cases h : out.getLast? with
  | none =>
    rw [List.getLast?_eq_none_iff] at h
    subst h
    rfl
  | some q =>
    have : out ≠ [] := by rintro rfl; cases h
    cases out with
    | nil => exact absurd rfl this
    | cons x l => rfl

theorem stake_any (A : Option Addr) (n c : Nat) (l : List UInt8) (W : World) (gF gA : Nat) (out : List Rc) (hl : Byt W W.heap.size A n l) (hnil : A = none → c = 0) (hn : n ≤ 140737488355328) (hD : DK W)
    (hS : TkS W gF gA out) (hne : gF ≠ gA) (v : Bool) (hv : (recOk l && awaits out (recP l)) = v) :
    Calls Tryz.prog 44 #[.slice A n c, .pointer (some ⟨gF, 0, none⟩), .pointer (some ⟨gA, 0, none⟩)] W fun e W' => e = .returned (.tuple #[.agg (if v then recP l else zeroR).cells.toArray, .bool v]) ∧
      TkS W' gF gA (if v then out ++ [recP l] else out) ∧ Turn (fun k => k = gF ∨ k = gA) W W' := by
  obtain ⟨h1, h2⟩ := rec_dec l
  have hsq := (recP_okay l).1
  cases hok : recOk l with
  | true =>
    have hd : decC l = (recP l, 0) := by
      have h3 := of_decide_eq_true (h1.symm.trans hok)
      exact Prod.ext (h2 hok) h3
    rw [hok, Bool.true_and, awaits_awN] at hv
    cases v with
    | true =>
      refine (stake_yes A n c l W gF gA _ _ hl hnil hn hD hS.1 hS.2 hne (recP l) hd hsq ?_).mono ?_
      · cases he : out.isEmpty with
        | true => exact .inl rfl
        | false => rw [he, Bool.false_or] at hv; exact .inr (of_decide_eq_true hv)
      · rintro e w' ⟨rfl, k1, k2, k3⟩
        refine ⟨rfl, ⟨?_, ?_⟩, k3⟩
        · have : (out ++ [recP l]).isEmpty = false := by simp
          show Blk w' gF _ [.bool (out ++ [recP l]).isEmpty]
          rw [this]; exact k1
        · have : awN (out ++ [recP l]) = nextN (recP l) := by unfold awN; simp
          show Blk w' gA _ [.int .u64 ((awN (out ++ [recP l]) : Nat) : Int)]
          rw [this]; exact k2
    | false =>
      rw [Bool.or_eq_false_iff] at hv
      refine (stake_no A n c l W gF gA _ _ hl hnil hn hD hS.1 hS.2 hne (recP l) 0 hd hsq (.inr ⟨rfl, hv.1, of_decide_eq_false hv.2⟩)).mono ?_
      rintro e w' ⟨rfl, hb⟩
      exact ⟨rfl, ⟨hS.1.below hb hS.1.lt, hS.2.below hb hS.2.lt⟩, Turn.of_below hb⟩
  | false =>
    rw [hok, Bool.false_and] at hv
    subst hv
    have h3 : (decC l).2 ≠ 0 := of_decide_eq_false (h1.symm.trans hok)
    have hz : (decC l).1.seq < 18446744073709551616 := by
      by_cases hh : (decS0 l).2 = 0 ∧ isK (decK l) = false
      · rw [decC_kind l hh.1 hh.2]; decide
      · rw [decC_rest l hh] at h3 ⊢
        by_cases h4 : orE (decE l) (checkC (decR l)) ≠ 0
        · rw [if_pos h4]; show (0 : Nat) < _; decide
        · rw [if_neg h4] at h3; exact absurd rfl h3
    refine (stake_no A n c l W gF gA _ _ hl hnil hn hD hS.1 hS.2 hne (decC l).1 (decC l).2 rfl hz (.inl h3)).mono ?_
    rintro e w' ⟨rfl, hb⟩
    exact ⟨rfl, ⟨hS.1.below hb hS.1.lt, hS.2.below hb hS.2.lt⟩, Turn.of_below hb⟩

set_option maxRecDepth 100000 in
theorem taking_any (W : World) : Calls Tryz.prog 23 #[] W fun e W' => e = .returned (.func (.func 44) #[] #[.pointer (some ⟨W.heap.size + 1, 0, none⟩), .pointer (some ⟨W.heap.size, 0, none⟩)]) ∧ TkS W' (W.heap.size + 1) W.heap.size [] ∧ Below W.heap.size W W' ∧ W.heap.size + 2 ≤ W'.heap.size := by
  have hmf : ∀ (fn : Fn) (first cap : Array Value) (w : World), (Instr.makeFunc fn first cap).run Tryz.prog w = .ok (.func fn first cap) w := fun _ _ _ _ => rfl
  go_enter Tryz.func23, Tryz.ntmps23
  go_wp2
  go_ret
  have k1 : Blk (W.alloc (.cells #[.int .u64 0] 23)) W.heap.size 23 [.int .u64 0] := Blk.new W _ _ rfl
  have k2 : Blk ((W.alloc (.cells #[.int .u64 0] 23)).alloc (.cells #[.bool true] 4)) (W.alloc (.cells #[.int .u64 0] 23)).heap.size 4 [.bool true] := Blk.new _ _ _ rfl
  rw [World.size_alloc] at k2
  exact ⟨rfl, ⟨k2, k1.alloc _⟩, ((Below.refl _ _).alloc (Nat.le_refl _) _).alloc (by rw [World.size_alloc]; omega) _, by rw [World.size_alloc, World.size_alloc]; omega⟩

end Go.Proofs.YtgococpbhbcpmaaGreatDoor
