/-
  The program's closure that takes records one behind the other.
-/
import Derived.Test.YthjikbhjciphiaaGreatDoorZz39
import Derived.Test.YthjikbhjciphiaaGreatDoorZz23
import Derived.Deep.RegionHeld3
import Derived.Test.YthjikbhjciphiaaGreatDoorZz34
import Derived.Test.YthjikbhjciphiaaGreatDoorZz28
import Derived.Test.YthjikbhjciphiaaGreatDoorZz29
import Derived.Test.YthjikbhjciphiaaGreatDoorZz37
import Derived.Test.YthjikbhjciphiaaGreatDoorZz25
namespace Go.Proofs.YthjikbhjciphiaaGreatDoor
open Go.RowKit
set_option linter.unusedVariables false
set_option linter.unusedSimpArgs false

/-- The number that is awaited next. -/
def nextN (r : Rc) : Nat := (r.seq + 1) % 18446744073709551616

theorem turn_setRow {S : Nat → Prop} {W w : World} {g : Nat} (h : Turn S W w) (hg : W.heap.size ≤ g) (C : Array Value) : Turn S W (w.setRow g C) :=
  ⟨h.os, h.tape, h.output, by rw [size_setRow]; exact h.size, fun k hk hn => by
    rw [← h.block k hk hn]
    unfold World.setRow
    show (w.heap.modify g _)[k]? = _
    rw [Array.getElem?_modify, if_neg (by omega)]⟩

set_option maxRecDepth 100000 in
set_option maxHeartbeats 4000000 in
theorem stake_yes (A : Option Addr) (n c : Nat) (l : List UInt8) (W : World) (gF gA : Nat) (f : Bool) (a : Nat) (hl : Byt W W.heap.size A n l) (hnil : A = none → c = 0) (hn : n ≤ 140737488355328) (hD : DK W)
    (hF : Blk W gF 4 [.bool f]) (hA : Blk W gA 23 [.int .u64 (a : Nat)]) (hne : gF ≠ gA) (r : Rc) (hr : decC l = (r, 0)) (hs : r.seq < 18446744073709551616) (hq : f = true ∨ r.seq = a) :
    Calls Tryz.prog 73 #[.slice A n c, .pointer (some ⟨gF, 0, none⟩), .pointer (some ⟨gA, 0, none⟩)] W fun e W' => e = .returned (.tuple #[.agg #[.int .u64 (r.seq : Nat), .int .i64 r.kind, .string ⟨r.ten.toArray⟩, .int .u64 (r.lease : Nat), .int .u64 (r.n : Nat), .int .u64 (r.bits : Nat)], .bool true]) ∧
      Blk W' gF 4 [.bool false] ∧ Blk W' gA 23 [.int .u64 (nextN r : Nat)] ∧ Turn (fun k => k = gF ∨ k = gA) W W' := by
  have hF0 := hF.alloc (.cells (rcCs 0 0 ⟨#[]⟩ 0 0 0).toArray 35)
  have hA0 := hA.alloc (.cells (rcCs 0 0 ⟨#[]⟩ 0 0 0).toArray 35)
  have hR0 := Blk.new (cs := rcCs 0 0 ⟨#[]⟩ 0 0 0) W 35 _ rfl
  have hB0 := (Below.refl W.heap.size W).alloc (Nat.le_refl _) (.cells (rcCs 0 0 ⟨#[]⟩ 0 0 0).toArray 35)
  have hl0 := (hl.alloc (Nat.le_refl _) (.cells (rcCs 0 0 ⟨#[]⟩ 0 0 0).toArray 35)).more (show W.heap.size ≤ (W.alloc (.cells (rcCs 0 0 ⟨#[]⟩ 0 0 0).toArray 35)).heap.size by rw [World.size_alloc]; omega)
  have hD0 := dk_below hD hB0 (Nat.le_refl _)
  have hDec := decode_any A n c l _ hl0 hnil hn hD0
  rw [hr] at hDec
  unfold rcVr Rc.cells at hDec
  have hFlt := hF.lt
  have hAlt := hA.lt
  have HL := Lib.hid (And.intro hFlt hAlt)
  have H := Lib.hid (And.intro hs hq)
  clear hr hq hl hl0 hD hD0 hF hA
  go_enter Tryz.func73, Tryz.ntmps73
  go_wp2_with fail
  refine hDec.mono ?_
  rintro e w2 ⟨rfl, hb2⟩
  have hF2 := hF0.below hb2 hF0.lt
  have hA2 := hA0.below hb2 hA0.lt
  have hR2 := hR0.below hb2 hR0.lt
  have hB2 := bthen hB0 hb2
  clear hF0 hA0 hR0 hB0 hDec
  have hF3 := hF2.alloc (.cells #[.int .u64 (r.seq : Nat), .int .i64 r.kind, .string ⟨r.ten.toArray⟩, .int .u64 (r.lease : Nat), .int .u64 (r.n : Nat), .int .u64 (r.bits : Nat)] 35)
  have hA3 := hA2.alloc (.cells #[.int .u64 (r.seq : Nat), .int .i64 r.kind, .string ⟨r.ten.toArray⟩, .int .u64 (r.lease : Nat), .int .u64 (r.n : Nat), .int .u64 (r.bits : Nat)] 35)
  have hR3 := hR2.alloc (.cells #[.int .u64 (r.seq : Nat), .int .i64 r.kind, .string ⟨r.ten.toArray⟩, .int .u64 (r.lease : Nat), .int .u64 (r.n : Nat), .int .u64 (r.bits : Nat)] 35)
  have hr3 := Blk.new (cs := r.cells) w2 35 _ rfl
  have hlt2 := hB2.size
  have hw2 := hR2.lt
  have c1 := hF3.cell 0
  have c2 := hA3.cell 0
  have f1 := hF3.frozen 0
  have f2 := hA3.frozen 0
  have d0 := hr3.cell 0
  obtain ⟨y, hy⟩ : ∃ y, nextN r = y := ⟨_, rfl⟩
  have hyw : IntKind.u64.wrap ((r.seq : Int) + 1) = (y : Int) := by
    have := H.out.1
    rw [← hy, IntKind.wrap_u64]; unfold nextN; omega
  have HY := Lib.hid hy
  have hsl : (r.seq : Int) ≤ 18446744073709551615 := by have := H.out.1; omega
  have HW := Lib.hid (And.intro hF3 (And.intro hA3 (And.intro hR3 (And.intro hr3 (And.intro hFlt (And.intro hAlt (And.intro hlt2 (And.intro hw2 (And.intro hB2 hne)))))))))
  obtain ⟨p3, hp3⟩ : ∃ x, w2.heap.size = x := ⟨_, rfl⟩
  obtain ⟨W3, hW3⟩ : ∃ x, w2.alloc (.cells #[.int .u64 (r.seq : Nat), .int .i64 r.kind, .string ⟨r.ten.toArray⟩, .int .u64 (r.lease : Nat), .int .u64 (r.n : Nat), .int .u64 (r.bits : Nat)] 35) = x := ⟨_, rfl⟩
  have e0 : w2.alloc (.cells r.cells.toArray 35) = W3 := hW3
  rw [hW3] at c1 c2 f1 f2
  rw [e0] at d0
  rw [hp3] at d0
  replace d0 : W3.cell? ⟨p3, 0, none⟩ = some (.int .u64 (r.seq : Nat)) := d0
  replace c1 : W3.cell? ⟨gF, 0, none⟩ = some (.bool f) := c1
  replace c2 : W3.cell? ⟨gA, 0, none⟩ = some (.int .u64 (a : Nat)) := c2
  clear hy hF2 hA2 hR2 hF3 hA3 hR3 hr3 hFlt hAlt hlt2 hw2
  have hcase : f = true ∨ (f = false ∧ r.seq = a) := by cases f with | true => exact .inl rfl | false => exact .inr ⟨rfl, H.out.2.resolve_left (by decide)⟩
  rcases hcase with rfl | ⟨rfl, rfl⟩
  · have hss : True := trivial
    go_upto_region 5 with fail
    obtain ⟨hF3, hA3, hR3, hr3, hFlt, hAlt, hlt2, hw2, hB2', hne'⟩ := HW.out
    rw [hp3] at hr3 hw2
    rw [e0] at hr3
    rw [hW3] at hF3 hA3 hR3
    have hT : Turn (fun k => k = gF ∨ k = gA) W W3 := Turn.of_below (by rw [← e0]; exact hB2'.alloc hlt2 _)
    have hp3F : p3 ≠ gF := by omega
    have hp3A : p3 ≠ gA := by omega
    have hRF : W.heap.size ≠ gF := by omega
    have hRA : W.heap.size ≠ gA := by omega
    have kF := (hF3.other ⟨gA, 0, none⟩ (.int .u64 (y : Nat)) hne).set 0 (.bool false)
    have kA := (hA3.set 0 (.int .u64 (y : Nat))).other ⟨gF, 0, none⟩ (.bool false) (fun e => hne e.symm)
    have kR := (hR3.other ⟨gA, 0, none⟩ (.int .u64 (y : Nat)) hRA).other ⟨gF, 0, none⟩ (.bool false) hRF
    have kr := (hr3.other ⟨gA, 0, none⟩ (.int .u64 (y : Nat)) hp3A).other ⟨gF, 0, none⟩ (.bool false) hp3F
    have kT := (hT.setCell (p := ⟨gA, 0, none⟩) (.inr rfl) (.int .u64 (y : Nat))).setCell (p := ⟨gF, 0, none⟩) (.inl rfl) (.bool false)
    obtain ⟨W5, hW5⟩ : ∃ x, (W3.setCell ⟨gA, 0, none⟩ (.int .u64 (y : Nat))).setCell ⟨gF, 0, none⟩ (.bool false) = x := ⟨_, rfl⟩
    rw [hW5] at kF kA kR kr kT ⊢
    have q0 : W5.cell? ⟨p3, 0, none⟩ = some (.int .u64 (r.seq : Nat)) := kr.cell 0
    have q1 : W5.cell? ⟨p3, 1, none⟩ = some (.int .i64 r.kind) := kr.cell 1
    have q2 : W5.cell? ⟨p3, 2, none⟩ = some (.string ⟨r.ten.toArray⟩) := kr.cell 2
    have q3 : W5.cell? ⟨p3, 3, none⟩ = some (.int .u64 (r.lease : Nat)) := kr.cell 3
    have q4 : W5.cell? ⟨p3, 4, none⟩ = some (.int .u64 (r.n : Nat)) := kr.cell 4
    have q5 : W5.cell? ⟨p3, 5, none⟩ = some (.int .u64 (r.bits : Nat)) := kr.cell 5
    have HK := Lib.hid (And.intro kF (And.intro kA kT))
    have hsz := kR.lt
    clear hF3 hA3 hR3 hr3 hFlt hAlt hT hp3F hp3A hRF hRA kF kA kr kT hW5 hW3 e0 d0 c1 c2 f1 f2 hp3 HW hlt2 hw2 hB2' hB2
    go_wp2_with (refine st_blk rfl 35 _ _ rfl W.heap.size r.cells rfl rfl 35 (rcCs 0 0 ⟨#[]⟩ 0 0 0) kR (by kernel_rfl) rfl (by intro v hv; simp [Rc.cells] at hv; rcases hv with rfl | rfl | rfl | rfl | rfl | rfl <;> rfl) ?_)
    try simp only [Exit.inBlock, Exit.then]
    refine ret_cell_tmp rfl W.heap.size 35 r.cells rfl (kR.row _) _ Tryz.underlying35 (by kernel_rfl) _ rfl rfl ?_
    have hgF : gF ≠ W.heap.size := fun e => by have := HL.out.1; omega
    have hgA : gA ≠ W.heap.size := fun e => by have := HL.out.2; omega
    refine ⟨rfl, HK.out.1.row_other _ _ hgF, ?_, ?_⟩
    · rw [HY.out]; exact HK.out.2.1.row_other _ _ hgA
    · exact turn_setRow HK.out.2.2 (Nat.le_refl _) _
  · have hss : ((r.seq : Int) != (r.seq : Int)) = false := by simp
    go_upto_region 5 with fail
    obtain ⟨hF3, hA3, hR3, hr3, hFlt, hAlt, hlt2, hw2, hB2', hne'⟩ := HW.out
    rw [hp3] at hr3 hw2
    rw [e0] at hr3
    rw [hW3] at hF3 hA3 hR3
    have hT : Turn (fun k => k = gF ∨ k = gA) W W3 := Turn.of_below (by rw [← e0]; exact hB2'.alloc hlt2 _)
    have hp3F : p3 ≠ gF := by omega
    have hp3A : p3 ≠ gA := by omega
    have hRF : W.heap.size ≠ gF := by omega
    have hRA : W.heap.size ≠ gA := by omega
    have kF := (hF3.other ⟨gA, 0, none⟩ (.int .u64 (y : Nat)) hne).set 0 (.bool false)
    have kA := (hA3.set 0 (.int .u64 (y : Nat))).other ⟨gF, 0, none⟩ (.bool false) (fun e => hne e.symm)
    have kR := (hR3.other ⟨gA, 0, none⟩ (.int .u64 (y : Nat)) hRA).other ⟨gF, 0, none⟩ (.bool false) hRF
    have kr := (hr3.other ⟨gA, 0, none⟩ (.int .u64 (y : Nat)) hp3A).other ⟨gF, 0, none⟩ (.bool false) hp3F
    have kT := (hT.setCell (p := ⟨gA, 0, none⟩) (.inr rfl) (.int .u64 (y : Nat))).setCell (p := ⟨gF, 0, none⟩) (.inl rfl) (.bool false)
    obtain ⟨W5, hW5⟩ : ∃ x, (W3.setCell ⟨gA, 0, none⟩ (.int .u64 (y : Nat))).setCell ⟨gF, 0, none⟩ (.bool false) = x := ⟨_, rfl⟩
    rw [hW5] at kF kA kR kr kT ⊢
    have q0 : W5.cell? ⟨p3, 0, none⟩ = some (.int .u64 (r.seq : Nat)) := kr.cell 0
    have q1 : W5.cell? ⟨p3, 1, none⟩ = some (.int .i64 r.kind) := kr.cell 1
    have q2 : W5.cell? ⟨p3, 2, none⟩ = some (.string ⟨r.ten.toArray⟩) := kr.cell 2
    have q3 : W5.cell? ⟨p3, 3, none⟩ = some (.int .u64 (r.lease : Nat)) := kr.cell 3
    have q4 : W5.cell? ⟨p3, 4, none⟩ = some (.int .u64 (r.n : Nat)) := kr.cell 4
    have q5 : W5.cell? ⟨p3, 5, none⟩ = some (.int .u64 (r.bits : Nat)) := kr.cell 5
    have HK := Lib.hid (And.intro kF (And.intro kA kT))
    have hsz := kR.lt
    clear hF3 hA3 hR3 hr3 hFlt hAlt hT hp3F hp3A hRF hRA kF kA kr kT hW5 hW3 e0 d0 c1 c2 f1 f2 hp3 HW hlt2 hw2 hB2' hB2
    go_wp2_with (refine st_blk rfl 35 _ _ rfl W.heap.size r.cells rfl rfl 35 (rcCs 0 0 ⟨#[]⟩ 0 0 0) kR (by kernel_rfl) rfl (by intro v hv; simp [Rc.cells] at hv; rcases hv with rfl | rfl | rfl | rfl | rfl | rfl <;> rfl) ?_)
    try simp only [Exit.inBlock, Exit.then]
    refine ret_cell_tmp rfl W.heap.size 35 r.cells rfl (kR.row _) _ Tryz.underlying35 (by kernel_rfl) _ rfl rfl ?_
    have hgF : gF ≠ W.heap.size := fun e => by have := HL.out.1; omega
    have hgA : gA ≠ W.heap.size := fun e => by have := HL.out.2; omega
    refine ⟨rfl, HK.out.1.row_other _ _ hgF, ?_, ?_⟩
    · rw [HY.out]; exact HK.out.2.1.row_other _ _ hgA
    · exact turn_setRow HK.out.2.2 (Nat.le_refl _) _

set_option maxRecDepth 100000 in
set_option maxHeartbeats 4000000 in
theorem stake_no (A : Option Addr) (n c : Nat) (l : List UInt8) (W : World) (gF gA : Nat) (f : Bool) (a : Nat) (hl : Byt W W.heap.size A n l) (hnil : A = none → c = 0) (hn : n ≤ 140737488355328) (hD : DK W)
    (hF : Blk W gF 4 [.bool f]) (hA : Blk W gA 23 [.int .u64 (a : Nat)]) (hne : gF ≠ gA) (r : Rc) (ec : Int) (hr : decC l = (r, ec)) (hs : r.seq < 18446744073709551616) (hq : ec ≠ 0 ∨ (ec = 0 ∧ f = false ∧ r.seq ≠ a)) :
    Calls Tryz.prog 73 #[.slice A n c, .pointer (some ⟨gF, 0, none⟩), .pointer (some ⟨gA, 0, none⟩)] W fun e W' => e = .returned (.tuple #[.agg (rcCs 0 0 ⟨#[]⟩ 0 0 0).toArray, .bool false]) ∧ Below W.heap.size W W' := by
  have hF0 := hF.alloc (.cells (rcCs 0 0 ⟨#[]⟩ 0 0 0).toArray 35)
  have hA0 := hA.alloc (.cells (rcCs 0 0 ⟨#[]⟩ 0 0 0).toArray 35)
  have hR0 := Blk.new (cs := rcCs 0 0 ⟨#[]⟩ 0 0 0) W 35 _ rfl
  have hB0 := (Below.refl W.heap.size W).alloc (Nat.le_refl _) (.cells (rcCs 0 0 ⟨#[]⟩ 0 0 0).toArray 35)
  have hl0 := (hl.alloc (Nat.le_refl _) (.cells (rcCs 0 0 ⟨#[]⟩ 0 0 0).toArray 35)).more (show W.heap.size ≤ (W.alloc (.cells (rcCs 0 0 ⟨#[]⟩ 0 0 0).toArray 35)).heap.size by rw [World.size_alloc]; omega)
  have hD0 := dk_below hD hB0 (Nat.le_refl _)
  have hDec := decode_any A n c l _ hl0 hnil hn hD0
  rw [hr] at hDec
  unfold rcVr Rc.cells at hDec
  have hFlt := hF.lt
  have hAlt := hA.lt
  have HL := Lib.hid (And.intro hFlt hAlt)
  have H := Lib.hid (And.intro hs hq)
  clear hr hq hl hl0 hD hD0 hF hA
  go_enter Tryz.func73, Tryz.ntmps73
  go_wp2_with fail
  refine hDec.mono ?_
  rintro e w2 ⟨rfl, hb2⟩
  have hF2 := hF0.below hb2 hF0.lt
  have hA2 := hA0.below hb2 hA0.lt
  have hR2 := hR0.below hb2 hR0.lt
  have hB2 := bthen hB0 hb2
  clear hF0 hA0 hR0 hB0 hDec
  have hF3 := hF2.alloc (.cells #[.int .u64 (r.seq : Nat), .int .i64 r.kind, .string ⟨r.ten.toArray⟩, .int .u64 (r.lease : Nat), .int .u64 (r.n : Nat), .int .u64 (r.bits : Nat)] 35)
  have hA3 := hA2.alloc (.cells #[.int .u64 (r.seq : Nat), .int .i64 r.kind, .string ⟨r.ten.toArray⟩, .int .u64 (r.lease : Nat), .int .u64 (r.n : Nat), .int .u64 (r.bits : Nat)] 35)
  have hR3 := hR2.alloc (.cells #[.int .u64 (r.seq : Nat), .int .i64 r.kind, .string ⟨r.ten.toArray⟩, .int .u64 (r.lease : Nat), .int .u64 (r.n : Nat), .int .u64 (r.bits : Nat)] 35)
  have hr3 := Blk.new (cs := r.cells) w2 35 _ rfl
  have hlt2 := hB2.size
  have hw2 := hR2.lt
  have c1 := hF3.cell 0
  have c2 := hA3.cell 0
  have f1 := hF3.frozen 0
  have f2 := hA3.frozen 0
  have d0 := hr3.cell 0
  have hsl : (r.seq : Int) ≤ 18446744073709551615 := by have := H.out.1; omega
  have HW := Lib.hid (And.intro hF3 (And.intro hA3 (And.intro hR3 (And.intro hr3 (And.intro hFlt (And.intro hAlt (And.intro hlt2 (And.intro hw2 (And.intro hB2 hne)))))))))
  obtain ⟨p3, hp3⟩ : ∃ x, w2.heap.size = x := ⟨_, rfl⟩
  obtain ⟨W3, hW3⟩ : ∃ x, w2.alloc (.cells #[.int .u64 (r.seq : Nat), .int .i64 r.kind, .string ⟨r.ten.toArray⟩, .int .u64 (r.lease : Nat), .int .u64 (r.n : Nat), .int .u64 (r.bits : Nat)] 35) = x := ⟨_, rfl⟩
  have e0 : w2.alloc (.cells r.cells.toArray 35) = W3 := hW3
  rw [hW3] at c1 c2 f1 f2
  rw [e0] at d0
  rw [hp3] at d0
  replace d0 : W3.cell? ⟨p3, 0, none⟩ = some (.int .u64 (r.seq : Nat)) := d0
  replace c1 : W3.cell? ⟨gF, 0, none⟩ = some (.bool f) := c1
  replace c2 : W3.cell? ⟨gA, 0, none⟩ = some (.int .u64 (a : Nat)) := c2
  clear hF2 hA2 hR2 hF3 hA3 hR3 hr3 hFlt hAlt hlt2 hw2
  have hcase : (ec != 0) = true ∨ (ec = 0 ∧ f = false ∧ ((r.seq : Int) != (a : Int)) = true) := by
    rcases H.out.2 with h | ⟨h1, h2, h3⟩
    · exact .inl (by simpa using h)
    · exact .inr ⟨h1, h2, by simp; omega⟩
  rcases hcase with hec | ⟨rfl, rfl, hss⟩
  all_goals
    go_upto_region 3 with fail
    obtain ⟨hF3, hA3, hR3, hr3, hFlt, hAlt, hlt2, hw2, hB2', hne'⟩ := HW.out
    rw [hW3] at hR3
    have hT : Below W.heap.size W W3 := by rw [← e0]; exact hB2'.alloc hlt2 _
    have HT := Lib.hid hT
    clear hF3 hA3 hr3 hFlt hAlt hlt2 hw2 hB2' hB2 hT HW hW3 e0 d0 c1 c2 f1 f2 hp3
    go_wp2_with (refine st_blk rfl 35 _ _ rfl W.heap.size (rcCs 0 0 ⟨#[]⟩ 0 0 0) rfl rfl 35 (rcCs 0 0 ⟨#[]⟩ 0 0 0) hR3 (by kernel_rfl) rfl (by intro v hv; simp [rcCs] at hv; rcases hv with rfl | rfl | rfl | rfl | rfl | rfl <;> rfl) ?_)
    try simp only [Exit.inBlock, Exit.then]
    refine ret_cell_tmp rfl W.heap.size 35 (rcCs 0 0 ⟨#[]⟩ 0 0 0) rfl (hR3.row _) _ Tryz.underlying35 (by kernel_rfl) _ rfl rfl ?_
    exact ⟨rfl, below_row HT.out (Nat.le_refl _) _⟩

theorem enters_take : ∀ args w, (callFunc 73 args).run Tryz.prog w = .ok (.enter 73 args) w := enters_of Tryz.func73 (by kernel_rfl) rfl

/-- What awaits behind the records that were taken. -/
def awN (out : List Rc) : Nat := match out.getLast? with | none => 0 | some q => nextN q
def TkS (w : World) (gF gA : Nat) (out : List Rc) : Prop := Blk w gF 4 [.bool out.isEmpty] ∧ Blk w gA 23 [.int .u64 (awN out : Nat)]
theorem awaits_awN (out : List Rc) (r : Rc) : awaits out r = (out.isEmpty || decide (r.seq = awN out)) := by
  unfold awaits awN nextN
  cases h : out.getLast? with
  | none =>
    rw [List.getLast?_eq_none_iff] at h
    subst h
    rfl
  | some q =>
    have : out ≠ [] := by rintro rfl; cases h
    cases out with
    | nil => exact absurd rfl this
    | cons x l => rfl

theorem stake_any (A : Option Addr) (n c : Nat) (l : List UInt8) (W : World) (gF gA : Nat) (out : List Rc) (hl : Byt W W.heap.size A n l) (hnil : A = none → c = 0) (hn : n ≤ 140737488355328) (hD : DK W)
    (hS : TkS W gF gA out) (hne : gF ≠ gA) (v : Bool) (hv : (recOk l && awaits out (recP l)) = v) :
    Calls Tryz.prog 73 #[.slice A n c, .pointer (some ⟨gF, 0, none⟩), .pointer (some ⟨gA, 0, none⟩)] W fun e W' => e = .returned (.tuple #[.agg (if v then recP l else zeroR).cells.toArray, .bool v]) ∧
      TkS W' gF gA (if v then out ++ [recP l] else out) ∧ Turn (fun k => k = gF ∨ k = gA) W W' := by
  obtain ⟨h1, h2⟩ := rec_dec l
  have hsq := (recP_okay l).1
  cases hok : recOk l with
  | true =>
    have hd : decC l = (recP l, 0) := by
      have h3 := of_decide_eq_true (h1.symm.trans hok)
      exact Prod.ext (h2 hok) h3
    rw [hok, Bool.true_and, awaits_awN] at hv
    cases v with
    | true =>
      refine (stake_yes A n c l W gF gA _ _ hl hnil hn hD hS.1 hS.2 hne (recP l) hd hsq ?_).mono ?_
      · cases he : out.isEmpty with
        | true => exact .inl rfl
        | false => rw [he, Bool.false_or] at hv; exact .inr (of_decide_eq_true hv)
      · rintro e w' ⟨rfl, k1, k2, k3⟩
        refine ⟨rfl, ⟨?_, ?_⟩, k3⟩
        · have : (out ++ [recP l]).isEmpty = false := by simp
          show Blk w' gF _ [.bool (out ++ [recP l]).isEmpty]
          rw [this]; exact k1
        · have : awN (out ++ [recP l]) = nextN (recP l) := by unfold awN; simp
          show Blk w' gA _ [.int .u64 ((awN (out ++ [recP l]) : Nat) : Int)]
          rw [this]; exact k2
    | false =>
      rw [Bool.or_eq_false_iff] at hv
      refine (stake_no A n c l W gF gA _ _ hl hnil hn hD hS.1 hS.2 hne (recP l) 0 hd hsq (.inr ⟨rfl, hv.1, of_decide_eq_false hv.2⟩)).mono ?_
      rintro e w' ⟨rfl, hb⟩
      exact ⟨rfl, ⟨hS.1.below hb hS.1.lt, hS.2.below hb hS.2.lt⟩, Turn.of_below hb⟩
  | false =>
    rw [hok, Bool.false_and] at hv
    subst hv
    have h3 : (decC l).2 ≠ 0 := of_decide_eq_false (h1.symm.trans hok)
    have hz : (decC l).1.seq < 18446744073709551616 := by
      by_cases hh : (decS0 l).2 = 0 ∧ isK (decK l) = false
      · rw [decC_kind l hh.1 hh.2]; decide
      · rw [decC_rest l hh] at h3 ⊢
        by_cases h4 : orE (decE l) (checkC (decR l)) ≠ 0
        · rw [if_pos h4]; show (0 : Nat) < _; decide
        · rw [if_neg h4] at h3; exact absurd rfl h3
    refine (stake_no A n c l W gF gA _ _ hl hnil hn hD hS.1 hS.2 hne (decC l).1 (decC l).2 rfl hz (.inl h3)).mono ?_
    rintro e w' ⟨rfl, hb⟩
    exact ⟨rfl, ⟨hS.1.below hb hS.1.lt, hS.2.below hb hS.2.lt⟩, Turn.of_below hb⟩

set_option maxRecDepth 100000 in
theorem taking_any (W : World) : Calls Tryz.prog 47 #[] W fun e W' => e = .returned (.func (.func 73) #[] #[.pointer (some ⟨W.heap.size + 1, 0, none⟩), .pointer (some ⟨W.heap.size, 0, none⟩)]) ∧ TkS W' (W.heap.size + 1) W.heap.size [] ∧ Below W.heap.size W W' ∧ W.heap.size + 2 ≤ W'.heap.size := by
  have hmf : ∀ (fn : Fn) (first cap : Array Value) (w : World), (Instr.makeFunc fn first cap).run Tryz.prog w = .ok (.func fn first cap) w := fun _ _ _ _ => rfl
  go_enter Tryz.func47, Tryz.ntmps47
  go_wp2
  go_ret
  have k1 : Blk (W.alloc (.cells #[.int .u64 0] 23)) W.heap.size 23 [.int .u64 0] := Blk.new W _ _ rfl
  have k2 : Blk ((W.alloc (.cells #[.int .u64 0] 23)).alloc (.cells #[.bool true] 4)) (W.alloc (.cells #[.int .u64 0] 23)).heap.size 4 [.bool true] := Blk.new _ _ _ rfl
  rw [World.size_alloc] at k2
  exact ⟨rfl, ⟨k2, k1.alloc _⟩, ((Below.refl _ _).alloc (Nat.le_refl _) _).alloc (by rw [World.size_alloc]; omega) _, by rw [World.size_alloc, World.size_alloc]; omega⟩

end Go.Proofs.YthjikbhjciphiaaGreatDoor

/-
  The program's boxes of records.
-/
namespace Go.Proofs.YthjikbhjciphiaaGreatDoor
open Go.RowKit
set_option linter.unusedVariables false
set_option linter.unusedSimpArgs false

set_option maxRecDepth 100000 in
set_option maxHeartbeats 1000000 in
theorem sbox_no (s : Nat) (k : Int) (T : ByteArray) (l n b : Nat) (W : World) (hS : SV W) (ho : (⟨s, k, T.data.toList, l, n, b⟩ : Rc).okay) (hT : T.size ≤ 10000) (c : Int) (hc : checkC ⟨s, k, T.data.toList, l, n, b⟩ = c) (h0 : c ≠ 0) :
    Calls Tryz.prog 58 #[rcV s k T l n b] W fun e W' => e = .returned (.tuple #[.slice none 0 0, .int .i64 c]) ∧ Below W.heap.size W W' := by
  have hE := fun w hw => encode_no s k T l n b (by unfold maxLen; omega) ho.2.2.2.2.2 w hw c hc h0
  have hB0 := (Below.refl W.heap.size W).alloc (Nat.le_refl _) (.cells (rcCs s k T l n b).toArray 35)
  have hD0 := dk_below hS.1 hB0 (Nat.le_refl _)
  have hq : (c != 0) = true := by simpa using h0
  unfold rcV at hE ⊢
  clear hc h0 ho hT
  go_enter Tryz.func58, Tryz.ntmps58
  go_wp2_with fail
  refine (hE _ hD0).mono ?_
  rintro e w2 ⟨rfl, hb2⟩
  have hB2 := bthen hB0 hb2
  go_wp2_with fail
  go_ret2
  exact ⟨rfl, hB2⟩

set_option maxRecDepth 100000 in
set_option maxHeartbeats 1000000 in
theorem sbox_ok (s : Nat) (k : Int) (T : ByteArray) (l n b : Nat) (W : World) (hS : SV W) (ho : (⟨s, k, T.data.toList, l, n, b⟩ : Rc).okay) (hT : T.size ≤ 10000) (hc : checkC ⟨s, k, T.data.toList, l, n, b⟩ = 0) :
    Calls Tryz.prog 58 #[rcV s k T l n b] W fun e W' => ∃ v m, e = .returned (.tuple #[v, .int .i64 0]) ∧ W'.ownsRow W.heap.size 5 1 v m ((boxC (encC ⟨s, k, T.data.toList, l, n, b⟩)).map bv) ∧ Below W.heap.size W W' := by
  have hE := fun w hw => encode_ok s k T l n b ho.1 ho.2.2.2.1 ho.2.2.2.2.1 ho.2.2.2.2.2 (by unfold maxLen; omega) w hw hc
  have hB0 := (Below.refl W.heap.size W).alloc (Nat.le_refl _) (.cells (rcCs s k T l n b).toArray 35)
  have hD0 := dk_below hS.1 hB0 (Nat.le_refl _)
  have hlen := okRc_len ⟨s, k, T.data.toList, l, n, b⟩ ⟨hc, ho⟩
  obtain ⟨E, hEE⟩ : ∃ E, encC ⟨s, k, T.data.toList, l, n, b⟩ = E := ⟨_, rfl⟩
  rw [hEE] at hE hlen ⊢
  have hpe : putE E = 0 := by unfold putE; rw [if_neg (by omega), if_neg (by omega)]
  have hpb : putB [] E = boxC E := by unfold putB; rw [if_pos hpe]; rfl
  unfold rcV at hE ⊢
  have HP := Lib.hid (And.intro hpe (And.intro hpb hlen))
  clear hc ho hT hEE hpe hpb hlen
  go_enter Tryz.func58, Tryz.ntmps58
  go_wp2_with fail
  refine (hE _ hD0).mono ?_
  rintro e w2 ⟨v2, m2, rfl, ho2, hb2⟩
  have hB2 := bthen hB0 hb2
  obtain ⟨A2, c2, rfl, r1, r2, r3⟩ := own_form ho2
  have hx2 := Byt.of_own ho2
  have hm2 : m2 ≤ 1000000 := by have := hx2.1; have := HP.out.2.2; omega
  have hPut := put12_any none A2 0 0 m2 c2 [] E w2 ⟨rfl, fun h => absurd h (by omega)⟩ (fun _ => rfl) hx2 (fun h => (r1 h).2) (by omega) hm2
  unfold PutPost at hPut
  rw [HP.out.1, HP.out.2.1] at hPut
  have hsz := hB2.size
  clear hm2 r1 r2 r3 hE
  go_wp2_with fail
  refine hPut.mono ?_
  rintro e w3 ⟨v3, m3, rfl, ho3, hb3⟩
  have hB3 := bthen hB2 hb3
  have ho4 := own_mono ho3 hsz
  go_wp2_with fail
  go_ret2
  exact ⟨_, _, rfl, ho4, hB3⟩

theorem sbox_any (s : Nat) (k : Int) (T : ByteArray) (l n b : Nat) (W : World) (hS : SV W) (ho : (⟨s, k, T.data.toList, l, n, b⟩ : Rc).okay) (hT : T.size ≤ 10000) :
    Calls Tryz.prog 58 #[rcV s k T l n b] W fun e W' => ∃ A m c, e = .returned (.tuple #[.slice A m c, .int .i64 (checkC ⟨s, k, T.data.toList, l, n, b⟩)]) ∧
      Byt W' W'.heap.size A m (if checkC ⟨s, k, T.data.toList, l, n, b⟩ = 0 then boxC (encC ⟨s, k, T.data.toList, l, n, b⟩) else []) ∧ (A = none → c = 0) ∧ m ≤ c ∧ c ≤ maxLen ∧ Below W.heap.size W W' := by
  by_cases hc : checkC ⟨s, k, T.data.toList, l, n, b⟩ = 0
  · refine (sbox_ok s k T l n b W hS ho hT hc).mono ?_
    rintro e W' ⟨v, m, rfl, hr, hb⟩
    obtain ⟨A, c, rfl, r1, r2, r3⟩ := own_form hr
    exact ⟨A, m, c, by rw [hc], by rw [if_pos hc]; exact Byt.of_own hr, fun h => (r1 h).2, r2, r3, hb⟩
  · refine (sbox_no s k T l n b W hS ho hT _ rfl hc).mono ?_
    rintro e W' ⟨rfl, hb⟩
    exact ⟨none, 0, 0, rfl, by rw [if_neg hc]; exact ⟨rfl, fun h => absurd h (by omega)⟩, fun _ => rfl, Nat.le_refl _, Nat.zero_le _, hb⟩

end Go.Proofs.YthjikbhjciphiaaGreatDoor

/-
  The program's journal: what a commit writes, gathered record by record.
-/
namespace Go.Proofs.YthjikbhjciphiaaGreatDoor
open Go.RowKit
set_option linter.unusedVariables false
set_option linter.unusedSimpArgs false

/-- Block g is a batch of these bytes. -/
def BDat (w : World) (g : Nat) (l : List UInt8) : Prop := ∃ A c, Blk w g 72 [.slice A l.length c] ∧ w.ownsRow (g + 1) 5 1 (.slice A l.length c) l.length (l.map bv)
theorem BDat.below {w w' : World} {g : Nat} {l : List UInt8} (h : BDat w g l) (hb : Below w.heap.size w w') : BDat w' g l := by
  obtain ⟨A, c, h1, h2⟩ := h
  exact ⟨A, c, h1.below hb h1.lt, own_turn h2 (Turn.of_below (S := fun _ => False) hb) (fun _ _ h => h)⟩
theorem add_tail {w w1 : World} {g n m c : Nat} {A : Option Addr} {l d : List UInt8} {v' : Value} (hl : l.length = n) (hd : d.length = m) (hB : Blk w g 72 [.slice A n c]) (ho : w.ownsRow (g + 1) 5 1 (.slice A n c) n (l.map bv))
    (hown : w1.ownsRow (g + 1) 5 1 v' (n + m) (l.map bv ++ d.map bv)) (hgr : w.grownBy w1 (Value.slice A n c).ownBlock) :
    w1.cell? ⟨g, 0, none⟩ = some (.slice A n c) ∧ w1.frozen? ⟨g, 0, none⟩ = false ∧ BDat (w1.setCell ⟨g, 0, none⟩ v') g (l ++ d) ∧ Below g w (w1.setCell ⟨g, 0, none⟩ v') := by
  have hb1 : Turn (fun k => ∃ a, A = some a ∧ a.block = k) w w1 := by
    refine ⟨hgr.os, hgr.tape, hgr.output, hgr.size, fun k hk hne => hgr.block k hk fun e => hne ?_⟩
    cases hA : A with
    | none => rw [hA] at e; cases e
    | some a => rw [hA] at e; exact ⟨a, rfl, Option.some.inj e.symm⟩
  have hB1 := hb1.blk hB (fun ⟨a, ha, e⟩ => by have := ((own_lenA ho).2.2.2 a ha).1; omega)
  obtain ⟨A', c', rfl, hf1, hf2, hf3⟩ := own_formk hown
  have ht2 : Turn (fun k => k = g) w1 (w1.setCell ⟨g, 0, none⟩ (.slice A' (n + m) c')) := (Turn.refl (fun k => k = g) w1).setCell (p := ⟨g, 0, none⟩) rfl _
  have hlen : (l ++ d).length = n + m := by rw [List.length_append, hl, hd]
  refine ⟨hB1.cell 0, hB1.frozen 0, ⟨A', c', ?_, ?_⟩, Turn.below (S := fun k => k = g ∨ ∃ a, A = some a ∧ a.block = k) ((hb1.mono fun k hk => .inr hk).trans (ht2.mono fun k hk => .inl hk)) (Nat.le_of_lt hB.lt) fun k hk => ?_⟩
  · rw [hlen]
    exact hB1.set 0 (.slice A' (n + m) c')
  · rw [hlen, List.map_append]
    exact own_turn hown ht2 fun a ha e => by
      have := ((own_lenA hown).2.2.2 a ha).1
      have e' : a.block = g := e
      omega
  · rcases hk with rfl | ⟨a, ha, rfl⟩
    · exact Nat.le_refl _
    · have := ((own_lenA ho).2.2.2 a ha).1
      omega

set_option maxRecDepth 100000 in
set_option maxHeartbeats 2000000 in
theorem ladd_any (W : World) (g : Nat) (l : List UInt8) (r : Rc) (X : ByteArray) (hX : X.data.toList = r.ten) (hB : BDat W g l) (hS : SV W) (hr : okRc r) (hl : l.length ≤ 100000) :
    Calls Tryz.prog 37 #[.pointer (some ⟨g, 0, none⟩), rcV r.seq r.kind X r.lease r.n r.bits] W fun e W' => e = .returned (.tuple #[]) ∧ BDat W' g (l ++ boxC (encC r)) ∧ Below g W W' := by
  have hlr := okRc_len r hr
  have hbl : (boxC (encC r)).length = (encC r).length + 6 := by
    have := lenB_cons (encC r) []
    unfold lenB boxesC at this
    simpa using this
  obtain ⟨s, k, t, le, n, b⟩ := r
  simp only at hX ⊢
  subst hX
  have hXs : X.size ≤ 10000 := by
    have h3 := (ten_len _ (check_parts _ hr.1).2.1).2
    have h4 : X.data.toList.length ≤ 16 := h3
    have h5 : X.size = X.data.toList.length := rfl
    omega
  obtain ⟨iu, hiu, hu0, hu1, hu2⟩ := info_parts Tryz.infoByte
  have hBx := fun w hw => sbox_any s k X le n b w hw hr.2 hXs
  have h0 : checkC ⟨s, k, X.data.toList, le, n, b⟩ = 0 := hr.1
  rw [h0, if_pos rfl] at hBx
  obtain ⟨d, hd⟩ : ∃ d, boxC (encC ⟨s, k, X.data.toList, le, n, b⟩) = d := ⟨_, rfl⟩
  rw [hd] at hBx hbl ⊢
  obtain ⟨A, c, hblk, hown⟩ := hB
  have c0 : W.cell? ⟨g, 0, none⟩ = some (.slice A l.length c) := hblk.cell 0
  obtain ⟨N, hN⟩ : ∃ N, l.length = N := ⟨_, rfl⟩
  rw [hN] at c0 hblk hown hl
  have hglt := hblk.lt
  have HH := Lib.hid (And.intro hblk (And.intro hown (And.intro hN (And.intro hbl hlr))))
  have HS := Lib.hid hS
  unfold rcV at hBx ⊢
  clear hblk hown hN hbl hlr hr h0 hd hS
  go_enter Tryz.func37, Tryz.ntmps37
  go_wp2_with fail
  refine (hBx _ (HS.out.below (by first | exact (Below.refl _ W).alloc (Nat.le_refl _) _))).mono ?_
  rintro e w1 ⟨A1, m, c1, rfl, hy, hnil, hmc, hcm, hb1⟩
  have hb2 : Below W.heap.size W w1 := bthen ((Below.refl _ W).alloc (Nat.le_refl _) _) hb1
  have hB1 := HH.out.1.below hb2 hglt
  have ho1 := own_turn HH.out.2.1 (Turn.of_below (S := fun _ => False) hb2) (fun _ _ h => h)
  have e0 : w1.cell? ⟨g, 0, none⟩ = some (.slice A N c) := hB1.cell 0
  have hdm : d.length = m := hy.1
  have hm5 : m ≤ 100000 := by have := HH.out.2.2.2.1; have := HH.out.2.2.2.2; omega
  have H1 := Lib.hid (And.intro hB1 (And.intro hb2 hdm))
  have hglt1 := hB1.lt
  clear hBx hb1 hb2 hB1 c0 hdm
  go_wp2_with (at_builtin; refine wpList_append_byt_at w1 rfl _ _ 70 rfl (g + 1) 5 iu (.int .u8 0) Tryz.underlying70 hiu hu0 hu1 hu2 rfl (Value.slice A N c) N (l.map bv) rfl ho1 w1.heap.size A1 m c1 d rfl hy hnil (by omega) (by omega) ?_)
  intro v4 w4 hown4 hgr4 hat4
  obtain ⟨A4, c4, rfl, _⟩ := own_formk hown4
  obtain ⟨y0, yz, q1, q2⟩ := add_tail HH.out.2.2.1 H1.out.2.2 H1.out.1 ho1 hown4 hgr4
  have H4 := Lib.hid (And.intro q1 q2)
  clear q1 q2 hown4 hgr4 hat4 ho1 hy
  go_wp2_with fail
  go_end0
  exact ⟨rfl, H4.out.1, (H1.out.2.1.mono (by omega)).trans H4.out.2⟩

set_option maxRecDepth 100000 in
set_option maxHeartbeats 2000000 in
theorem leach_any (W : World) (T : Nat → Prop) (p q c g : Nat) (j : Jn) (A : Option Addr) (h : LDat W T p q j A c) (hB : BDat W g []) (hS : SV W) (hSg : ∀ w, Below g W w → SV w) (hok : ∀ r ∈ j.buf, okRc r) (hbl : j.buf.length ≤ 200) (hT : ∀ k, T k → k < g) :
    Calls Tryz.prog 36 #[.pointer (some ⟨p, 0, none⟩), .func (.func 37) #[.pointer (some ⟨g, 0, none⟩)] #[]] W fun e W' => e = .returned (.tuple #[]) ∧ BDat W' g (segB j.buf) ∧ Below g W W' := by
  have c2 : W.cell? ⟨p, 2, none⟩ = some (.slice A j.buf.length c) := h.blk.cell 2
  obtain ⟨N, hN⟩ : ∃ N, j.buf.length = N := ⟨_, rfl⟩
  rw [hN] at c2 hbl
  obtain ⟨A2, c2', e2, hrow⟩ := Rcs.of_own (S := fun _ => False) h.own (fun _ h => h.elim)
  injection e2 with e2 _ _
  subst e2
  rw [hN] at hrow
  have hAg : ∀ a, A = some a → a.block < g := fun a ha => hT _ ((h.sp _).2 (.inr ⟨a, ha, rfl⟩))
  have HS := Lib.hid (And.intro hSg (And.intro hok (And.intro hN hrow)))
  have HB := Lib.hid (And.intro hB hAg)
  clear hSg hok h hB hT hS hrow hAg hN
  go_enter Tryz.func36, Tryz.ntmps36
  go_wp2_with fail
  go_loopw [11] (fun i wr => ∃ k : Nat, k ≤ N ∧ i = .int .i64 (k : Nat) ∧ BDat wr g (segB (j.buf.take k)) ∧ Below g W wr) (fun i _ => N - (intOf i).toNat)
  case atStart => exact ⟨0, Nat.zero_le _, rfl, HB.out.1, Below.refl _ _⟩
  case round =>
    obtain ⟨k, hk, rfl, hBk, hb⟩ := hrel
    by_cases hlt : k < N
    · have t1 : (k : Int) < (N : Int) := by omega
      obtain ⟨r, hr⟩ : ∃ r, j.buf[k]? = some r := ⟨_, List.getElem?_eq_getElem (by have := HS.out.2.2.1; omega)⟩
      obtain ⟨ga, o, hA, _, _, f0, f1, f2, f3, f4, f5⟩ := Rcs.at_ HS.out.2.2.2 hr
      have hgw : ga < g := HB.out.2 _ hA
      have e0 := (hb.cell (p := ⟨ga, o + k * 6, none⟩) hgw).trans f0
      have e1 := (hb.cell (p := ⟨ga, o + k * 6 + 1, none⟩) hgw).trans f1
      have e2 := (hb.cell (p := ⟨ga, o + k * 6 + 2, none⟩) hgw).trans f2
      have e3 := (hb.cell (p := ⟨ga, o + k * 6 + 3, none⟩) hgw).trans f3
      have e4 := (hb.cell (p := ⟨ga, o + k * 6 + 4, none⟩) hgw).trans f4
      have e5 := (hb.cell (p := ⟨ga, o + k * 6 + 5, none⟩) hgw).trans f5
      have hokr := HS.out.2.1 r (List.mem_of_getElem? hr)
      have hlen := (lenB_le (j.buf.take k) (fun q hq => HS.out.2.1 q (List.mem_of_mem_take hq))).1
      have hsn : segB (j.buf.take k) ++ boxC (encC r) = segB (j.buf.take (k + 1)) := by
        rw [List.take_add_one, hr, Option.toList_some, segB_app]
        unfold segB boxesC
        simp
      have hgl : g ≤ wr.heap.size := by obtain ⟨_, _, q, _⟩ := hBk; exact Nat.le_of_lt q.lt
      have hk2 : k ≤ 200 := by omega
      have hAd := fun w (hw : Below wr.heap.size wr w) => ladd_any w g (segB (j.buf.take k)) r ⟨r.ten.toArray⟩ rfl (hBk.below hw) (HS.out.1 w (hb.trans (hw.mono hgl))) hokr (by rw [List.length_take] at hlen; omega)
      rw [hsn] at hAd
      unfold rcV at hAd
      have HK := Lib.hid (And.intro hb (And.intro hgl hlt))
      rw [hA] at c2
      clear f0 f1 f2 f3 f4 f5 hsn hlen hokr hr hBk hb hgl hlt
      subst hA
      go_wp2_with fail
      refine (hAd _ (by first | exact (Below.refl _ wr).alloc (Nat.le_refl _) _ | exact below_drew ((Below.refl _ wr).alloc (Nat.le_refl _) _))).mono ?_
      rintro e w2 ⟨rfl, hB2, hb2⟩
      have HK2 := Lib.hid (And.intro hB2 (And.intro (HK.out.1.trans (Below.trans (((Below.refl _ wr).alloc (Nat.le_refl _) _).mono HK.out.2.1) hb2)) HK.out.2.2))
      clear hAd hB2 hb2
      go_wp2_with fail
      go_roundw
      case rel => exact ⟨k + 1, HK2.out.2.2, by go_num, HK2.out.1, HK2.out.2.1⟩
      case measure => have := HK2.out.2.2; simp [intOf]; omega
    · have t1 : ¬ (k : Int) < (N : Int) := by omega
      have hkk : k = N := by omega
      have HE := Lib.hid (And.intro hBk (And.intro hb hkk))
      clear hBk hb hkk hlt hk
      go_wp2_with fail
      go_end0
      obtain ⟨h1, h2, h3⟩ := HE.out
      rw [h3, ← HS.out.2.2.1, List.take_of_length_le (Nat.le_refl _)] at h1
      exact ⟨rfl, h1, h2⟩

end Go.Proofs.YthjikbhjciphiaaGreatDoor
