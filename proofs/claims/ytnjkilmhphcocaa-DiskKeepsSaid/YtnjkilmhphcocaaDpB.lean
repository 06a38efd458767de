/-
  The program's disk: what asks its own block alone, and turns it.
-/
import Derived.Test.YtnjkilmhphcocaaDpA
import Derived.Test.YtnjkilmhphcocaaDlB
namespace Go.Proofs.Ytnjkilmhphcocaa
open Go.RowKit
set_option linter.unusedVariables false
set_option linter.unusedSimpArgs false

section
variable {w : World} {S : Nat → Prop} {q mb l : Nat} {m : Dk} {kp : Int} {L : List (List UInt8 × Value)} {G : List UInt8 → Option FM}
theorem dp_there {w : World} {q : Nat} {t : TypeId} {cs : List Value} (h : Blk w q t cs) (o n : Nat) (hn : o + n ≤ cs.length) : w.there q o n := fun j hj =>
  ⟨by rw [h.cell, List.getElem?_eq_getElem (by omega)]; rfl, h.frozen _⟩

set_option maxRecDepth 100000 in
set_option maxHeartbeats 2000000 in
theorem pdown_any (W : World) (h : PDat W S q m mb l kp L G) :
    Calls Try.prog 17 #[.pointer (some ⟨q, 0, none⟩)] W fun e W' => e = .returned (.bool m.down) ∧ W' = W := by
  have c6 : W.cell? ⟨q, 6, none⟩ = some (.bool m.down) := h.blk.cell 6
  obtain ⟨d, hd⟩ : ∃ d, m.down = d := ⟨_, rfl⟩
  rw [hd] at c6 ⊢
  clear h hd
  go_enter Try.func17, Try.ntmps17
  go_wp2
  go_ret
  exact ⟨rfl, rfl⟩

set_option maxRecDepth 100000 in
set_option maxHeartbeats 2000000 in
theorem pcalls_any (W : World) (h : PDat W S q m mb l kp L G) :
    Calls Try.prog 16 #[.pointer (some ⟨q, 0, none⟩)] W fun e W' => e = .returned (.int .u64 ((m.calls : Nat) : Int)) ∧ W' = W := by
  have c2 : W.cell? ⟨q, 2, none⟩ = some (.int .u64 ((m.calls : Nat) : Int)) := h.blk.cell 2
  obtain ⟨d, hd⟩ : ∃ d, m.calls = d := ⟨_, rfl⟩
  rw [hd] at c2 ⊢
  clear h hd
  go_enter Try.func16, Try.ntmps16
  go_wp2
  go_ret
  exact ⟨rfl, rfl⟩

set_option maxRecDepth 100000 in
set_option maxHeartbeats 2000000 in
theorem pup_any (W : World) (h : PDat W S q m mb l kp L G) :
    Calls Try.prog 28 #[.pointer (some ⟨q, 0, none⟩)] W fun e W' => e = .returned (.tuple #[]) ∧ PDat W' S q ⟨m.files, m.cap, m.calls, m.armed, m.left, m.keep, false⟩ mb l kp L G ∧ Turn (fun k => k = q) W W' := by
  have c6 : W.cell? ⟨q, 6, none⟩ = some (.bool m.down) := h.blk.cell 6
  have hfz := h.blk.frozen 6
  have HH := Lib.hid h
  clear h
  go_enter Try.func28, Try.ntmps28
  go_wp2
  go_end0
  have hB := HH.out.blk.set 6 (.bool false)
  have ht : Turn (fun k => k = q) W (W.setCell ⟨q, 6, none⟩ (.bool false)) := (Turn.refl (fun k => k = q) W).setCell (p := ⟨q, 6, none⟩) rfl _
  exact ⟨rfl, HH.out.cells ht hB rfl HH.out.arm HH.out.left, ht⟩

set_option maxRecDepth 100000 in
set_option maxHeartbeats 2000000 in
theorem parm_any (W : World) (n : Nat) (keep : Int) (hn : n < 18446744073709551616) (h : PDat W S q m mb l kp L G) :
    Calls Try.prog 27 #[.pointer (some ⟨q, 0, none⟩), .int .u64 ((n : Nat) : Int), .int .i64 keep] W fun e W' => e = .returned (.tuple #[]) ∧ PDat W' S q ⟨m.files, m.cap, m.calls, true, n, keep, m.down⟩ mb n keep L G ∧ Turn (fun k => k = q) W W' := by
  have hth : W.there q 3 3 := dp_there h.blk 3 3 (by show 6 ≤ 7; omega)
  have HH := Lib.hid h
  clear h
  go_enter Try.func27, Try.ntmps27
  go_wp2_with (refine wpList_store_list rfl 59 _ _ rfl q 3 [.bool true, .int .u64 ((n : Nat) : Int), .int .i64 keep] rfl rfl hth (by kernel_rfl) (by simp [Value.oneCell']) ?_)
  go_end0
  have hB := ((HH.out.blk.set 3 (.bool true)).set 4 (.int .u64 ((n : Nat) : Int))).set 5 (.int .i64 keep)
  have ht : Turn (fun k => k = q) W (((W.setCell ⟨q, 3, none⟩ (.bool true)).setCell ⟨q, 4, none⟩ (.int .u64 ((n : Nat) : Int))).setCell ⟨q, 5, none⟩ (.int .i64 keep)) :=
    (((Turn.refl (fun k => k = q) W).setCell (p := ⟨q, 3, none⟩) rfl _).setCell (p := ⟨q, 4, none⟩) rfl _).setCell (p := ⟨q, 5, none⟩) rfl _
  exact ⟨rfl, HH.out.cells ht hB rfl (fun _ => ⟨rfl, rfl⟩) hn, ht⟩
end

end Go.Proofs.Ytnjkilmhphcocaa
