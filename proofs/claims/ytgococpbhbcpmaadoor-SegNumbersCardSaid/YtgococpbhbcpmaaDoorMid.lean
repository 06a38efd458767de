/-
  Cells in the midst of a block: what keeps them; a slice of structs made. No program stands here.
-/
import Derived.Test.YtgococpbhbcpmaaDoorRow
import Derived.Deep.MidRow
import Derived.Laws.MakeOwn
import Derived.Lib.OthersKept
namespace Go.Proofs.YtgococpbhbcpmaaDoor
open Go.RowKit
set_option linter.unusedVariables false
set_option linter.unusedSimpArgs false

/-- Each cell that is there stays as it is. -/
def Keeps (w w' : World) : Prop := w.heap.size ≤ w'.heap.size ∧ ∀ (a : Addr) (v : Value), w.cell? a = some v → w'.cell? a = some v
theorem Keeps.refl (w : World) : Keeps w w := ⟨Nat.le_refl _, fun _ _ h => h⟩
theorem Keeps.trans {a b c : World} (h : Keeps a b) (k : Keeps b c) : Keeps a c := ⟨Nat.le_trans h.1 k.1, fun p v e => k.2 p v (h.2 p v e)⟩
theorem keeps_below {w w' : World} (h : Below w.heap.size w w') : Keeps w w' := ⟨h.size, fun p v e => by rw [h.cell (block_lt_of_cell e)]; exact e⟩
theorem keeps_iterAt {w : World} {I : Nat} {s t : ByteArray} {p q : Nat} (hit : w.heap[I]? = some (.stringIter s p)) : Keeps w (w.iterAt I t q) := by
  refine ⟨by rw [Lib.iterAt_size]; exact Nat.le_refl _, fun a v h => ?_⟩
  by_cases ha : a.block = I
  · simp [World.cell?, ha, hit] at h
  · rw [World.cell?_of_block (w := w) (Lib.iterAt_other w I a.block t q ha)]
    exact h
theorem Byt.keeps {w w' : World} {B n : Nat} {A : Option Addr} {l : List UInt8} (h : Byt w B A n l) (hk : Keeps w w') : Byt w' B A n l :=
  ⟨h.1, fun hn => by
    obtain ⟨b, o, e, hb, hc⟩ := h.2 hn
    exact ⟨b, o, e, hb, fun j x hx => hk.2 _ _ (hc j x hx)⟩⟩
theorem rangeAt_keeps {w w' : World} {b o : Nat} {cs : List Value} (h : w.rangeAt b o cs) (hk : Keeps w w') : w'.rangeAt b o cs := fun j v hv => hk.2 _ _ (h j v hv)
theorem rangeAt_below {w w' : World} {B b o : Nat} {cs : List Value} (h : w.rangeAt b o cs) (hb : Below B w w') (hlt : b < B) : w'.rangeAt b o cs := fun j v hv => by
  rw [hb.cell (p := ⟨b, o + j, none⟩) hlt]
  exact h j v hv
theorem there_below {w w' : World} {B b o n : Nat} (h : w.there b o n) (hb : Below B w w') (hlt : b < B) : w'.there b o n := fun j hj => by
  rw [hb.cell (p := ⟨b, o + j, none⟩) hlt, hb.frozen (p := ⟨b, o + j, none⟩) hlt]
  exact h j hj
theorem there_iterAt {w : World} {I b o n : Nat} (h : w.there b o n) (hne : b ≠ I) (s : ByteArray) (q : Nat) : (w.iterAt I s q).there b o n := fun j hj => by
  rw [World.cell?_of_block (w := w) (a := ⟨b, o + j, none⟩) (Lib.iterAt_other w I b s q hne), World.frozen?_of_block (w := w) (a := ⟨b, o + j, none⟩) (Lib.iterAt_other w I b s q hne)]
  exact h j hj
theorem there_part {w : World} {b o n : Nat} (h : w.there b o n) (i m : Nat) (him : i + m ≤ n) : w.there b (o + i) m := fun j hj => by
  rw [Nat.add_assoc]
  exact h (i + j) (by omega)
theorem setCells_size (b : Nat) : ∀ (vs : List Value) (o : Nat) (w : World), (w.setCells b o vs).heap.size = w.heap.size
  | [], _, _ => rfl
  | v :: r, o, w => by
    rw [World.setCells, setCells_size b r (o + 1)]
    simp [World.setCell]
theorem below_setCells {B : Nat} {a : World} (b : Nat) (hb : B ≤ b) : ∀ (vs : List Value) (o : Nat) (w : World), Below B a w → Below B a (w.setCells b o vs)
  | [], _, _, h => h
  | v :: r, o, w, h => by
    rw [World.setCells]
    exact below_setCells b hb r (o + 1) _ (h.setCell (p := ⟨b, o, none⟩) hb v)
theorem heap_setCells_other (b j : Nat) (hj : j ≠ b) : ∀ (vs : List Value) (o : Nat) (w : World), (w.setCells b o vs).heap[j]? = w.heap[j]?
  | [], _, _ => rfl
  | v :: r, o, w => by
    rw [World.setCells, heap_setCells_other b j hj r (o + 1)]
    exact heap_setCell_other w ⟨b, o, none⟩ j v hj

/-- 'make([]T, n)' of any elements: all its cells are there. -/
theorem wpList_make_there {P : Program} (w : World) {ops : Array Oper} {rest : List Oper} {o : Oper} {a : Act} {Q : Exit → Act → World → Prop}
    (hg : o.guard = none) (l c : Operand) (t : TypeId) (hop : o.op = Op.makeSlice t l c)
    (e : TypeId) (i : TypeInfo) (z : Value) (size bytes : Nat) (h1 : P.underlying t = some (.slice e)) (h2 : P.info? e = some i) (h3 : i.zero = some z) (h4 : i.size = size) (h5 : i.bytes = bytes)
    (kl kc : IntKind) (N C : Int) (n : Nat) (hl : a.eval l = .int kl N) (hc : a.eval c = .int kc C) (hN : N = (n : Int)) (hC : C = (n : Int)) (b2 : bytes * n ≤ 140737488355328) (b3 : n ≤ 140737488355328)
    (hK : ∀ w', w'.there w.heap.size 0 (n * size) → Below w.heap.size w w' → w'.heap.size = w.heap.size + 1 → wpList P ops Q rest (a.put o.dst (.slice (some ⟨w.heap.size, 0, none⟩) n n)) w') :
    wpList P ops Q (o :: rest) a w := by
  refine wpList_plain hg fun K hK' => ?_
  have hb : ((i.bytes : Int) * C) ≤ 281474976710656 := by
    rw [h5, hC, ← Int.natCast_mul]
    omega
  have hr := run_make (P := P) w t e i _ h1 h2 h3 kl kc N C (by omega) (by omega) hb (by omega)
  subst hN; subst hC
  unfold Oper.wp
  simp only [execOp, hop, hl, hc, Sem.run_bind, hr, Result.andThen, Int.toNat_natCast, h4]
  refine hK' _ _ (hK _ (fun j hj => ?_) ((Below.refl _ w).alloc (Nat.le_refl _) _) (by simp))
  have hlt : 0 + j < (madeCells z.cells (n * size)).size := by rw [size_madeCells]; omega
  exact ⟨by rw [World.cell?_alloc_new, Array.getElem?_eq_getElem hlt]; rfl, World.frozen?_alloc_new w _ e _⟩

/-- Cells given as a list, stored in the midst of a block; loaded. -/
theorem wpList_store_list {P : Program} {ops : Array Oper} {rest : List Oper} {op : Oper} {a : Act} {w : World} {Q : Exit → Act → World → Prop} (hgd : op.guard = none) (ty : TypeId) (x y : Operand) (ho : op.op = .store ty x y)
    (b o : Nat) (cs : List Value) (hx : a.eval x = .pointer (some ⟨b, o, none⟩)) (hy : a.eval y = .agg cs.toArray)
    (ht : w.there b o cs.length) (hi : (P.info? ty).map (·.size) = some cs.length) (h1 : ∀ v ∈ cs, v.oneCell' = true)
    (h : wpList P ops Q rest (a.put op.dst undef) (w.setCells b o cs)) : wpList P ops Q (op :: rest) a w :=
  wpList_store_mid hgd ty x y ho b o cs.toArray hx hy (by simpa using ht) (by simpa using hi) (all_oneCell_toArray h1) h

end Go.Proofs.YtgococpbhbcpmaaDoor
