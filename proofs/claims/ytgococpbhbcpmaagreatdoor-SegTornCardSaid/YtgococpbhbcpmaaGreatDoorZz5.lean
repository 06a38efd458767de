/-
  Results that lie in a cell, beside one in a slot; a whole struct stored. No program stands here.
-/
import Derived.Test.YtgococpbhbcpmaaGreatDoorZz4
import Derived.Laws.ResultCell
import Derived.Deep.MidRow
import Derived.Laws.MakeOwn
import Derived.Lib.OthersKept
import Derived.Test.YtgococpbhbcpmaaGreatDoorZz1
import Derived.Laws.AppendOwn
namespace Go.Proofs.YtgococpbhbcpmaaGreatDoor
open Go.RowKit
set_option linter.unusedVariables false
set_option linter.unusedSimpArgs false

/-- Two results, the first a struct in a cell. -/
theorem ret_cell_tmp {P : Program} {fn : Func} {R : Ending → World → Prop} {a : Act} {w : World} {p q : Tmp} {ty : TypeId} (h : fn.results = #[.cell p ty, .tmp q]) (g : Nat) (t : TypeId) (cs : List Value)
    (hp : a.tmps.getD p undef = .pointer (some ⟨g, 0, none⟩)) (hg : Blk w g t cs) (fs : Array Field)
    (hu : P.underlying ty = some (.struct fs)) (hi : (P.info? ty).map (·.size) = some cs.length) (x : Value) (hx : a.tmps.getD q undef = x) (hd : a.defers = []) (hR : R (.returned (.tuple #[.agg cs.toArray, x])) w) : bodyPost P fn R .ret a w := by
  refine bodyPost_ret (v := .tuple #[.agg cs.toArray, x]) ?_ hd hR
  rw [results_cell_tmp h, hp]
  simp [asAddr, run_loadVar_row w g t ty cs.toArray (0, 0) _ hg hu rfl (by simpa using hi), Result.andThen]
  simpa using hx
/-- One result, a struct in a cell. -/
theorem ret_cell_one {P : Program} {fn : Func} {R : Ending → World → Prop} {a : Act} {w : World} {p : Tmp} {ty : TypeId} (h : fn.results = #[.cell p ty]) (g : Nat) (t : TypeId) (cs : List Value)
    (hp : a.tmps.getD p undef = .pointer (some ⟨g, 0, none⟩)) (hg : Blk w g t cs) (fs : Array Field)
    (hu : P.underlying ty = some (.struct fs)) (hi : (P.info? ty).map (·.size) = some cs.length) (hd : a.defers = []) (hR : R (.returned (.agg cs.toArray)) w) : bodyPost P fn R .ret a w :=
  bodyPost_ret (results_cell_row h _ w g t cs.toArray (0, 0) _ hp hg hu rfl (by simpa using hi)) hd hR

/-- What is owned stays owned where a whole row of another block is stored. -/
theorem own_setRow {w : World} {base : Nat} {e : TypeId} {size : Nat} {v : Value} {n : Nat} {xs : List Value} (h : w.ownsRow base e size v n xs) {g : Nat} (hg : g < base) (C : Array Value) : (w.setRow g C).ownsRow base e size v n xs := by
  refine h.kept (w' := w.setRow g C) (row := some g) ⟨rfl, rfl, rfl, by rw [size_setRow]; exact Nat.le_refl _, fun k hk hne => ?_⟩ ?_
  · unfold World.setRow
    show (w.heap.modify g _)[k]? = _
    rw [Array.getElem?_modify, if_neg (fun e => hne (by rw [e]))]
  · exact Or.inr fun e => by
      have := (h.lt g e).1
      omega

end Go.Proofs.YtgococpbhbcpmaaGreatDoor

/-
  Cells in the midst of a block: what keeps them; a slice of structs made. No program stands here.
-/
namespace Go.Proofs.YtgococpbhbcpmaaGreatDoor
open Go.RowKit
set_option linter.unusedVariables false
set_option linter.unusedSimpArgs false

/-- Each cell that is there stays as it is. -/
def Keeps (w w' : World) : Prop := w.heap.size ≤ w'.heap.size ∧ ∀ (a : Addr) (v : Value), w.cell? a = some v → w'.cell? a = some v
theorem Keeps.refl (w : World) : Keeps w w := ⟨Nat.le_refl _, fun _ _ h => h⟩
theorem Keeps.trans {a b c : World} (h : Keeps a b) (k : Keeps b c) : Keeps a c := ⟨Nat.le_trans h.1 k.1, fun p v e => k.2 p v (h.2 p v e)⟩
theorem keeps_below {w w' : World} (h : Below w.heap.size w w') : Keeps w w' := ⟨h.size, fun p v e => by rw [h.cell (block_lt_of_cell e)]; exact e⟩
theorem keeps_iterAt {w : World} {I : Nat} {s t : ByteArray} {p q : Nat} (hit : w.heap[I]? = some (.stringIter s p)) : Keeps w (w.iterAt I t q) := by
  refine ⟨by rw [Lib.iterAt_size]; exact Nat.le_refl _, fun a v h => ?_⟩
  by_cases ha : a.block = I
  · simp [World.cell?, ha, hit] at h
  · rw [World.cell?_of_block (w := w) (Lib.iterAt_other w I a.block t q ha)]
    exact h
theorem Byt.keeps {w w' : World} {B n : Nat} {A : Option Addr} {l : List UInt8} (h : Byt w B A n l) (hk : Keeps w w') : Byt w' B A n l :=
  ⟨h.1, fun hn => by
    obtain ⟨b, o, e, hb, hc⟩ := h.2 hn
    exact ⟨b, o, e, hb, fun j x hx => hk.2 _ _ (hc j x hx)⟩⟩
theorem rangeAt_keeps {w w' : World} {b o : Nat} {cs : List Value} (h : w.rangeAt b o cs) (hk : Keeps w w') : w'.rangeAt b o cs := fun j v hv => hk.2 _ _ (h j v hv)
theorem rangeAt_below {w w' : World} {B b o : Nat} {cs : List Value} (h : w.rangeAt b o cs) (hb : Below B w w') (hlt : b < B) : w'.rangeAt b o cs := fun j v hv => by
  rw [hb.cell (p := ⟨b, o + j, none⟩) hlt]
  exact h j v hv
theorem there_below {w w' : World} {B b o n : Nat} (h : w.there b o n) (hb : Below B w w') (hlt : b < B) : w'.there b o n := fun j hj => by
  rw [hb.cell (p := ⟨b, o + j, none⟩) hlt, hb.frozen (p := ⟨b, o + j, none⟩) hlt]
  exact h j hj
theorem there_iterAt {w : World} {I b o n : Nat} (h : w.there b o n) (hne : b ≠ I) (s : ByteArray) (q : Nat) : (w.iterAt I s q).there b o n := fun j hj => by
  rw [World.cell?_of_block (w := w) (a := ⟨b, o + j, none⟩) (Lib.iterAt_other w I b s q hne), World.frozen?_of_block (w := w) (a := ⟨b, o + j, none⟩) (Lib.iterAt_other w I b s q hne)]
  exact h j hj
theorem there_part {w : World} {b o n : Nat} (h : w.there b o n) (i m : Nat) (him : i + m ≤ n) : w.there b (o + i) m := fun j hj => by
  rw [Nat.add_assoc]
  exact h (i + j) (by omega)
theorem setCells_size (b : Nat) : ∀ (vs : List Value) (o : Nat) (w : World), (w.setCells b o vs).heap.size = w.heap.size
  | [], _, _ => rfl
  | v :: r, o, w => by
    rw [World.setCells, setCells_size b r (o + 1)]
    simp [World.setCell]
theorem below_setCells {B : Nat} {a : World} (b : Nat) (hb : B ≤ b) : ∀ (vs : List Value) (o : Nat) (w : World), Below B a w → Below B a (w.setCells b o vs)
  | [], _, _, h => h
  | v :: r, o, w, h => by
    rw [World.setCells]
    exact below_setCells b hb r (o + 1) _ (h.setCell (p := ⟨b, o, none⟩) hb v)
theorem heap_setCells_other (b j : Nat) (hj : j ≠ b) : ∀ (vs : List Value) (o : Nat) (w : World), (w.setCells b o vs).heap[j]? = w.heap[j]?
  | [], _, _ => rfl
  | v :: r, o, w => by
    rw [World.setCells, heap_setCells_other b j hj r (o + 1)]
    exact heap_setCell_other w ⟨b, o, none⟩ j v hj

/-- 'make([]T, n)' of any elements: all its cells are there. -/
theorem wpList_make_there {P : Program} (w : World) {ops : Array Oper} {rest : List Oper} {o : Oper} {a : Act} {Q : Exit → Act → World → Prop}
    (hg : o.guard = none) (l c : Operand) (t : TypeId) (hop : o.op = Op.makeSlice t l c)
    (e : TypeId) (i : TypeInfo) (z : Value) (size bytes : Nat) (h1 : P.underlying t = some (.slice e)) (h2 : P.info? e = some i) (h3 : i.zero = some z) (h4 : i.size = size) (h5 : i.bytes = bytes)
    (kl kc : IntKind) (N C : Int) (n : Nat) (hl : a.eval l = .int kl N) (hc : a.eval c = .int kc C) (hN : N = (n : Int)) (hC : C = (n : Int)) (b2 : bytes * n ≤ 140737488355328) (b3 : n ≤ 140737488355328)
    (hK : ∀ w', w'.there w.heap.size 0 (n * size) → Below w.heap.size w w' → w'.heap.size = w.heap.size + 1 → wpList P ops Q rest (a.put o.dst (.slice (some ⟨w.heap.size, 0, none⟩) n n)) w') :
    wpList P ops Q (o :: rest) a w := by
  refine wpList_plain hg fun K hK' => ?_
  have hb : ((i.bytes : Int) * C) ≤ 281474976710656 := by
    rw [h5, hC, ← Int.natCast_mul]
    omega
  have hr := run_make (P := P) w t e i _ h1 h2 h3 kl kc N C (by omega) (by omega) hb (by omega)
  subst hN; subst hC
  unfold Oper.wp
  simp only [execOp, hop, hl, hc, Sem.run_bind, hr, Result.andThen, Int.toNat_natCast, h4]
  refine hK' _ _ (hK _ (fun j hj => ?_) ((Below.refl _ w).alloc (Nat.le_refl _) _) (by simp))
  have hlt : 0 + j < (madeCells z.cells (n * size)).size := by rw [size_madeCells]; omega
  exact ⟨by rw [World.cell?_alloc_new, Array.getElem?_eq_getElem hlt]; rfl, World.frozen?_alloc_new w _ e _⟩

/-- Cells given as a list, stored in the midst of a block; loaded. -/
theorem wpList_store_list {P : Program} {ops : Array Oper} {rest : List Oper} {op : Oper} {a : Act} {w : World} {Q : Exit → Act → World → Prop} (hgd : op.guard = none) (ty : TypeId) (x y : Operand) (ho : op.op = .store ty x y)
    (b o : Nat) (cs : List Value) (hx : a.eval x = .pointer (some ⟨b, o, none⟩)) (hy : a.eval y = .agg cs.toArray)
    (ht : w.there b o cs.length) (hi : (P.info? ty).map (·.size) = some cs.length) (h1 : ∀ v ∈ cs, v.oneCell' = true)
    (h : wpList P ops Q rest (a.put op.dst undef) (w.setCells b o cs)) : wpList P ops Q (op :: rest) a w :=
  wpList_store_mid hgd ty x y ho b o cs.toArray hx hy (by simpa using ht) (by simpa using hi) (all_oneCell_toArray h1) h

end Go.Proofs.YtgococpbhbcpmaaGreatDoor

/-
  What turns at all: only blocks of a set, and new ones; bytes that lie off such a set. No program stands here.
-/
namespace Go.Proofs.YtgococpbhbcpmaaGreatDoor
open Go.RowKit
set_option linter.unusedVariables false
set_option linter.unusedSimpArgs false

/-- Of the blocks that are there only those of S turn. -/
structure Turn (S : Nat → Prop) (w w' : World) : Prop where
  os : w'.os = w.os
  tape : w'.tape = w.tape
  output : w'.output = w.output
  size : w.heap.size ≤ w'.heap.size
  block : ∀ k, k < w.heap.size → ¬ S k → w'.heap[k]? = w.heap[k]?
section
variable {S S' : Nat → Prop} {w w' w'' : World}
theorem Turn.refl (S : Nat → Prop) (w : World) : Turn S w w := ⟨rfl, rfl, rfl, Nat.le_refl _, fun _ _ _ => rfl⟩
theorem Turn.trans (h : Turn S w w') (k : Turn S w' w'') : Turn S w w'' :=
  ⟨k.os.trans h.os, k.tape.trans h.tape, k.output.trans h.output, Nat.le_trans h.size k.size, fun i hi hs => (k.block i (Nat.lt_of_lt_of_le hi h.size) hs).trans (h.block i hi hs)⟩
theorem Turn.of_below (h : Below w.heap.size w w') : Turn S w w' := ⟨h.os, h.tape, h.output, h.size, fun k hk _ => h.block k hk⟩
theorem Turn.mono (h : Turn S w w') (hs : ∀ k, S k → S' k) : Turn S' w w' := ⟨h.os, h.tape, h.output, h.size, fun k hk hn => h.block k hk fun e => hn (hs k e)⟩
theorem Turn.alloc (h : Turn S w w') (o : Obj) : Turn S w (w'.alloc o) := h.trans (Turn.of_below ((Below.refl _ w').alloc (Nat.le_refl _) o))
theorem Turn.drewN (h : Turn S w w') (q : Nat) : Turn S w (w'.drewN q) := ⟨h.os, h.tape, h.output, h.size, h.block⟩
theorem Turn.setCell (h : Turn S w w') {p : Addr} (hp : S p.block) (u : Value) : Turn S w (w'.setCell p u) := by
  refine ⟨h.os, h.tape, h.output, ?_, fun k hk hn => ?_⟩
  · have : (w'.setCell p u).heap.size = w'.heap.size := by simp [World.setCell]
    rw [this]; exact h.size
  · rw [heap_setCell_other w' p k u (fun e => hn (by rw [e]; exact hp))]
    exact h.block k hk hn
theorem Turn.cell (h : Turn S w w') {p : Addr} (hp : p.block < w.heap.size) (hs : ¬ S p.block) : w'.cell? p = w.cell? p := World.cell?_of_block (h.block p.block hp hs)
theorem Turn.at_ (h : Turn S w w') {p : Addr} {v : Value} (hc : w.cell? p = some v) (hs : ¬ S p.block) : w'.cell? p = some v := (h.cell (block_lt_of_cell hc) hs).trans hc
/-- Where only new blocks are of S, nothing that was there turns. -/
theorem Turn.below (h : Turn S w w') {B : Nat} (hB : B ≤ w.heap.size) (hs : ∀ k, S k → B ≤ k) : Below B w w' :=
  ⟨h.os, h.tape, h.output, h.size, fun k hk => h.block k (Nat.lt_of_lt_of_le hk hB) fun e => by have := hs k e; omega⟩
theorem Turn.blk {g : Nat} {t : TypeId} {cs : List Value} (h : Turn S w w') (hb : Blk w g t cs) (hs : ¬ S g) : Blk w' g t cs := (h.block g hb.lt hs).trans hb

/-- The slice value '.slice A n c' reads as the bytes l, off S. -/
def BytS (w : World) (S : Nat → Prop) (A : Option Addr) (n : Nat) (l : List UInt8) : Prop :=
  l.length = n ∧ (0 < n → ∃ b o, A = some ⟨b, o, none⟩ ∧ ¬ S b ∧ ∀ (j : Nat) (x : UInt8), l[j]? = some x → w.cell? ⟨b, o + j, none⟩ = some (.int .u8 ((x.toNat : Nat) : Int)))
theorem BytS.turn {A : Option Addr} {n : Nat} {l : List UInt8} (h : BytS w S A n l) (ht : Turn S w w') : BytS w' S A n l :=
  ⟨h.1, fun hn => by
    obtain ⟨b, o, e, hs, hc⟩ := h.2 hn
    exact ⟨b, o, e, hs, fun j x hx => ht.at_ (hc j x hx) hs⟩⟩
theorem BytS.less {A : Option Addr} {n : Nat} {l : List UInt8} (h : BytS w S A n l) (hs : ∀ k, S' k → S k) : BytS w S' A n l :=
  ⟨h.1, fun hn => by
    obtain ⟨b, o, e, hb, hc⟩ := h.2 hn
    exact ⟨b, o, e, fun x => hb (hs b x), hc⟩⟩
/-- More blocks to be off, none of which is there yet. -/
theorem BytS.more {A : Option Addr} {n : Nat} {l : List UInt8} (h : BytS w S A n l) (hs : ∀ k, S' k → k < w.heap.size → S k) : BytS w S' A n l :=
  ⟨h.1, fun hn => by
    obtain ⟨b, o, e, hb, hc⟩ := h.2 hn
    refine ⟨b, o, e, fun x => hb (hs b x ?_), hc⟩
    have hl : 0 < l.length := by have := h.1; omega
    exact block_lt_of_cell (hc 0 _ (List.getElem?_eq_getElem hl))⟩
theorem BytS.byt {A : Option Addr} {n : Nat} {l : List UInt8} (h : BytS w S A n l) : Byt w w.heap.size A n l :=
  ⟨h.1, fun hn => by
    obtain ⟨b, o, e, hb, hc⟩ := h.2 hn
    have hl : 0 < l.length := by have := h.1; omega
    exact ⟨b, o, e, block_lt_of_cell (hc 0 _ (List.getElem?_eq_getElem hl)), hc⟩⟩
theorem Byt.off {A : Option Addr} {n B : Nat} {l : List UInt8} (h : Byt w B A n l) (hs : ∀ k, S k → B ≤ k) : BytS w S A n l :=
  ⟨h.1, fun hn => by
    obtain ⟨b, o, e, hb, hc⟩ := h.2 hn
    exact ⟨b, o, e, fun x => by have := hs b x; omega, hc⟩⟩
theorem BytS.take {A : Option Addr} {n m : Nat} {l : List UInt8} (h : BytS w S A n l) (hm : m ≤ n) : BytS w S A m (l.take m) := by
  refine ⟨by rw [List.length_take, h.1]; omega, fun h0 => ?_⟩
  obtain ⟨b, o, e, hb, hc⟩ := h.2 (by omega)
  refine ⟨b, o, e, hb, fun j x hx => hc j x ?_⟩
  rw [List.getElem?_take] at hx
  split at hx
  · exact hx
  · cases hx
theorem BytS.nil {A : Option Addr} : BytS w S A 0 [] := ⟨rfl, fun h => absurd h (by omega)⟩
end

end Go.Proofs.YtgococpbhbcpmaaGreatDoor

/-
  Structs in memory by their parts: a part's value, a struct's cells, a slice of structs, a row of structs of the call's own. No program stands here.
-/
namespace Go.Proofs.YtgococpbhbcpmaaGreatDoor
open Go.RowKit
set_option linter.unusedVariables false
set_option linter.unusedSimpArgs false

/-- A part of a struct: a number, a text, bytes, a truth. -/
inductive Prt where
  | num (k : IntKind) (z : Int)
  | txt (l : List UInt8)
  | byt (l : List UInt8)
  | flag (b : Bool)
/-- The value of a part, its bytes off S. -/
def PrtV (w : World) (S : Nat → Prop) (v : Value) : Prt → Prop
  | .num k z => v = .int k z
  | .txt l => v = .string ⟨l.toArray⟩
  | .byt l => ∃ A n c, v = .slice A n c ∧ BytS w S A n l ∧ (A = none → n = 0 ∧ c = 0) ∧ n ≤ c ∧ c ≤ maxLen
  | .flag b => v = .bool b
/-- Cells that are parts, one behind the other. -/
def PrtsV (w : World) (S : Nat → Prop) : List Value → List Prt → Prop
  | xs, [] => xs = []
  | xs, p :: ps => ∃ v r, xs = v :: r ∧ PrtV w S v p ∧ PrtsV w S r ps
section
variable {w w' W : World} {S S' : Nat → Prop} {v : Value} {p : Prt} {B : Nat}
theorem PrtV.turn (h : PrtV w S v p) (ht : Turn S w w') : PrtV w' S v p := by
  cases p with
  | byt l =>
    obtain ⟨A, n, c, h1, h2, h3⟩ := h
    exact ⟨A, n, c, h1, h2.turn ht, h3⟩
  | _ => exact h
theorem PrtV.less (h : PrtV w S v p) (hs : ∀ k, S' k → S k) : PrtV w S' v p := by
  cases p with
  | byt l =>
    obtain ⟨A, n, c, h1, h2, h3⟩ := h
    exact ⟨A, n, c, h1, h2.less hs, h3⟩
  | _ => exact h
theorem PrtV.more (h : PrtV w S v p) (hs : ∀ k, S' k → k < w.heap.size → S k) : PrtV w S' v p := by
  cases p with
  | byt l =>
    obtain ⟨A, n, c, h1, h2, h3⟩ := h
    exact ⟨A, n, c, h1, h2.more hs, h3⟩
  | _ => exact h
/-- From one world behind W to another one. -/
theorem PrtV.side (h : PrtV w S v p) (hS : ∀ k, B ≤ k → S k) (h1 : Below B W w) (h2 : Below B W w') : PrtV w' S v p := by
  cases p with
  | byt l =>
    obtain ⟨A, n, c, e, hb, h3⟩ := h
    refine ⟨A, n, c, e, ⟨hb.1, fun hn => ?_⟩, h3⟩
    obtain ⟨b, o, e1, hs, hc⟩ := hb.2 hn
    have hlt : b < B := by
      rcases Nat.lt_or_ge b B with h | h
      · exact h
      · exact absurd (hS b h) hs
    exact ⟨b, o, e1, hs, fun j x hx => ((h2.cell (p := ⟨b, o + j, none⟩) hlt).trans (h1.cell (p := ⟨b, o + j, none⟩) hlt).symm).trans (hc j x hx)⟩
  | _ => exact h
theorem PrtV.one (h : PrtV w S v p) : v.oneCell' = true := by
  cases p with
  | byt l =>
    obtain ⟨A, n, c, h1, _⟩ := h
    rw [h1]; rfl
  | num k z => have h' : v = .int k z := h; rw [h']; rfl
  | txt l => have h' : v = .string ⟨l.toArray⟩ := h; rw [h']; rfl
  | flag b => have h' : v = .bool b := h; rw [h']; rfl
end

section
variable {w w' W : World} {S S' : Nat → Prop} {B : Nat}
theorem PrtsV.keep (hv : ∀ v p, PrtV w S v p → PrtV w' S' v p) : ∀ (ps : List Prt) (xs : List Value), PrtsV w S xs ps → PrtsV w' S' xs ps := by
  intro ps
  induction ps with
  | nil => intro xs h; exact h
  | cons p ps ih =>
    intro xs h
    obtain ⟨v, r, rfl, h1, h2⟩ := h
    exact ⟨v, r, rfl, hv _ _ h1, ih r h2⟩
theorem PrtsV.turn {ps : List Prt} {xs : List Value} (h : PrtsV w S xs ps) (ht : Turn S w w') : PrtsV w' S xs ps := PrtsV.keep (fun v p hv => hv.turn ht) ps xs h
theorem PrtsV.less {ps : List Prt} {xs : List Value} (h : PrtsV w S xs ps) (hs : ∀ k, S' k → S k) : PrtsV w S' xs ps := PrtsV.keep (fun v p hv => hv.less hs) ps xs h
theorem PrtsV.more {ps : List Prt} {xs : List Value} (h : PrtsV w S xs ps) (hs : ∀ k, S' k → k < w.heap.size → S k) : PrtsV w S' xs ps := PrtsV.keep (fun v p hv => hv.more hs) ps xs h
theorem PrtsV.side {ps : List Prt} {xs : List Value} (h : PrtsV w S xs ps) (hS : ∀ k, B ≤ k → S k) (h1 : Below B W w) (h2 : Below B W w') : PrtsV w' S xs ps := PrtsV.keep (fun v p hv => hv.side hS h1 h2) ps xs h
theorem PrtsV.len : ∀ (ps : List Prt) (xs : List Value), PrtsV w S xs ps → xs.length = ps.length := by
  intro ps
  induction ps with
  | nil => intro xs h; have h' : xs = [] := h; subst h'; rfl
  | cons p ps ih =>
    intro xs h
    obtain ⟨v, r, rfl, _, h2⟩ := h
    simp [ih r h2]
theorem PrtsV.one : ∀ (ps : List Prt) (xs : List Value), PrtsV w S xs ps → ∀ u ∈ xs, u.oneCell' = true := by
  intro ps
  induction ps with
  | nil => intro xs h u hu; have h' : xs = [] := h; subst h'; cases hu
  | cons p ps ih =>
    intro xs h u hu
    obtain ⟨v, r, rfl, h1, h2⟩ := h
    rcases List.mem_cons.1 hu with rfl | hu
    · exact h1.one
    · exact ih r h2 u hu
theorem PrtsV.append : ∀ (ps : List Prt) (xs : List Value) (qs : List Prt) (ys : List Value), PrtsV w S xs ps → PrtsV w S ys qs → PrtsV w S (xs ++ ys) (ps ++ qs) := by
  intro ps
  induction ps with
  | nil => intro xs qs ys h h2; have h' : xs = [] := h; subst h'; exact h2
  | cons p ps ih =>
    intro xs qs ys h h2
    obtain ⟨v, r, rfl, h1, h3⟩ := h
    exact ⟨v, r ++ ys, rfl, h1, ih r qs ys h3 h2⟩
theorem PrtsV.drop : ∀ (i : Nat) (ps : List Prt) (xs : List Value), PrtsV w S xs ps → PrtsV w S (xs.drop i) (ps.drop i) := by
  intro i
  induction i with
  | zero => intro ps xs h; exact h
  | succ i ih =>
    intro ps xs h
    cases ps with
    | nil => have h' : xs = [] := h; subst h'; exact rfl
    | cons p ps =>
      obtain ⟨v, r, rfl, _, h2⟩ := h
      exact ih ps r h2
theorem PrtsV.take : ∀ (i : Nat) (ps : List Prt) (xs : List Value), PrtsV w S xs ps → PrtsV w S (xs.take i) (ps.take i) := by
  intro i
  induction i with
  | zero => intro ps xs h; exact rfl
  | succ i ih =>
    intro ps xs h
    cases ps with
    | nil => have h' : xs = [] := h; subst h'; exact rfl
    | cons p ps =>
      obtain ⟨v, r, rfl, h1, h2⟩ := h
      exact ⟨v, r.take i, rfl, h1, ih ps r h2⟩
end

/-- Lists of one length, one behind the other: where the j-th one stands. -/
theorem flat_at {α : Type} {k : Nat} : ∀ (fs : List (List α)) (j : Nat) (f : List α), (∀ g ∈ fs, g.length = k) → fs[j]? = some f → (fs.flatten.drop (j * k)).take k = f := by
  intro fs
  induction fs with
  | nil => intro j f _ h; cases h
  | cons g fs ih =>
    intro j f hk h
    have hg := hk g List.mem_cons_self
    cases j with
    | zero =>
      have e : g = f := by simpa using h
      subst e
      simp [List.take_append, hg]
    | succ j =>
      have := ih j f (fun x hx => hk x (List.mem_cons_of_mem _ hx)) (by simpa using h)
      rw [List.flatten_cons, show (j + 1) * k = g.length + j * k by rw [hg, Nat.succ_mul]; omega, List.drop_append]
      simpa [List.drop_eq_nil_of_le] using this
theorem flat_len {α : Type} {k : Nat} : ∀ (fs : List (List α)), (∀ g ∈ fs, g.length = k) → fs.flatten.length = fs.length * k := by
  intro fs
  induction fs with
  | nil => intro _; simp
  | cons g fs ih =>
    intro hk
    have hg := hk g List.mem_cons_self
    have := ih fun x hx => hk x (List.mem_cons_of_mem _ hx)
    rw [List.flatten_cons, List.length_append, this, hg, List.length_cons, Nat.succ_mul]
    omega

/-- The slice value '.slice A n c' reads as the structs fs, k parts each, all of it off S. -/
def Sls (w : World) (S : Nat → Prop) (k : Nat) (A : Option Addr) (n : Nat) (fs : List (List Prt)) : Prop :=
  fs.length = n ∧ (∀ f ∈ fs, f.length = k) ∧ (0 < n → ∃ b o, A = some ⟨b, o, none⟩ ∧ ¬ S b ∧ b < w.heap.size ∧ ∀ (j : Nat) (f : List Prt), fs[j]? = some f → ∃ ys, PrtsV w S ys f ∧ ∀ (i : Nat) (y : Value), ys[i]? = some y → w.cell? ⟨b, o + j * k + i, none⟩ = some y)
section
variable {w w' W : World} {S S' : Nat → Prop} {k n : Nat} {A : Option Addr} {fs : List (List Prt)}
theorem Sls.nil : Sls w S k A 0 [] := ⟨rfl, fun _ h => (by cases h), fun h => absurd h (by omega)⟩
theorem Sls.turn (h : Sls w S k A n fs) (ht : Turn S w w') : Sls w' S k A n fs :=
  ⟨h.1, h.2.1, fun hn => by
    obtain ⟨b, o, e, hb, hl, hf⟩ := h.2.2 hn
    refine ⟨b, o, e, hb, Nat.lt_of_lt_of_le hl ht.size, fun j f hj => ?_⟩
    obtain ⟨ys, h1, h2⟩ := hf j f hj
    exact ⟨ys, h1.turn ht, fun i y hy => ht.at_ (h2 i y hy) hb⟩⟩
theorem Sls.less (h : Sls w S k A n fs) (hs : ∀ k, S' k → S k) : Sls w S' k A n fs :=
  ⟨h.1, h.2.1, fun hn => by
    obtain ⟨b, o, e, hb, hl, hf⟩ := h.2.2 hn
    refine ⟨b, o, e, fun x => hb (hs b x), hl, fun j f hj => ?_⟩
    obtain ⟨ys, h1, h2⟩ := hf j f hj
    exact ⟨ys, h1.less hs, h2⟩⟩
theorem Sls.more (h : Sls w S k A n fs) (hs : ∀ k, S' k → k < w.heap.size → S k) : Sls w S' k A n fs :=
  ⟨h.1, h.2.1, fun hn => by
    obtain ⟨b, o, e, hb, hl, hf⟩ := h.2.2 hn
    refine ⟨b, o, e, fun x => hb (hs b x hl), hl, fun j f hj => ?_⟩
    obtain ⟨ys, h1, h2⟩ := hf j f hj
    exact ⟨ys, h1.more hs, h2⟩⟩
theorem Sls.take (h : Sls w S k A n fs) {m : Nat} (hm : m ≤ n) : Sls w S k A m (fs.take m) := by
  refine ⟨by rw [List.length_take, h.1]; omega, fun f hf => h.2.1 f (List.mem_of_mem_take hf), fun h0 => ?_⟩
  obtain ⟨b, o, e, hb, hl, hf⟩ := h.2.2 (by omega)
  refine ⟨b, o, e, hb, hl, fun j f hj => hf j f ?_⟩
  rw [List.getElem?_take] at hj
  split at hj
  · exact hj
  · cases hj
/-- The j-th struct: where it stands, and its cells. -/
theorem Sls.at_ (h : Sls w S k A n fs) {j : Nat} {f : List Prt} (hj : fs[j]? = some f) : ∃ b o ys, A = some ⟨b, o, none⟩ ∧ ¬ S b ∧ b < w.heap.size ∧ PrtsV w S ys f ∧ f.length = k ∧ ∀ (i : Nat) (y : Value), ys[i]? = some y → w.cell? ⟨b, o + j * k + i, none⟩ = some y := by
  have hl := (List.getElem?_eq_some_iff.1 hj).1
  obtain ⟨b, o, e, hb, hl, hf⟩ := h.2.2 (by have := h.1; omega)
  obtain ⟨ys, h1, h2⟩ := hf j f hj
  exact ⟨b, o, ys, e, hb, hl, h1, h.2.1 f (List.mem_of_getElem? hj), h2⟩
theorem Sls.of_own {base c : Nat} {e : TypeId} {xs : List Value} (h : w.ownsRow base e k (.slice A n c) n xs) (hx : PrtsV w S xs fs.flatten) (hk : ∀ f ∈ fs, f.length = k) (hn : fs.length = n) (hS : ∀ k, S k → k < base ∨ w.heap.size ≤ k) : Sls w S k A n fs := by
  refine ⟨hn, hk, fun h0 => ?_⟩
  have hlt := h.lt
  have h1 : xs.length = n * k := h.1
  rcases h.2 with ⟨_, h0'⟩ | ⟨g, cap, cur, hv, _, hh, _⟩
  · omega
  · injection hv with hA
    subst hA
    refine ⟨g, 0, rfl, fun x => by have h2 := hlt g rfl; have h3 := hS g x; omega, (hlt g rfl).2, fun j f hj => ?_⟩
    have hf := flat_at fs j f hk hj
    have hp := PrtsV.take k _ _ (PrtsV.drop (j * k) _ _ hx)
    rw [hf] at hp
    refine ⟨_, hp, fun i y hy => ?_⟩
    rw [List.getElem?_take] at hy
    split at hy
    · rw [List.getElem?_drop] at hy
      have := h.cells (g := g) rfl _ y hy
      rw [Addr.add_lit] at this
      rw [Nat.add_assoc]
      exact this
    · cases hy
end

/-- One struct appended to a row of the call's own; the walk has just laid it in a block of its own; what turned. -/
theorem wpList_append_prt2 {P : Program} {ops : Array Oper} {rest : List Oper} {o : Oper} {a : Act} {Q : Exit → Act → World → Prop} {wr W0 : World} {B0 : Nat} {S : Nat → Prop} (ob : TypeId) (hgd : o.guard = none) (s x : Operand) (t : TypeId)
    (ho : o.op = .call { callee := .builtin .append, args := #[s, x], argTypes := #[t, t] }) (e : TypeId) (i : TypeInfo) (z : Value) (k nb : Nat) (ht : P.underlying t = some (.slice e)) (hi : P.info? e = some i) (hz : i.zero = some z) (hsize : i.size = k) (hby : i.bytes = nb) (hzs : z.cells.size = k) (hk : 0 < k) (hnb : nb ≤ 1000)
    (v : Value) (gs : List (List Prt)) (xs : List Value) (hs : a.eval s = v) (hown : wr.ownsRow B0 e k v gs.length xs) (hx : PrtsV wr S xs gs.flatten) (hb : Below B0 W0 wr) (hB0 : B0 ≤ wr.heap.size) (hS : ∀ k, B0 ≤ k → S k)
    (cs : List Value) (f : List Prt) (hv : PrtsV wr S cs f) (hf : f.length = k) (hxe : a.eval x = .slice (some ⟨wr.heap.size, 0, none⟩) 1 1) (hn : gs.length ≤ 1000000)
    (h : ∀ v' w', (w'.ownsRow B0 e k v' (gs ++ [f]).length (xs ++ cs) ∧ PrtsV w' S (xs ++ cs) (gs ++ [f]).flatten ∧ Below B0 W0 w' ∧ B0 ≤ w'.heap.size ∧ (wr.alloc (.cells cs.toArray ob)).grownBy w' v.ownBlock) → wpList P ops Q rest (a.put o.dst v') w') : wpList P ops Q (o :: rest) a (wr.alloc (.cells cs.toArray ob)) := by
  have hcs := PrtsV.len f cs hv
  refine wpList_append_own _ hgd s x t ho B0 e i z k nb ht hi hz hsize hby hzs hk v gs.length xs hs (hown.alloc _) ⟨wr.heap.size, 0, none⟩ 1 1 cs hxe (by rw [hcs, hf, Nat.one_mul]) ?_ ?_ (by unfold maxLen; omega) ?_ (by simp; omega) ?_
  · intro j y hy
    rw [Addr.add_lit, Nat.zero_add, World.cell?_alloc_new]
    simpa using hy
  · exact PrtsV.one f cs hv
  · exact Nat.le_trans (Nat.mul_le_mul_left _ hnb) (by omega)
  · intro v' w' hown' hgrow _
    have hb' : Below B0 W0 w' := (hb.alloc hB0 _).grown hgrow (by simp; omega) (fun q hq => (hown.lt q hq).1)
    refine h v' w' ⟨by rw [List.length_append]; exact hown', ?_, hb', ?_, hgrow⟩
    · rw [List.flatten_append]
      refine PrtsV.append _ _ _ _ (hx.side hS hb hb') ?_
      simpa using hv.side hS hb hb'
    have h1 := hgrow.size
    simp at h1
    omega

/-- One struct appended to a row of the call's own; the walk has just laid it in a block of its own. -/
theorem wpList_append_prt {P : Program} {ops : Array Oper} {rest : List Oper} {o : Oper} {a : Act} {Q : Exit → Act → World → Prop} {wr W0 : World} {B0 : Nat} {S : Nat → Prop} (ob : TypeId) (hgd : o.guard = none) (s x : Operand) (t : TypeId)
    (ho : o.op = .call { callee := .builtin .append, args := #[s, x], argTypes := #[t, t] }) (e : TypeId) (i : TypeInfo) (z : Value) (k nb : Nat) (ht : P.underlying t = some (.slice e)) (hi : P.info? e = some i) (hz : i.zero = some z) (hsize : i.size = k) (hby : i.bytes = nb) (hzs : z.cells.size = k) (hk : 0 < k) (hnb : nb ≤ 1000)
    (v : Value) (gs : List (List Prt)) (xs : List Value) (hs : a.eval s = v) (hown : wr.ownsRow B0 e k v gs.length xs) (hx : PrtsV wr S xs gs.flatten) (hb : Below B0 W0 wr) (hB0 : B0 ≤ wr.heap.size) (hS : ∀ k, B0 ≤ k → S k)
    (cs : List Value) (f : List Prt) (hv : PrtsV wr S cs f) (hf : f.length = k) (hxe : a.eval x = .slice (some ⟨wr.heap.size, 0, none⟩) 1 1) (hn : gs.length ≤ 1000000)
    (h : ∀ v' w', (w'.ownsRow B0 e k v' (gs ++ [f]).length (xs ++ cs) ∧ PrtsV w' S (xs ++ cs) (gs ++ [f]).flatten ∧ Below B0 W0 w' ∧ B0 ≤ w'.heap.size) → wpList P ops Q rest (a.put o.dst v') w') : wpList P ops Q (o :: rest) a (wr.alloc (.cells cs.toArray ob)) :=
  wpList_append_prt2 ob hgd s x t ho e i z k nb ht hi hz hsize hby hzs hk hnb v gs xs hs hown hx hb hB0 hS cs f hv hf hxe hn fun v' w' hh => h v' w' ⟨hh.1, hh.2.1, hh.2.2.1, hh.2.2.2.1⟩

end Go.Proofs.YtgococpbhbcpmaaGreatDoor
