/-
  What turns at all: only blocks of a set, and new ones; bytes that lie off such a set. No program stands here.
-/
import Derived.Test.YtikghnbhbehepaaZz1
import Derived.Laws.AppendOwn
import Derived.Lib.OthersKept
import Derived.Laws.RangeString
import Derived.Laws.RangeAny
import Derived.BigCall
import Derived.Shelf.Abstract
import Derived.BigGuard
namespace Go.Proofs.Ytikghnbhbehepaa
open Go.RowKit
set_option linter.unusedVariables false
set_option linter.unusedSimpArgs false

/-- Of the blocks that are there only those of S turn. -/
structure Turn (S : Nat → Prop) (w w' : World) : Prop where
  os : w'.os = w.os
  tape : w'.tape = w.tape
  output : w'.output = w.output
  size : w.heap.size ≤ w'.heap.size
  block : ∀ k, k < w.heap.size → ¬ S k → w'.heap[k]? = w.heap[k]?
section
variable {S S' : Nat → Prop} {w w' w'' : World}
theorem Turn.refl (S : Nat → Prop) (w : World) : Turn S w w := ⟨rfl, rfl, rfl, Nat.le_refl _, fun _ _ _ => rfl⟩
theorem Turn.trans (h : Turn S w w') (k : Turn S w' w'') : Turn S w w'' :=
  ⟨k.os.trans h.os, k.tape.trans h.tape, k.output.trans h.output, Nat.le_trans h.size k.size, fun i hi hs => (k.block i (Nat.lt_of_lt_of_le hi h.size) hs).trans (h.block i hi hs)⟩
theorem Turn.of_below (h : Below w.heap.size w w') : Turn S w w' := ⟨h.os, h.tape, h.output, h.size, fun k hk _ => h.block k hk⟩
theorem Turn.mono (h : Turn S w w') (hs : ∀ k, S k → S' k) : Turn S' w w' := ⟨h.os, h.tape, h.output, h.size, fun k hk hn => h.block k hk fun e => hn (hs k e)⟩
theorem Turn.alloc (h : Turn S w w') (o : Obj) : Turn S w (w'.alloc o) := h.trans (Turn.of_below ((Below.refl _ w').alloc (Nat.le_refl _) o))
theorem Turn.drewN (h : Turn S w w') (q : Nat) : Turn S w (w'.drewN q) := ⟨h.os, h.tape, h.output, h.size, h.block⟩
theorem Turn.setCell (h : Turn S w w') {p : Addr} (hp : S p.block) (u : Value) : Turn S w (w'.setCell p u) := by
  refine ⟨h.os, h.tape, h.output, ?_, fun k hk hn => ?_⟩
  · have : (w'.setCell p u).heap.size = w'.heap.size := by simp [World.setCell]
    rw [this]; exact h.size
  · rw [heap_setCell_other w' p k u (fun e => hn (by rw [e]; exact hp))]
    exact h.block k hk hn
theorem Turn.cell (h : Turn S w w') {p : Addr} (hp : p.block < w.heap.size) (hs : ¬ S p.block) : w'.cell? p = w.cell? p := World.cell?_of_block (h.block p.block hp hs)
theorem Turn.at_ (h : Turn S w w') {p : Addr} {v : Value} (hc : w.cell? p = some v) (hs : ¬ S p.block) : w'.cell? p = some v := (h.cell (block_lt_of_cell hc) hs).trans hc
/-- Where only new blocks are of S, nothing that was there turns. -/
theorem Turn.below (h : Turn S w w') {B : Nat} (hB : B ≤ w.heap.size) (hs : ∀ k, S k → B ≤ k) : Below B w w' :=
  ⟨h.os, h.tape, h.output, h.size, fun k hk => h.block k (Nat.lt_of_lt_of_le hk hB) fun e => by have := hs k e; omega⟩
theorem Turn.blk {g : Nat} {t : TypeId} {cs : List Value} (h : Turn S w w') (hb : Blk w g t cs) (hs : ¬ S g) : Blk w' g t cs := (h.block g hb.lt hs).trans hb

/-- The slice value '.slice A n c' reads as the bytes l, off S. -/
def BytS (w : World) (S : Nat → Prop) (A : Option Addr) (n : Nat) (l : List UInt8) : Prop :=
  l.length = n ∧ (0 < n → ∃ b o, A = some ⟨b, o, none⟩ ∧ ¬ S b ∧ ∀ (j : Nat) (x : UInt8), l[j]? = some x → w.cell? ⟨b, o + j, none⟩ = some (.int .u8 ((x.toNat : Nat) : Int)))
theorem BytS.turn {A : Option Addr} {n : Nat} {l : List UInt8} (h : BytS w S A n l) (ht : Turn S w w') : BytS w' S A n l :=
  ⟨h.1, fun hn => by
    obtain ⟨b, o, e, hs, hc⟩ := h.2 hn
    exact ⟨b, o, e, hs, fun j x hx => ht.at_ (hc j x hx) hs⟩⟩
theorem BytS.less {A : Option Addr} {n : Nat} {l : List UInt8} (h : BytS w S A n l) (hs : ∀ k, S' k → S k) : BytS w S' A n l :=
  ⟨h.1, fun hn => by
    obtain ⟨b, o, e, hb, hc⟩ := h.2 hn
    exact ⟨b, o, e, fun x => hb (hs b x), hc⟩⟩
/-- More blocks to be off, none of which is there yet. -/
theorem BytS.more {A : Option Addr} {n : Nat} {l : List UInt8} (h : BytS w S A n l) (hs : ∀ k, S' k → k < w.heap.size → S k) : BytS w S' A n l :=
  ⟨h.1, fun hn => by
    obtain ⟨b, o, e, hb, hc⟩ := h.2 hn
    refine ⟨b, o, e, fun x => hb (hs b x ?_), hc⟩
    have hl : 0 < l.length := by have := h.1; omega
    exact block_lt_of_cell (hc 0 _ (List.getElem?_eq_getElem hl))⟩
theorem BytS.byt {A : Option Addr} {n : Nat} {l : List UInt8} (h : BytS w S A n l) : Byt w w.heap.size A n l :=
  ⟨h.1, fun hn => by
    obtain ⟨b, o, e, hb, hc⟩ := h.2 hn
    have hl : 0 < l.length := by have := h.1; omega
    exact ⟨b, o, e, block_lt_of_cell (hc 0 _ (List.getElem?_eq_getElem hl)), hc⟩⟩
theorem Byt.off {A : Option Addr} {n B : Nat} {l : List UInt8} (h : Byt w B A n l) (hs : ∀ k, S k → B ≤ k) : BytS w S A n l :=
  ⟨h.1, fun hn => by
    obtain ⟨b, o, e, hb, hc⟩ := h.2 hn
    exact ⟨b, o, e, fun x => by have := hs b x; omega, hc⟩⟩
theorem BytS.take {A : Option Addr} {n m : Nat} {l : List UInt8} (h : BytS w S A n l) (hm : m ≤ n) : BytS w S A m (l.take m) := by
  refine ⟨by rw [List.length_take, h.1]; omega, fun h0 => ?_⟩
  obtain ⟨b, o, e, hb, hc⟩ := h.2 (by omega)
  refine ⟨b, o, e, hb, fun j x hx => hc j x ?_⟩
  rw [List.getElem?_take] at hx
  split at hx
  · exact hx
  · cases hx
theorem BytS.nil {A : Option Addr} : BytS w S A 0 [] := ⟨rfl, fun h => absurd h (by omega)⟩
end

end Go.Proofs.Ytikghnbhbehepaa

/-
  Files in memory: a file's value, a slice of files, a row of files of the call's own. No program stands here.
-/
namespace Go.Proofs.Ytikghnbhbehepaa
open Go.RowKit
set_option linter.unusedVariables false
set_option linter.unusedSimpArgs false

/-- A file: its name, its bytes, how many of them are sure. -/
structure Fl where
  name : List UInt8
  data : List UInt8
  sure : Nat

/-- The value of a file, its bytes off S. -/
def FlV (w : World) (S : Nat → Prop) (v : Value) (f : Fl) : Prop :=
  ∃ A n c, v = .agg #[.string ⟨f.name.toArray⟩, .slice A n c, .int .i64 ((f.sure : Nat) : Int)] ∧ BytS w S A n f.data ∧ (A = none → n = 0 ∧ c = 0) ∧ n ≤ c ∧ c ≤ maxLen
section
variable {w w' W : World} {S S' : Nat → Prop} {v : Value} {f : Fl} {B : Nat}
theorem FlV.turn (h : FlV w S v f) (ht : Turn S w w') : FlV w' S v f := by
  obtain ⟨A, n, c, h1, h2, h3⟩ := h
  exact ⟨A, n, c, h1, h2.turn ht, h3⟩
theorem FlV.less (h : FlV w S v f) (hs : ∀ k, S' k → S k) : FlV w S' v f := by
  obtain ⟨A, n, c, h1, h2, h3⟩ := h
  exact ⟨A, n, c, h1, h2.less hs, h3⟩
theorem FlV.more (h : FlV w S v f) (hs : ∀ k, S' k → k < w.heap.size → S k) : FlV w S' v f := by
  obtain ⟨A, n, c, h1, h2, h3⟩ := h
  exact ⟨A, n, c, h1, h2.more hs, h3⟩
/-- From one world behind W to another one. -/
theorem FlV.side (h : FlV w S v f) (hS : ∀ k, B ≤ k → S k) (h1 : Below B W w) (h2 : Below B W w') : FlV w' S v f := by
  obtain ⟨A, n, c, e, hb, h3⟩ := h
  refine ⟨A, n, c, e, ⟨hb.1, fun hn => ?_⟩, h3⟩
  obtain ⟨b, o, e1, hs, hc⟩ := hb.2 hn
  have hlt : b < B := by
    rcases Nat.lt_or_ge b B with h | h
    · exact h
    · exact absurd (hS b h) hs
  exact ⟨b, o, e1, hs, fun j x hx => ((h2.cell (p := ⟨b, o + j, none⟩) hlt).trans (h1.cell (p := ⟨b, o + j, none⟩) hlt).symm).trans (hc j x hx)⟩
theorem flV_cells (h : FlV w S v f) : ∃ cs : List Value, v = .agg cs.toArray ∧ cs.length = 3 ∧ ∀ u ∈ cs, u.oneCell' = true := by
  obtain ⟨A, n, c, rfl, _⟩ := h
  exact ⟨[_, _, _], rfl, rfl, by simp [Value.oneCell']⟩
end

/-- Cells that are files, one behind the other. -/
def Fx (w : World) (S : Nat → Prop) : List Value → List Fl → Prop
  | xs, [] => xs = []
  | xs, f :: fs => ∃ a b c r, xs = a :: b :: c :: r ∧ FlV w S (.agg #[a, b, c]) f ∧ Fx w S r fs
theorem Fx.keep {w w' : World} {S S' : Nat → Prop} (hv : ∀ v f, FlV w S v f → FlV w' S' v f) : ∀ (fs : List Fl) (xs : List Value), Fx w S xs fs → Fx w' S' xs fs := by
  intro fs
  induction fs with
  | nil => intro xs h; exact h
  | cons f fs ih =>
    intro xs h
    obtain ⟨a, b, c, r, rfl, h1, h2⟩ := h
    exact ⟨a, b, c, r, rfl, hv _ _ h1, ih r h2⟩
theorem Fx.drewN {w : World} {S : Nat → Prop} {fs : List Fl} {xs : List Value} (h : Fx w S xs fs) (q : Nat) : Fx (w.drewN q) S xs fs := Fx.keep (w := w) (w' := w.drewN q) (fun v f hv => hv) fs xs h
theorem Fx.turn {w w' : World} {S : Nat → Prop} {fs : List Fl} {xs : List Value} (h : Fx w S xs fs) (ht : Turn S w w') : Fx w' S xs fs := Fx.keep (fun v f hv => hv.turn ht) fs xs h
theorem Fx.less {w : World} {S S' : Nat → Prop} {fs : List Fl} {xs : List Value} (h : Fx w S xs fs) (hs : ∀ k, S' k → S k) : Fx w S' xs fs := Fx.keep (fun v f hv => hv.less hs) fs xs h
theorem Fx.side {w w' W : World} {S : Nat → Prop} {B : Nat} {fs : List Fl} {xs : List Value} (h : Fx w S xs fs) (hS : ∀ k, B ≤ k → S k) (h1 : Below B W w) (h2 : Below B W w') : Fx w' S xs fs := Fx.keep (fun v f hv => hv.side hS h1 h2) fs xs h
theorem Fx.len {w : World} {S : Nat → Prop} : ∀ (fs : List Fl) (xs : List Value), Fx w S xs fs → xs.length = fs.length * 3 := by
  intro fs
  induction fs with
  | nil => intro xs h; have h' : xs = [] := h; subst h'; rfl
  | cons f fs ih =>
    intro xs h
    obtain ⟨a, b, c, r, rfl, h1, h2⟩ := h
    have := ih r h2
    simp only [List.length_cons]
    omega
theorem Fx.snoc {w : World} {S : Nat → Prop} {f : Fl} {a b c : Value} (hf : FlV w S (.agg #[a, b, c]) f) : ∀ (fs : List Fl) (xs : List Value), Fx w S xs fs → Fx w S (xs ++ [a, b, c]) (fs ++ [f]) := by
  intro fs
  induction fs with
  | nil =>
    intro xs h
    have h' : xs = [] := h
    subst h'
    exact ⟨a, b, c, [], rfl, hf, rfl⟩
  | cons g fs ih =>
    intro xs h
    obtain ⟨p, q, s, r, rfl, h1, h2⟩ := h
    exact ⟨p, q, s, r ++ [a, b, c], rfl, h1, ih r h2⟩
theorem Fx.at_ {w : World} {S : Nat → Prop} : ∀ (fs : List Fl) (xs : List Value) (j : Nat) (f : Fl), Fx w S xs fs → fs[j]? = some f → ∃ a b c, xs[j * 3]? = some a ∧ xs[j * 3 + 1]? = some b ∧ xs[j * 3 + 2]? = some c ∧ FlV w S (.agg #[a, b, c]) f := by
  intro fs
  induction fs with
  | nil => intro xs j f _ h; cases h
  | cons g fs ih =>
    intro xs j f h hj
    obtain ⟨p, q, s, r, rfl, h1, h2⟩ := h
    cases j with
    | zero =>
      have : g = f := by simpa using hj
      subst this
      exact ⟨p, q, s, rfl, rfl, rfl, h1⟩
    | succ j =>
      obtain ⟨a, b, c, e0, e1, e2, hv⟩ := ih r j f h2 (by simpa using hj)
      refine ⟨a, b, c, ?_, ?_, ?_, hv⟩
      · rw [show (j + 1) * 3 = j * 3 + 1 + 1 + 1 by omega]; simpa using e0
      · rw [show (j + 1) * 3 + 1 = j * 3 + 1 + 1 + 1 + 1 by omega]; simpa using e1
      · rw [show (j + 1) * 3 + 2 = j * 3 + 2 + 1 + 1 + 1 by omega]; simpa using e2

/-- The slice value '.slice A n c' reads as the files fs, all of it off S. -/
def Fls (w : World) (S : Nat → Prop) (A : Option Addr) (n : Nat) (fs : List Fl) : Prop :=
  fs.length = n ∧ (0 < n → ∃ b o, A = some ⟨b, o, none⟩ ∧ ¬ S b ∧ ∀ (j : Nat) (f : Fl), fs[j]? = some f → ∃ y0 y1 y2, w.cell? ⟨b, o + j * 3, none⟩ = some y0 ∧ w.cell? ⟨b, o + j * 3 + 1, none⟩ = some y1 ∧ w.cell? ⟨b, o + j * 3 + 2, none⟩ = some y2 ∧ FlV w S (.agg #[y0, y1, y2]) f)
theorem Fls.nil {w : World} {S : Nat → Prop} {A : Option Addr} : Fls w S A 0 [] := ⟨rfl, fun h => absurd h (by omega)⟩
theorem Fls.turn {w w' : World} {S : Nat → Prop} {n : Nat} {A : Option Addr} {fs : List Fl} (h : Fls w S A n fs) (ht : Turn S w w') : Fls w' S A n fs :=
  ⟨h.1, fun hn => by
    obtain ⟨b, o, e, hb, hf⟩ := h.2 hn
    refine ⟨b, o, e, hb, fun j f hj => ?_⟩
    obtain ⟨y0, y1, y2, h0, h1, h2, hv⟩ := hf j f hj
    exact ⟨y0, y1, y2, ht.at_ h0 hb, ht.at_ h1 hb, ht.at_ h2 hb, hv.turn ht⟩⟩
theorem Fls.less {w : World} {S S' : Nat → Prop} {n : Nat} {A : Option Addr} {fs : List Fl} (h : Fls w S A n fs) (hs : ∀ k, S' k → S k) : Fls w S' A n fs :=
  ⟨h.1, fun hn => by
    obtain ⟨b, o, e, hb, hf⟩ := h.2 hn
    refine ⟨b, o, e, fun x => hb (hs b x), fun j f hj => ?_⟩
    obtain ⟨y0, y1, y2, h0, h1, h2, hv⟩ := hf j f hj
    exact ⟨y0, y1, y2, h0, h1, h2, hv.less hs⟩⟩
theorem Fls.more {w : World} {S S' : Nat → Prop} {n : Nat} {A : Option Addr} {fs : List Fl} (h : Fls w S A n fs) (hs : ∀ k, S' k → k < w.heap.size → S k) : Fls w S' A n fs :=
  ⟨h.1, fun hn => by
    obtain ⟨b, o, e, hb, hf⟩ := h.2 hn
    have hb2 : ¬ S' b := fun x => hb (hs b x (by
      obtain ⟨y0, _, _, h0, _⟩ := hf 0 _ (List.getElem?_eq_getElem (by have := h.1; omega))
      exact block_lt_of_cell h0))
    refine ⟨b, o, e, hb2, fun j f hj => ?_⟩
    obtain ⟨y0, y1, y2, h0, h1, h2, hv⟩ := hf j f hj
    exact ⟨y0, y1, y2, h0, h1, h2, hv.more hs⟩⟩
theorem Fls.of_own {w : World} {base n c : Nat} {e : TypeId} {S : Nat → Prop} {A : Option Addr} {xs : List Value} {fs : List Fl} (h : w.ownsRow base e 3 (.slice A n c) n xs) (hx : Fx w S xs fs) (hS : ∀ k, S k → k < base) : Fls w S A n fs := by
  have hl := Fx.len fs xs hx
  have h1 : xs.length = n * 3 := h.1
  refine ⟨by omega, fun hn => ?_⟩
  have hlt := h.lt
  rcases h.2 with ⟨_, h0⟩ | ⟨g, cap, cur, hv, _, hh, _⟩
  · omega
  · injection hv with hA
    subst hA
    refine ⟨g, 0, rfl, fun x => by have h2 := (hlt g rfl).1; have h3 := hS g x; omega, fun j f hj => ?_⟩
    obtain ⟨a, b, c, e0, e1, e2, hf⟩ := Fx.at_ fs xs j f hx hj
    have hc : ∀ i u, xs[i]? = some u → w.cell? ⟨g, 0 + i, none⟩ = some u := fun i u hu => by
      have := h.cells (g := g) rfl i u hu
      rw [Addr.add_lit] at this
      exact this
    exact ⟨a, b, c, hc _ _ e0, hc _ _ e1, hc _ _ e2, hf⟩

/-- A slice that is owned has a spelling, whatever its elements. -/
theorem own_formk {w : World} {base k n : Nat} {e : TypeId} {v : Value} {xs : List Value} (h : w.ownsRow base e k v n xs) : ∃ A c, v = .slice A n c ∧ (A = none → n = 0 ∧ c = 0) ∧ n ≤ c ∧ c ≤ maxLen := by
  rcases h.2 with ⟨rfl, rfl⟩ | ⟨g, cap, cur, rfl, _, _, hn, hm, _⟩
  · exact ⟨none, 0, rfl, fun _ => ⟨rfl, rfl⟩, Nat.le_refl _, Nat.zero_le _⟩
  · exact ⟨_, cap, rfl, (fun h => by cases h), hn, hm⟩
/-- One file appended to a row of the call's own; the walk has just laid it in a block of its own. -/
theorem wpList_append_fl {P : Program} {ops : Array Oper} {rest : List Oper} {o : Oper} {a : Act} {Q : Exit → Act → World → Prop} {wr W0 : World} {B0 : Nat} {S : Nat → Prop} (ob : TypeId) (hgd : o.guard = none) (s x : Operand) (t : TypeId)
    (ho : o.op = .call { callee := .builtin .append, args := #[s, x], argTypes := #[t, t] }) (e : TypeId) (i : TypeInfo) (z : Value) (ht : P.underlying t = some (.slice e)) (hi : P.info? e = some i) (hz : i.zero = some z) (hsize : i.size = 3) (hby : i.bytes = 48) (hzs : z.cells.size = 3)
    (v : Value) (gs : List Fl) (xs : List Value) (hs : a.eval s = v) (hown : wr.ownsRow B0 e 3 v gs.length xs) (hx : Fx wr S xs gs) (hb : Below B0 W0 wr) (hB0 : B0 ≤ wr.heap.size) (hS : ∀ k, B0 ≤ k → S k)
    (p q r : Value) (f : Fl) (hv : FlV wr S (.agg #[p, q, r]) f) (hxe : a.eval x = .slice (some ⟨wr.heap.size, 0, none⟩) 1 1) (hn : gs.length ≤ 1000000)
    (h : ∀ v' w', (w'.ownsRow B0 e 3 v' (gs ++ [f]).length (xs ++ [p, q, r]) ∧ Fx w' S (xs ++ [p, q, r]) (gs ++ [f]) ∧ Below B0 W0 w' ∧ B0 ≤ w'.heap.size) → wpList P ops Q rest (a.put o.dst v') w') : wpList P ops Q (o :: rest) a (wr.alloc (.cells #[p, q, r] ob)) := by
  refine wpList_append_own _ hgd s x t ho B0 e i z 3 48 ht hi hz hsize hby hzs (by decide) v gs.length xs hs (hown.alloc _) ⟨wr.heap.size, 0, none⟩ 1 1 [p, q, r] hxe rfl ?_ ?_ (by unfold maxLen; omega) (by omega) (by simp; omega) ?_
  · intro j y hy
    rw [Addr.add_lit, Nat.zero_add, World.cell?_alloc_new]
    simpa using hy
  · intro u hu
    obtain ⟨cs, e1, _, h1⟩ := flV_cells hv
    have e2 : [p, q, r] = cs := by
      have := congrArg (fun v => match v with | Value.agg c => c.toList | _ => []) e1
      simpa using this
    exact h1 u (by rw [← e2]; exact hu)
  · intro v' w' hown' hgrow _
    have hb' : Below B0 W0 w' := (hb.alloc hB0 _).grown hgrow (by simp; omega) (fun q hq => (hown.lt q hq).1)
    refine h v' w' ⟨by rw [List.length_append]; exact hown', Fx.snoc (hv.side hS hb hb') _ _ (hx.side hS hb hb'), hb', ?_⟩
    have h1 := hgrow.size
    simp at h1
    omega

end Go.Proofs.Ytikghnbhbehepaa

/-
  Arithmetic of names: which runes a name, digits and a line have; a rune that is read of bytes. No program stands here.
-/
namespace Go.Proofs.Ytikghnbhbehepaa
open Go.RowKit
set_option linter.unusedVariables false
set_option linter.unusedSimpArgs false

def letR (r : Int) : Bool := decide (97 ≤ r) && decide (r ≤ 122)
def digR (r : Int) : Bool := decide (48 ≤ r) && decide (r ≤ 57)
def tenR (r : Int) : Bool := letR r || digR r || decide (r = 45)
def tarR (r : Int) : Bool := tenR r || decide (r = 46) || decide (r = 58)
def hexR (r : Int) : Bool := digR r || (decide (97 ≤ r) && decide (r ≤ 102))
/-- Whether each byte, taken as a rune, is one of p's. -/
def allR (p : Int → Bool) (l : List UInt8) : Bool := l.all fun b => p ((b.toNat : Nat) : Int)
theorem letR_high (r : Int) (h : 128 ≤ r) : letR r = false := by simp [letR]; omega
theorem digR_high (r : Int) (h : 128 ≤ r) : digR r = false := by simp [digR]; omega
theorem tenR_high (r : Int) (h : 128 ≤ r) : tenR r = false := by simp [tenR, letR, digR]; omega
theorem tarR_high (r : Int) (h : 128 ≤ r) : tarR r = false := by simp [tarR, tenR, letR, digR]; omega
theorem hexR_high (r : Int) (h : 128 ≤ r) : hexR r = false := by simp [hexR, digR]; omega

theorem allR_take (p : Int → Bool) (l : List UInt8) (k : Nat) (b : UInt8) (h : l[k]? = some b) : allR p (l.take (k + 1)) = (allR p (l.take k) && p ((b.toNat : Nat) : Int)) := by
  unfold allR
  rw [List.take_add_one, h]
  simp [List.all_append]

theorem allR_out (p : Int → Bool) (l : List UInt8) (k : Nat) (b : UInt8) (h : l[k]? = some b) (hp : p ((b.toNat : Nat) : Int) = false) : allR p l = false := by
  unfold allR
  rw [List.all_eq_false]
  exact ⟨b, List.mem_of_getElem? h, by simp [hp]⟩

theorem byte_at (s : ByteArray) (k : Nat) (h : k < s.size) : s.data.toList[k]? = some (s[k]'h) := by
  have : k < s.data.toList.length := by simpa using h
  rw [List.getElem?_eq_getElem this]
  rfl

/-- A rune that is read is no greater than the greatest one. -/
theorem decode_max (s : ByteArray) (pos : Nat) : (Utf8.decode s pos).1 ≤ 1114111 := by
  have hb : ∀ k, (s.get! (pos + k)).toNat < 256 := fun k => (s.get! (pos + k)).toNat_lt
  have h0 := hb 0; have h1 := hb 1; have h2 := hb 2; have h3 := hb 3
  simp only [Utf8.decode]
  repeat' split
  all_goals simp_all [Utf8.runeError, Utf8.valid]
  all_goals omega

end Go.Proofs.Ytikghnbhbehepaa

/-
  Package name: signs of names and digits, asked one by one; its reference's.
-/
namespace Go.Proofs.Ytikghnbhbehepaa
open Go.RowKit
set_option linter.unusedVariables false
set_option linter.unusedSimpArgs false

set_option maxRecDepth 100000 in
theorem within_any (s : ByteArray) (n : Nat) (hs : s.size ≤ maxLen) (W : World) :
    Calls Try.prog 63 #[.string s, .int .i64 n] W fun e W' => e = .returned (.bool (decide (1 ≤ s.size) && decide (s.size ≤ n))) ∧ W' = W := by
  unfold maxLen at hs
  go_enter Try.func63, Try.ntmps63
  by_cases h1 : 0 < s.size
  · have h2 : decide ((0 : Int) < (s.size : Int)) = true := decide_eq_true (by omega)
    go_wp2
    go_ret
    refine ⟨?_, rfl⟩
    congr 2
    simp
    omega
  · have h2 : decide ((0 : Int) < (s.size : Int)) = false := decide_eq_false (by omega)
    go_wp2
    go_ret
    refine ⟨?_, rfl⟩
    congr 2
    simp
    omega

set_option maxRecDepth 100000 in
theorem isLetter_any (r : Int) (W : World) :
    Calls Try.prog 78 #[.int .i32 r] W fun e W' => e = .returned (.bool (letR r)) ∧ W' = W := by
  go_enter Try.func78, Try.ntmps78
  by_cases h1 : (97 : Int) ≤ r
  · have h2 : decide ((97 : Int) ≤ r) = true := by simpa using h1
    go_wp2
    go_ret
    exact ⟨by simp [letR] <;> omega, rfl⟩
  · have h2 : decide ((97 : Int) ≤ r) = false := by simpa using h1
    go_wp2
    go_ret
    exact ⟨by simp [letR] <;> omega, rfl⟩

set_option maxRecDepth 100000 in
theorem isDigit_any (r : Int) (W : World) :
    Calls Try.prog 79 #[.int .i32 r] W fun e W' => e = .returned (.bool (digR r)) ∧ W' = W := by
  go_enter Try.func79, Try.ntmps79
  by_cases h1 : (48 : Int) ≤ r
  · have h2 : decide ((48 : Int) ≤ r) = true := by simpa using h1
    go_wp2
    go_ret
    exact ⟨by simp [digR] <;> omega, rfl⟩
  · have h2 : decide ((48 : Int) ≤ r) = false := by simpa using h1
    go_wp2
    go_ret
    exact ⟨by simp [digR] <;> omega, rfl⟩

set_option maxRecDepth 100000 in
theorem isOfTenant_any (r : Int) (W : World) :
    Calls Try.prog 65 #[.int .i32 r] W fun e W' => e = .returned (.bool (tenR r)) ∧ W' = W := by
  go_enter Try.func65, Try.ntmps65
  go_wp2_with fail
  refine (isLetter_any r W).mono ?_
  rintro e W1 ⟨rfl, rfl⟩
  cases h1 : letR r
  · go_wp2_with fail
    refine (isDigit_any r _).mono ?_
    rintro e W2 ⟨rfl, rfl⟩
    cases h2 : digR r
    · go_wp2
      go_ret
      refine ⟨?_, rfl⟩
      simp [tenR, h1, h2]
      rfl
    · go_wp2
      go_ret
      exact ⟨by simp [tenR, h1, h2], rfl⟩
  · go_wp2
    go_ret
    exact ⟨by simp [tenR, h1], rfl⟩

set_option maxRecDepth 100000 in
theorem isOfTarget_any (r : Int) (W : World) :
    Calls Try.prog 66 #[.int .i32 r] W fun e W' => e = .returned (.bool (tarR r)) ∧ W' = W := by
  go_enter Try.func66, Try.ntmps66
  go_wp2_with fail
  refine (isOfTenant_any r W).mono ?_
  rintro e W1 ⟨rfl, rfl⟩
  cases h1 : tenR r
  · by_cases h2 : r = 46
    · have h3 : (r == 46) = true := by simpa using h2
      go_wp2
      go_ret
      exact ⟨by simp [tarR, h1, h2], rfl⟩
    · have h3 : (r == 46) = false := by simpa using h2
      go_wp2
      go_ret
      exact ⟨by simp [tarR, h1, h2] <;> rfl, rfl⟩
  · go_wp2
    go_ret
    exact ⟨by simp [tarR, h1], rfl⟩

set_option maxRecDepth 100000 in
set_option maxHeartbeats 2000000 in
/-- Each rune of a text is asked, up to the first one that is none of p's: of p only what is below 128 may be. -/
theorem only_any (f : FuncId) (p : Int → Bool) (hh : ∀ r : Int, 128 ≤ r → p r = false)
    (he : ∀ args w, (callFunc f args).run Try.prog w = .ok (.enter f args) w)
    (hp : ∀ (r : Nat) (w : World), r ≤ 1114111 → Calls Try.prog f #[.int .i32 ((r : Nat) : Int)] w fun e w' => e = .returned (.bool (p ((r : Nat) : Int))) ∧ Below w.heap.size w w')
    (s : ByteArray) (W : World) :
    Calls Try.prog 64 #[.string s, .func (.func f) #[] #[]] W fun e W' => e = .returned (.bool (allR p s.data.toList)) ∧ Below W.heap.size W W' := by
  go_enter Try.func64, Try.ntmps64
  go_wp2
  go_loopw [] (fun wr => ∃ pos : Nat, wr.heap[W.heap.size]? = some (.stringIter s pos) ∧ Below W.heap.size W wr ∧ allR p (s.data.toList.take pos) = true) (fun wr => s.size - wr.iterPos W.heap.size)
  case atStart =>
    refine ⟨0, ?_, (Below.refl _ W).alloc (Nat.le_refl _) _, by simp [allR]⟩
    have := World.iter_heap W s 0
    simpa using this
  case round =>
    obtain ⟨pos, hit, hbw, hall⟩ := hrel
    have hsz : W.heap.size < wr.heap.size := (Array.getElem?_eq_some_iff.1 hit).1
    by_cases hp' : pos < s.size
    · have hnx : ∀ ty, (Instr.next (.pointer (some ⟨W.heap.size, 0, none⟩)) true ty).run Try.prog wr = _ := fun ty => Lib.run_next_any_at wr W.heap.size s pos ty hit hp'
      have hmx := decode_max s pos
      have hit2 := Lib.iterAt_heap wr W.heap.size s pos (pos + (Utf8.decode s pos).2) hit
      have hbw2 := Lib.below_iterAt hbw (k := W.heap.size) (Nat.le_refl _) s (pos + (Utf8.decode s pos).2)
      have hsz2 : W.heap.size < (wr.iterAt W.heap.size s (pos + (Utf8.decode s pos).2)).heap.size := by rw [Lib.iterAt_size]; exact hsz
      have hby := byte_at s pos hp'
      by_cases ha : (s[pos]'hp').toNat < 128
      · have hd := decode_ascii s pos hp' ha
        rw [hd] at hnx hmx hit2 hbw2 hsz2
        dsimp only at hnx hmx hit2 hbw2 hsz2
        obtain ⟨x, hx⟩ : ∃ x, s[pos]'hp' = x := ⟨_, rfl⟩
        rw [hx] at hnx hmx hby ha
        clear hd hx
        have HA := allR_take p _ _ _ hby
        rw [hall] at HA
        have hfin : ∀ W1 : World, Below (wr.iterAt W.heap.size s (pos + 1)).heap.size (wr.iterAt W.heap.size s (pos + 1)) W1 → W1.heap[W.heap.size]? = some (.stringIter s (pos + 1)) ∧ Below W.heap.size W W1 := fun W1 hb1 =>
          ⟨by rw [hb1.block _ hsz2]; exact hit2, hbw2.trans (hb1.mono (Nat.le_of_lt hsz2))⟩
        cases hpx : p ((x.toNat : Nat) : Int)
        · have HF := Lib.hid (allR_out p _ _ _ hby hpx)
          clear HA hall
          go_wp2_with (go_at_fn f; refine (hp x.toNat _ hmx).mono ?_; rintro e W1 ⟨rfl, hb1⟩)
          go_ret
          exact ⟨by rw [HF.out]; rfl, (hfin _ hb1).2⟩
        · rw [hpx] at HA
          have HT := Lib.hid HA
          clear HA hall
          go_wp2_with (go_at_fn f; refine (hp x.toNat _ hmx).mono ?_; rintro e W1 ⟨rfl, hb1⟩)
          go_roundw
          case rel => exact ⟨pos + 1, (hfin _ hb1).1, (hfin _ hb1).2, by rw [HT.out]; rfl⟩
          case measure =>
            rw [iterPos_of (hfin _ hb1).1, iterPos_of hit]
            omega
      · have hd := decode_high s pos hp' (by omega)
        obtain ⟨r, hr⟩ : ∃ r, (Utf8.decode s pos).1 = r := ⟨_, rfl⟩
        obtain ⟨k, hk⟩ : ∃ k, (Utf8.decode s pos).2 = k := ⟨_, rfl⟩
        rw [hr] at hnx hmx hd
        rw [hk] at hnx hit2 hbw2 hsz2 hd
        have HF := Lib.hid (allR_out p _ _ _ hby (hh _ (by omega)))
        have hpr : p ((r : Nat) : Int) = false := hh _ (by omega)
        clear hr hk hall
        go_wp2_with (go_at_fn f; refine (hp r _ hmx).mono ?_; rintro e W1 ⟨rfl, hb1⟩)
        have hb3 : Below W.heap.size W W1 := hbw2.trans (hb1.mono (Nat.le_of_lt hsz2))
        go_wp2
        go_ret
        exact ⟨by rw [HF.out]; rfl, hb3⟩
    · have hnx : ∀ ty, (Instr.next (.pointer (some ⟨W.heap.size, 0, none⟩)) true ty).run Try.prog wr = _ := fun ty => Lib.run_next_end_at wr W.heap.size s pos ty hit hp'
      have HT := Lib.hid hall
      clear hall
      go_wp2
      go_ret
      refine ⟨?_, hbw⟩
      have := HT.out
      rw [List.take_of_length_le (by simp; omega)] at this
      rw [this]
      rfl

end Go.Proofs.Ytikghnbhbehepaa

/-
  Package name: whether a text may be a tenant's or a target's name; the reference's answers.
-/
namespace Go.Proofs.Ytikghnbhbehepaa
open Go.RowKit
set_option linter.unusedVariables false
set_option linter.unusedSimpArgs false

/-- Whether a byte is among some. -/
def hasB : List UInt8 → UInt8 → Bool
  | [], _ => false
  | b :: l, c => b == c || hasB l c

theorem hasB_append (l r : List UInt8) (c : UInt8) : hasB (l ++ r) c = (hasB l c || hasB r c) := by
  induction l with
  | nil => simp [hasB]
  | cons b l ih => simp [hasB, ih, Bool.or_assoc]
theorem hasB_take (l : List UInt8) (k : Nat) (b c : UInt8) (h : l[k]? = some b) : hasB (l.take (k + 1)) c = (hasB (l.take k) c || (b == c)) := by
  rw [List.take_add_one, h, hasB_append]
  simp [hasB]
theorem hasB_mem (l : List UInt8) (k : Nat) (b : UInt8) (h : l[k]? = some b) : hasB l b = true := by
  rw [← List.take_append_drop k l, hasB_append, List.drop_eq_getElem_cons (List.getElem?_eq_some_iff.1 h).1]
  have : l[k]'(List.getElem?_eq_some_iff.1 h).1 = b := (List.getElem?_eq_some_iff.1 h).2
  simp [hasB, this]

theorem beq_byte (b c : UInt8) : (((b.toNat : Nat) : Int) == ((c.toNat : Nat) : Int)) = (b == c) := by
  rw [Bool.eq_iff_iff, beq_iff_eq, beq_iff_eq, ← UInt8.toNat_inj]
  omega

set_option maxRecDepth 100000 in
theorem refIn_any (s : ByteArray) (c : UInt8) (hs : s.size ≤ 10000) (W : World) :
    Calls Try.prog 54 #[.string s, .int .u8 ((c.toNat : Nat) : Int)] W fun e W' => e = .returned (.bool (hasB s.data.toList c)) ∧ W' = W := by
  go_enter Try.func54, Try.ntmps54
  go_wp2
  go_loop [5] (fun i => ∃ k : Nat, k ≤ s.size ∧ i = .int .i64 k ∧ hasB (s.data.toList.take k) c = false) (fun i => s.size - (intOf i).toNat)
  case atStart => exact ⟨0, Nat.zero_le _, rfl, rfl⟩
  case round =>
    obtain ⟨k, hk, rfl, hno⟩ := hrel
    by_cases hlt : k < s.size
    · have hby := byte_at s k hlt
      obtain ⟨x, hx⟩ : ∃ x, s[k]'hlt = x := ⟨_, rfl⟩
      rw [hx] at hby
      have hst := hasB_take _ k x c hby
      rw [hno, Bool.false_or] at hst
      have HB := beq_byte x c
      cases hxc : (x == c)
      · rw [hxc] at hst HB
        have HS := Lib.hid hst
        clear hst hno hby hxc
        go_wp2
        go_round
        case rel => exact ⟨k + 1, by omega, by go_num, HS.out⟩
        case measure => simp [intOf]; omega
      · rw [hxc] at HB
        have hm : hasB s.data.toList c = true := by
          have : x = c := by simpa using hxc
          subst this
          exact hasB_mem _ _ _ hby
        have HS := Lib.hid hm
        clear hst hno hby hxc hm
        go_wp2
        go_ret
        exact ⟨by rw [HS.out]; rfl, rfl⟩
    · have HS := Lib.hid hno
      have hlen : s.data.toList.length ≤ k := by simp; omega
      have HL := Lib.hid hlen
      clear hno hlen
      go_wp2
      go_ret
      refine ⟨?_, rfl⟩
      have := HS.out
      rw [List.take_of_length_le HL.out] at this
      rw [this]
      rfl

/-- Whether each byte is among some. -/
def allIn (l L : List UInt8) : Bool := l.all fun b => hasB L b
theorem allIn_take (l L : List UInt8) (k : Nat) (b : UInt8) (h : l[k]? = some b) : allIn (l.take (k + 1)) L = (allIn (l.take k) L && hasB L b) := by
  unfold allIn
  rw [List.take_add_one, h]
  simp [List.all_append]
theorem allIn_out (l L : List UInt8) (k : Nat) (b : UInt8) (h : l[k]? = some b) (hp : hasB L b = false) : allIn l L = false := by
  unfold allIn
  rw [List.all_eq_false]
  exact ⟨b, List.mem_of_getElem? h, by rw [hp]; simp⟩

set_option maxRecDepth 100000 in
theorem refOnly_any (s L : ByteArray) (hs : s.size ≤ 10000) (hL : L.size ≤ 10000) (W : World) :
    Calls Try.prog 49 #[.string s, .string L] W fun e W' => e = .returned (.bool (allIn s.data.toList L.data.toList)) ∧ W' = W := by
  go_enter Try.func49, Try.ntmps49
  go_wp2
  go_loop [5] (fun i => ∃ k : Nat, k ≤ s.size ∧ i = .int .i64 k ∧ allIn (s.data.toList.take k) L.data.toList = true) (fun i => s.size - (intOf i).toNat)
  case atStart => exact ⟨0, Nat.zero_le _, rfl, rfl⟩
  case round =>
    obtain ⟨k, hk, rfl, hno⟩ := hrel
    by_cases hlt : k < s.size
    · have hby := byte_at s k hlt
      obtain ⟨x, hx⟩ : ∃ x, s[k]'hlt = x := ⟨_, rfl⟩
      rw [hx] at hby
      have hst := allIn_take _ L.data.toList k x hby
      rw [hno, Bool.true_and] at hst
      have hI := fun w => refIn_any L x hL w
      cases hxc : hasB L.data.toList x
      · rw [hxc] at hI
        have HS := Lib.hid (allIn_out _ _ k x hby hxc)
        clear hst hno hby hxc
        go_wp2_with fail
        refine (hI _).mono ?_
        rintro e W1 ⟨rfl, rfl⟩
        go_wp2
        go_ret
        exact ⟨by rw [HS.out]; rfl, rfl⟩
      · rw [hxc] at hI hst
        have HS := Lib.hid hst
        clear hst hno hby hxc
        go_wp2_with fail
        refine (hI _).mono ?_
        rintro e W1 ⟨rfl, rfl⟩
        go_wp2
        go_round
        case rel => exact ⟨k + 1, by omega, by go_num, HS.out⟩
        case measure => simp [intOf]; omega
    · have HS := Lib.hid hno
      have hlen : s.data.toList.length ≤ k := by simp; omega
      have HL := Lib.hid hlen
      clear hno hlen
      go_wp2
      go_ret
      refine ⟨?_, rfl⟩
      have := HS.out
      rw [List.take_of_length_le HL.out] at this
      rw [this]
      rfl

def tenT : ByteArray := ⟨#[97, 98, 99, 100, 101, 102, 103, 104, 105, 106, 107, 108, 109, 110, 111, 112, 113, 114, 115, 116, 117, 118, 119, 120, 121, 122, 48, 49, 50, 51, 52, 53, 54, 55, 56, 57, 45]⟩
def tarT : ByteArray := ⟨#[97, 98, 99, 100, 101, 102, 103, 104, 105, 106, 107, 108, 109, 110, 111, 112, 113, 114, 115, 116, 117, 118, 119, 120, 121, 122, 48, 49, 50, 51, 52, 53, 54, 55, 56, 57, 45, 46, 58]⟩
theorem allIn_of (p : Int → Bool) (L : List UInt8) (h : ∀ b : Fin 256, hasB L (UInt8.ofNat b.val) = p ((b.val : Nat) : Int)) (l : List UInt8) : allIn l L = allR p l := by
  unfold allIn allR
  congr 1
  funext b
  have h1 := h ⟨b.toNat, b.toNat_lt⟩
  have e : UInt8.ofNat b.toNat = b := by simp
  simp only [e] at h1
  exact h1
theorem allIn_ten (l : List UInt8) : allIn l tenT.data.toList = allR tenR l := allIn_of tenR _ (by decide +kernel) l
theorem allIn_tar (l : List UInt8) : allIn l tarT.data.toList = allR tarR l := allIn_of tarR _ (by decide +kernel) l

/-- Whether a text may be a tenant's name; a target's. -/
def tenantB (l : List UInt8) : Bool := decide (1 ≤ l.length) && decide (l.length ≤ 16) && (allR letR (l.take 1) && allR tenR l)
def targetB (l : List UInt8) : Bool := decide (1 ≤ l.length) && decide (l.length ≤ 24) && (allR tenR (l.take 1) && allR tarR l)

theorem tenant_target (l : List UInt8) (h : tenantB l = true) : targetB l = true := by
  unfold tenantB at h
  unfold targetB
  simp only [Bool.and_eq_true, decide_eq_true_eq] at h ⊢
  obtain ⟨⟨h1, h2⟩, h3, h4⟩ := h
  refine ⟨⟨h1, by omega⟩, ?_, ?_⟩
  · unfold allR at h3 ⊢
    rw [List.all_eq_true] at h3 ⊢
    intro x hx
    have := h3 x hx
    simp [tenR, this]
  · unfold allR at h4 ⊢
    rw [List.all_eq_true] at h4 ⊢
    intro x hx
    have := h4 x hx
    simp [tarR, this]

theorem extract_one (s : ByteArray) : (s.extract 0 1).data.toList = s.data.toList.take 1 := by simp

theorem enters_letter : ∀ args w, (callFunc 78 args).run Try.prog w = .ok (.enter 78 args) w := enters_of Try.func78 (by kernel_rfl) rfl

theorem enters_tenant : ∀ args w, (callFunc 65 args).run Try.prog w = .ok (.enter 65 args) w := enters_of Try.func65 (by kernel_rfl) rfl

theorem enters_target : ∀ args w, (callFunc 66 args).run Try.prog w = .ok (.enter 66 args) w := enters_of Try.func66 (by kernel_rfl) rfl

theorem onlyLetter_any (s : ByteArray) (W : World) :
    Calls Try.prog 64 #[.string s, .func (.func 78) #[] #[]] W fun e W' => e = .returned (.bool (allR letR s.data.toList)) ∧ Below W.heap.size W W' :=
  only_any 78 letR letR_high enters_letter (fun r w _ => (isLetter_any ((r : Nat) : Int) w).mono fun e w' h => ⟨h.1, by rw [h.2]; exact Below.refl _ _⟩) s W

theorem onlyTenant_any (s : ByteArray) (W : World) :
    Calls Try.prog 64 #[.string s, .func (.func 65) #[] #[]] W fun e W' => e = .returned (.bool (allR tenR s.data.toList)) ∧ Below W.heap.size W W' :=
  only_any 65 tenR tenR_high enters_tenant (fun r w _ => (isOfTenant_any ((r : Nat) : Int) w).mono fun e w' h => ⟨h.1, by rw [h.2]; exact Below.refl _ _⟩) s W

theorem onlyTarget_any (s : ByteArray) (W : World) :
    Calls Try.prog 64 #[.string s, .func (.func 66) #[] #[]] W fun e W' => e = .returned (.bool (allR tarR s.data.toList)) ∧ Below W.heap.size W W' :=
  only_any 66 tarR tarR_high enters_target (fun r w _ => (isOfTarget_any ((r : Nat) : Int) w).mono fun e w' h => ⟨h.1, by rw [h.2]; exact Below.refl _ _⟩) s W

set_option maxRecDepth 100000 in
set_option maxHeartbeats 1000000 in
theorem target_any (s : ByteArray) (hs : s.size ≤ maxLen) (W : World) :
    Calls Try.prog 59 #[.string s] W fun e W' => e = .returned (.bool (targetB s.data.toList)) ∧ Below W.heap.size W W' := by
  have hT : targetB s.data.toList = (decide (1 ≤ s.size) && decide (s.size ≤ 24) && (allR tenR (s.data.toList.take 1) && allR tarR s.data.toList)) := by
    unfold targetB
    rw [show s.data.toList.length = s.size by simp]
  have HT := Lib.hid hT
  clear hT
  have hw := within_any s 24 hs
  unfold maxLen at hs
  go_enter Try.func59, Try.ntmps59
  go_wp2_with fail
  refine (hw W).mono ?_
  rintro e W1 ⟨rfl, rfl⟩
  clear hw
  cases h1 : (decide (1 ≤ s.size) && decide (s.size ≤ 24))
  · rw [h1, Bool.false_and] at HT
    clear h1
    go_wp2_with fail
    go_ret
    exact ⟨by rw [HT.out]; rfl, Below.refl _ _⟩
  · rw [h1, Bool.true_and] at HT
    simp only [Bool.and_eq_true, decide_eq_true_eq] at h1
    have h2 := h1.1
    clear h1
    go_wp2_with fail
    refine (onlyTenant_any _ _).mono ?_
    rintro e W2 ⟨rfl, hb2⟩
    have he := Lib.hid (extract_one s)
    cases h3 : allR tenR (s.extract 0 1).data.toList
    · rw [he.out] at h3
      rw [h3, Bool.false_and] at HT
      clear h3
      go_wp2_with fail
      go_ret
      exact ⟨by rw [HT.out]; rfl, hb2⟩
    · rw [he.out] at h3
      rw [h3, Bool.true_and] at HT
      clear h3
      go_wp2_with fail
      refine (onlyTarget_any _ _).mono ?_
      rintro e W3 ⟨rfl, hb3⟩
      generalize allR tarR s.data.toList = q at HT ⊢
      go_wp2_with fail
      go_ret
      exact ⟨by rw [HT.out]; rfl, bthen hb2 hb3⟩

theorem allR_at (p : Int → Bool) (l : List UInt8) (h : allR p l = true) (k : Nat) (b : UInt8) (hb : l[k]? = some b) : p ((b.toNat : Nat) : Int) = true := by
  unfold allR at h
  rw [List.all_eq_true] at h
  exact h b (List.mem_of_getElem? hb)

end Go.Proofs.Ytikghnbhbehepaa
