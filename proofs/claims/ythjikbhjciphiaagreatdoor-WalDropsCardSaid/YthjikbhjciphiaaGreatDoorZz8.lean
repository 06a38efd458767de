/-
  What turns at all: only blocks of a set, and new ones; bytes that lie off such a set. No program stands here.
-/
import Derived.Test.YthjikbhjciphiaaGreatDoorZz7
import Derived.Test.YthjikbhjciphiaaGreatDoorZz2
import Derived.Laws.AppendOwn
namespace Go.Proofs.YthjikbhjciphiaaGreatDoor
open Go.RowKit
set_option linter.unusedVariables false
set_option linter.unusedSimpArgs false

/-- Of the blocks that are there only those of S turn. -/
structure Turn (S : Nat → Prop) (w w' : World) : Prop where
  os : w'.os = w.os
  tape : w'.tape = w.tape
  output : w'.output = w.output
  size : w.heap.size ≤ w'.heap.size
  block : ∀ k, k < w.heap.size → ¬ S k → w'.heap[k]? = w.heap[k]?
section
variable {S S' : Nat → Prop} {w w' w'' : World}
theorem Turn.refl (S : Nat → Prop) (w : World) : Turn S w w := ⟨rfl, rfl, rfl, Nat.le_refl _, fun _ _ _ => rfl⟩
theorem Turn.trans (h : Turn S w w') (k : Turn S w' w'') : Turn S w w'' :=
  ⟨k.os.trans h.os, k.tape.trans h.tape, k.output.trans h.output, Nat.le_trans h.size k.size, fun i hi hs => (k.block i (Nat.lt_of_lt_of_le hi h.size) hs).trans (h.block i hi hs)⟩
theorem Turn.of_below (h : Below w.heap.size w w') : Turn S w w' := ⟨h.os, h.tape, h.output, h.size, fun k hk _ => h.block k hk⟩
theorem Turn.mono (h : Turn S w w') (hs : ∀ k, S k → S' k) : Turn S' w w' := ⟨h.os, h.tape, h.output, h.size, fun k hk hn => h.block k hk fun e => hn (hs k e)⟩
theorem Turn.alloc (h : Turn S w w') (o : Obj) : Turn S w (w'.alloc o) := h.trans (Turn.of_below ((Below.refl _ w').alloc (Nat.le_refl _) o))
theorem Turn.drewN (h : Turn S w w') (q : Nat) : Turn S w (w'.drewN q) := ⟨h.os, h.tape, h.output, h.size, h.block⟩
theorem Turn.setCell (h : Turn S w w') {p : Addr} (hp : S p.block) (u : Value) : Turn S w (w'.setCell p u) := by
  refine ⟨h.os, h.tape, h.output, ?_, fun k hk hn => ?_⟩
  · have : (w'.setCell p u).heap.size = w'.heap.size := by simp [World.setCell]
    rw [this]; exact h.size
  · rw [heap_setCell_other w' p k u (fun e => hn (by rw [e]; exact hp))]
    exact h.block k hk hn
theorem Turn.cell (h : Turn S w w') {p : Addr} (hp : p.block < w.heap.size) (hs : ¬ S p.block) : w'.cell? p = w.cell? p := World.cell?_of_block (h.block p.block hp hs)
theorem Turn.at_ (h : Turn S w w') {p : Addr} {v : Value} (hc : w.cell? p = some v) (hs : ¬ S p.block) : w'.cell? p = some v := (h.cell (block_lt_of_cell hc) hs).trans hc
/-- Where only new blocks are of S, nothing that was there turns. -/
theorem Turn.below (h : Turn S w w') {B : Nat} (hB : B ≤ w.heap.size) (hs : ∀ k, S k → B ≤ k) : Below B w w' :=
  ⟨h.os, h.tape, h.output, h.size, fun k hk => h.block k (Nat.lt_of_lt_of_le hk hB) fun e => by have := hs k e; omega⟩
theorem Turn.blk {g : Nat} {t : TypeId} {cs : List Value} (h : Turn S w w') (hb : Blk w g t cs) (hs : ¬ S g) : Blk w' g t cs := (h.block g hb.lt hs).trans hb

/-- The slice value '.slice A n c' reads as the bytes l, off S. -/
def BytS (w : World) (S : Nat → Prop) (A : Option Addr) (n : Nat) (l : List UInt8) : Prop :=
  l.length = n ∧ (0 < n → ∃ b o, A = some ⟨b, o, none⟩ ∧ ¬ S b ∧ ∀ (j : Nat) (x : UInt8), l[j]? = some x → w.cell? ⟨b, o + j, none⟩ = some (.int .u8 ((x.toNat : Nat) : Int)))
theorem BytS.turn {A : Option Addr} {n : Nat} {l : List UInt8} (h : BytS w S A n l) (ht : Turn S w w') : BytS w' S A n l :=
  ⟨h.1, fun hn => by
    obtain ⟨b, o, e, hs, hc⟩ := h.2 hn
    exact ⟨b, o, e, hs, fun j x hx => ht.at_ (hc j x hx) hs⟩⟩
theorem BytS.less {A : Option Addr} {n : Nat} {l : List UInt8} (h : BytS w S A n l) (hs : ∀ k, S' k → S k) : BytS w S' A n l :=
  ⟨h.1, fun hn => by
    obtain ⟨b, o, e, hb, hc⟩ := h.2 hn
    exact ⟨b, o, e, fun x => hb (hs b x), hc⟩⟩
/-- More blocks to be off, none of which is there yet. -/
theorem BytS.more {A : Option Addr} {n : Nat} {l : List UInt8} (h : BytS w S A n l) (hs : ∀ k, S' k → k < w.heap.size → S k) : BytS w S' A n l :=
  ⟨h.1, fun hn => by
    obtain ⟨b, o, e, hb, hc⟩ := h.2 hn
    refine ⟨b, o, e, fun x => hb (hs b x ?_), hc⟩
    have hl : 0 < l.length := by have := h.1; omega
    exact block_lt_of_cell (hc 0 _ (List.getElem?_eq_getElem hl))⟩
theorem BytS.byt {A : Option Addr} {n : Nat} {l : List UInt8} (h : BytS w S A n l) : Byt w w.heap.size A n l :=
  ⟨h.1, fun hn => by
    obtain ⟨b, o, e, hb, hc⟩ := h.2 hn
    have hl : 0 < l.length := by have := h.1; omega
    exact ⟨b, o, e, block_lt_of_cell (hc 0 _ (List.getElem?_eq_getElem hl)), hc⟩⟩
theorem Byt.off {A : Option Addr} {n B : Nat} {l : List UInt8} (h : Byt w B A n l) (hs : ∀ k, S k → B ≤ k) : BytS w S A n l :=
  ⟨h.1, fun hn => by
    obtain ⟨b, o, e, hb, hc⟩ := h.2 hn
    exact ⟨b, o, e, fun x => by have := hs b x; omega, hc⟩⟩
theorem BytS.take {A : Option Addr} {n m : Nat} {l : List UInt8} (h : BytS w S A n l) (hm : m ≤ n) : BytS w S A m (l.take m) := by
  refine ⟨by rw [List.length_take, h.1]; omega, fun h0 => ?_⟩
  obtain ⟨b, o, e, hb, hc⟩ := h.2 (by omega)
  refine ⟨b, o, e, hb, fun j x hx => hc j x ?_⟩
  rw [List.getElem?_take] at hx
  split at hx
  · exact hx
  · cases hx
theorem BytS.nil {A : Option Addr} : BytS w S A 0 [] := ⟨rfl, fun h => absurd h (by omega)⟩
end

end Go.Proofs.YthjikbhjciphiaaGreatDoor

/-
  Structs in memory by their parts: a part's value, a struct's cells, a slice of structs, a row of structs of the call's own. No program stands here.
-/
namespace Go.Proofs.YthjikbhjciphiaaGreatDoor
open Go.RowKit
set_option linter.unusedVariables false
set_option linter.unusedSimpArgs false

/-- A part of a struct: a number, a text, bytes, a truth. -/
inductive Prt where
  | num (k : IntKind) (z : Int)
  | txt (l : List UInt8)
  | byt (l : List UInt8)
  | flag (b : Bool)
/-- The value of a part, its bytes off S. -/
def PrtV (w : World) (S : Nat → Prop) (v : Value) : Prt → Prop
  | .num k z => v = .int k z
  | .txt l => v = .string ⟨l.toArray⟩
  | .byt l => ∃ A n c, v = .slice A n c ∧ BytS w S A n l ∧ (A = none → n = 0 ∧ c = 0) ∧ n ≤ c ∧ c ≤ maxLen
  | .flag b => v = .bool b
/-- Cells that are parts, one behind the other. -/
def PrtsV (w : World) (S : Nat → Prop) : List Value → List Prt → Prop
  | xs, [] => xs = []
  | xs, p :: ps => ∃ v r, xs = v :: r ∧ PrtV w S v p ∧ PrtsV w S r ps
section
variable {w w' W : World} {S S' : Nat → Prop} {v : Value} {p : Prt} {B : Nat}
theorem PrtV.turn (h : PrtV w S v p) (ht : Turn S w w') : PrtV w' S v p := by
  cases p with
  | byt l =>
    obtain ⟨A, n, c, h1, h2, h3⟩ := h
    exact ⟨A, n, c, h1, h2.turn ht, h3⟩
  | _ => exact h
theorem PrtV.less (h : PrtV w S v p) (hs : ∀ k, S' k → S k) : PrtV w S' v p := by
  cases p with
  | byt l =>
    obtain ⟨A, n, c, h1, h2, h3⟩ := h
    exact ⟨A, n, c, h1, h2.less hs, h3⟩
  | _ => exact h
theorem PrtV.more (h : PrtV w S v p) (hs : ∀ k, S' k → k < w.heap.size → S k) : PrtV w S' v p := by
  cases p with
  | byt l =>
    obtain ⟨A, n, c, h1, h2, h3⟩ := h
    exact ⟨A, n, c, h1, h2.more hs, h3⟩
  | _ => exact h
/-- From one world behind W to another one. -/
theorem PrtV.side (h : PrtV w S v p) (hS : ∀ k, B ≤ k → S k) (h1 : Below B W w) (h2 : Below B W w') : PrtV w' S v p := by
  cases p with
  | byt l =>
    obtain ⟨A, n, c, e, hb, h3⟩ := h
    refine ⟨A, n, c, e, ⟨hb.1, fun hn => ?_⟩, h3⟩
    obtain ⟨b, o, e1, hs, hc⟩ := hb.2 hn
    have hlt : b < B := by
      rcases Nat.lt_or_ge b B with h | h
      · exact h
      · exact absurd (hS b h) hs
    exact ⟨b, o, e1, hs, fun j x hx => ((h2.cell (p := ⟨b, o + j, none⟩) hlt).trans (h1.cell (p := ⟨b, o + j, none⟩) hlt).symm).trans (hc j x hx)⟩
  | _ => exact h
theorem PrtV.one (h : PrtV w S v p) : v.oneCell' = true := by
  cases p with
  | byt l =>
    obtain ⟨A, n, c, h1, _⟩ := h
    rw [h1]; rfl
  | num k z => have h' : v = .int k z := h; rw [h']; rfl
  | txt l => have h' : v = .string ⟨l.toArray⟩ := h; rw [h']; rfl
  | flag b => have h' : v = .bool b := h; rw [h']; rfl
end

section
variable {w w' W : World} {S S' : Nat → Prop} {B : Nat}
theorem PrtsV.keep (hv : ∀ v p, PrtV w S v p → PrtV w' S' v p) : ∀ (ps : List Prt) (xs : List Value), PrtsV w S xs ps → PrtsV w' S' xs ps := by
  intro ps
  induction ps with
  | nil => intro xs h; exact h
  | cons p ps ih =>
    intro xs h
    obtain ⟨v, r, rfl, h1, h2⟩ := h
    exact ⟨v, r, rfl, hv _ _ h1, ih r h2⟩
theorem PrtsV.turn {ps : List Prt} {xs : List Value} (h : PrtsV w S xs ps) (ht : Turn S w w') : PrtsV w' S xs ps := PrtsV.keep (fun v p hv => hv.turn ht) ps xs h
theorem PrtsV.less {ps : List Prt} {xs : List Value} (h : PrtsV w S xs ps) (hs : ∀ k, S' k → S k) : PrtsV w S' xs ps := PrtsV.keep (fun v p hv => hv.less hs) ps xs h
theorem PrtsV.more {ps : List Prt} {xs : List Value} (h : PrtsV w S xs ps) (hs : ∀ k, S' k → k < w.heap.size → S k) : PrtsV w S' xs ps := PrtsV.keep (fun v p hv => hv.more hs) ps xs h
theorem PrtsV.side {ps : List Prt} {xs : List Value} (h : PrtsV w S xs ps) (hS : ∀ k, B ≤ k → S k) (h1 : Below B W w) (h2 : Below B W w') : PrtsV w' S xs ps := PrtsV.keep (fun v p hv => hv.side hS h1 h2) ps xs h
theorem PrtsV.len : ∀ (ps : List Prt) (xs : List Value), PrtsV w S xs ps → xs.length = ps.length := by
  intro ps
  induction ps with
  | nil => intro xs h; have h' : xs = [] := h; subst h'; rfl
  | cons p ps ih =>
    intro xs h
    obtain ⟨v, r, rfl, _, h2⟩ := h
    simp [ih r h2]
theorem PrtsV.one : ∀ (ps : List Prt) (xs : List Value), PrtsV w S xs ps → ∀ u ∈ xs, u.oneCell' = true := by
  intro ps
  induction ps with
  | nil => intro xs h u hu; have h' : xs = [] := h; subst h'; cases hu
  | cons p ps ih =>
    intro xs h u hu
    obtain ⟨v, r, rfl, h1, h2⟩ := h
    rcases List.mem_cons.1 hu with rfl | hu
    · exact h1.one
    · exact ih r h2 u hu
theorem PrtsV.append : ∀ (ps : List Prt) (xs : List Value) (qs : List Prt) (ys : List Value), PrtsV w S xs ps → PrtsV w S ys qs → PrtsV w S (xs ++ ys) (ps ++ qs) := by
  intro ps
  induction ps with
  | nil => intro xs qs ys h h2; have h' : xs = [] := h; subst h'; exact h2
  | cons p ps ih =>
    intro xs qs ys h h2
    obtain ⟨v, r, rfl, h1, h3⟩ := h
    exact ⟨v, r ++ ys, rfl, h1, ih r qs ys h3 h2⟩
theorem PrtsV.drop : ∀ (i : Nat) (ps : List Prt) (xs : List Value), PrtsV w S xs ps → PrtsV w S (xs.drop i) (ps.drop i) := by
  intro i
  induction i with
  | zero => intro ps xs h; exact h
  | succ i ih =>
    intro ps xs h
    cases ps with
    | nil => have h' : xs = [] := h; subst h'; exact rfl
    | cons p ps =>
      obtain ⟨v, r, rfl, _, h2⟩ := h
      exact ih ps r h2
theorem PrtsV.take : ∀ (i : Nat) (ps : List Prt) (xs : List Value), PrtsV w S xs ps → PrtsV w S (xs.take i) (ps.take i) := by
  intro i
  induction i with
  | zero => intro ps xs h; exact rfl
  | succ i ih =>
    intro ps xs h
    cases ps with
    | nil => have h' : xs = [] := h; subst h'; exact rfl
    | cons p ps =>
      obtain ⟨v, r, rfl, h1, h2⟩ := h
      exact ⟨v, r.take i, rfl, h1, ih ps r h2⟩
end

/-- Lists of one length, one behind the other: where the j-th one stands. -/
theorem flat_at {α : Type} {k : Nat} : ∀ (fs : List (List α)) (j : Nat) (f : List α), (∀ g ∈ fs, g.length = k) → fs[j]? = some f → (fs.flatten.drop (j * k)).take k = f := by
  intro fs
  induction fs with
  | nil => intro j f _ h; cases h
  | cons g fs ih =>
    intro j f hk h
    have hg := hk g List.mem_cons_self
    cases j with
    | zero =>
      have e : g = f := by simpa using h
      subst e
      simp [List.take_append, hg]
    | succ j =>
      have := ih j f (fun x hx => hk x (List.mem_cons_of_mem _ hx)) (by simpa using h)
      rw [List.flatten_cons, show (j + 1) * k = g.length + j * k by rw [hg, Nat.succ_mul]; omega, List.drop_append]
      simpa [List.drop_eq_nil_of_le] using this
theorem flat_len {α : Type} {k : Nat} : ∀ (fs : List (List α)), (∀ g ∈ fs, g.length = k) → fs.flatten.length = fs.length * k := by
  intro fs
  induction fs with
  | nil => intro _; simp
  | cons g fs ih =>
    intro hk
    have hg := hk g List.mem_cons_self
    have := ih fun x hx => hk x (List.mem_cons_of_mem _ hx)
    rw [List.flatten_cons, List.length_append, this, hg, List.length_cons, Nat.succ_mul]
    omega

/-- The slice value '.slice A n c' reads as the structs fs, k parts each, all of it off S. -/
def Sls (w : World) (S : Nat → Prop) (k : Nat) (A : Option Addr) (n : Nat) (fs : List (List Prt)) : Prop :=
  fs.length = n ∧ (∀ f ∈ fs, f.length = k) ∧ (0 < n → ∃ b o, A = some ⟨b, o, none⟩ ∧ ¬ S b ∧ b < w.heap.size ∧ ∀ (j : Nat) (f : List Prt), fs[j]? = some f → ∃ ys, PrtsV w S ys f ∧ ∀ (i : Nat) (y : Value), ys[i]? = some y → w.cell? ⟨b, o + j * k + i, none⟩ = some y)
section
variable {w w' W : World} {S S' : Nat → Prop} {k n : Nat} {A : Option Addr} {fs : List (List Prt)}
theorem Sls.nil : Sls w S k A 0 [] := ⟨rfl, fun _ h => (by cases h), fun h => absurd h (by omega)⟩
theorem Sls.turn (h : Sls w S k A n fs) (ht : Turn S w w') : Sls w' S k A n fs :=
  ⟨h.1, h.2.1, fun hn => by
    obtain ⟨b, o, e, hb, hl, hf⟩ := h.2.2 hn
    refine ⟨b, o, e, hb, Nat.lt_of_lt_of_le hl ht.size, fun j f hj => ?_⟩
    obtain ⟨ys, h1, h2⟩ := hf j f hj
    exact ⟨ys, h1.turn ht, fun i y hy => ht.at_ (h2 i y hy) hb⟩⟩
theorem Sls.less (h : Sls w S k A n fs) (hs : ∀ k, S' k → S k) : Sls w S' k A n fs :=
  ⟨h.1, h.2.1, fun hn => by
    obtain ⟨b, o, e, hb, hl, hf⟩ := h.2.2 hn
    refine ⟨b, o, e, fun x => hb (hs b x), hl, fun j f hj => ?_⟩
    obtain ⟨ys, h1, h2⟩ := hf j f hj
    exact ⟨ys, h1.less hs, h2⟩⟩
theorem Sls.more (h : Sls w S k A n fs) (hs : ∀ k, S' k → k < w.heap.size → S k) : Sls w S' k A n fs :=
  ⟨h.1, h.2.1, fun hn => by
    obtain ⟨b, o, e, hb, hl, hf⟩ := h.2.2 hn
    refine ⟨b, o, e, fun x => hb (hs b x hl), hl, fun j f hj => ?_⟩
    obtain ⟨ys, h1, h2⟩ := hf j f hj
    exact ⟨ys, h1.more hs, h2⟩⟩
theorem Sls.take (h : Sls w S k A n fs) {m : Nat} (hm : m ≤ n) : Sls w S k A m (fs.take m) := by
  refine ⟨by rw [List.length_take, h.1]; omega, fun f hf => h.2.1 f (List.mem_of_mem_take hf), fun h0 => ?_⟩
  obtain ⟨b, o, e, hb, hl, hf⟩ := h.2.2 (by omega)
  refine ⟨b, o, e, hb, hl, fun j f hj => hf j f ?_⟩
  rw [List.getElem?_take] at hj
  split at hj
  · exact hj
  · cases hj
/-- The j-th struct: where it stands, and its cells. -/
theorem Sls.at_ (h : Sls w S k A n fs) {j : Nat} {f : List Prt} (hj : fs[j]? = some f) : ∃ b o ys, A = some ⟨b, o, none⟩ ∧ ¬ S b ∧ b < w.heap.size ∧ PrtsV w S ys f ∧ f.length = k ∧ ∀ (i : Nat) (y : Value), ys[i]? = some y → w.cell? ⟨b, o + j * k + i, none⟩ = some y := by
  have hl := (List.getElem?_eq_some_iff.1 hj).1
  obtain ⟨b, o, e, hb, hl, hf⟩ := h.2.2 (by have := h.1; omega)
  obtain ⟨ys, h1, h2⟩ := hf j f hj
  exact ⟨b, o, ys, e, hb, hl, h1, h.2.1 f (List.mem_of_getElem? hj), h2⟩
theorem Sls.of_own {base c : Nat} {e : TypeId} {xs : List Value} (h : w.ownsRow base e k (.slice A n c) n xs) (hx : PrtsV w S xs fs.flatten) (hk : ∀ f ∈ fs, f.length = k) (hn : fs.length = n) (hS : ∀ k, S k → k < base ∨ w.heap.size ≤ k) : Sls w S k A n fs := by
  refine ⟨hn, hk, fun h0 => ?_⟩
  have hlt := h.lt
  have h1 : xs.length = n * k := h.1
  rcases h.2 with ⟨_, h0'⟩ | ⟨g, cap, cur, hv, _, hh, _⟩
  · omega
  · injection hv with hA
    subst hA
    refine ⟨g, 0, rfl, fun x => by have h2 := hlt g rfl; have h3 := hS g x; omega, (hlt g rfl).2, fun j f hj => ?_⟩
    have hf := flat_at fs j f hk hj
    have hp := PrtsV.take k _ _ (PrtsV.drop (j * k) _ _ hx)
    rw [hf] at hp
    refine ⟨_, hp, fun i y hy => ?_⟩
    rw [List.getElem?_take] at hy
    split at hy
    · rw [List.getElem?_drop] at hy
      have := h.cells (g := g) rfl _ y hy
      rw [Addr.add_lit] at this
      rw [Nat.add_assoc]
      exact this
    · cases hy
end

/-- One struct appended to a row of the call's own; the walk has just laid it in a block of its own; what turned. -/
theorem wpList_append_prt2 {P : Program} {ops : Array Oper} {rest : List Oper} {o : Oper} {a : Act} {Q : Exit → Act → World → Prop} {wr W0 : World} {B0 : Nat} {S : Nat → Prop} (ob : TypeId) (hgd : o.guard = none) (s x : Operand) (t : TypeId)
    (ho : o.op = .call { callee := .builtin .append, args := #[s, x], argTypes := #[t, t] }) (e : TypeId) (i : TypeInfo) (z : Value) (k nb : Nat) (ht : P.underlying t = some (.slice e)) (hi : P.info? e = some i) (hz : i.zero = some z) (hsize : i.size = k) (hby : i.bytes = nb) (hzs : z.cells.size = k) (hk : 0 < k) (hnb : nb ≤ 1000)
    (v : Value) (gs : List (List Prt)) (xs : List Value) (hs : a.eval s = v) (hown : wr.ownsRow B0 e k v gs.length xs) (hx : PrtsV wr S xs gs.flatten) (hb : Below B0 W0 wr) (hB0 : B0 ≤ wr.heap.size) (hS : ∀ k, B0 ≤ k → S k)
    (cs : List Value) (f : List Prt) (hv : PrtsV wr S cs f) (hf : f.length = k) (hxe : a.eval x = .slice (some ⟨wr.heap.size, 0, none⟩) 1 1) (hn : gs.length ≤ 1000000)
    (h : ∀ v' w', (w'.ownsRow B0 e k v' (gs ++ [f]).length (xs ++ cs) ∧ PrtsV w' S (xs ++ cs) (gs ++ [f]).flatten ∧ Below B0 W0 w' ∧ B0 ≤ w'.heap.size ∧ (wr.alloc (.cells cs.toArray ob)).grownBy w' v.ownBlock) → wpList P ops Q rest (a.put o.dst v') w') : wpList P ops Q (o :: rest) a (wr.alloc (.cells cs.toArray ob)) := by
  have hcs := PrtsV.len f cs hv
  refine wpList_append_own _ hgd s x t ho B0 e i z k nb ht hi hz hsize hby hzs hk v gs.length xs hs (hown.alloc _) ⟨wr.heap.size, 0, none⟩ 1 1 cs hxe (by rw [hcs, hf, Nat.one_mul]) ?_ ?_ (by unfold maxLen; omega) ?_ (by simp; omega) ?_
  · intro j y hy
    rw [Addr.add_lit, Nat.zero_add, World.cell?_alloc_new]
    simpa using hy
  · exact PrtsV.one f cs hv
  · exact Nat.le_trans (Nat.mul_le_mul_left _ hnb) (by omega)
  · intro v' w' hown' hgrow _
    have hb' : Below B0 W0 w' := (hb.alloc hB0 _).grown hgrow (by simp; omega) (fun q hq => (hown.lt q hq).1)
    refine h v' w' ⟨by rw [List.length_append]; exact hown', ?_, hb', ?_, hgrow⟩
    · rw [List.flatten_append]
      refine PrtsV.append _ _ _ _ (hx.side hS hb hb') ?_
      simpa using hv.side hS hb hb'
    have h1 := hgrow.size
    simp at h1
    omega

/-- One struct appended to a row of the call's own; the walk has just laid it in a block of its own. -/
theorem wpList_append_prt {P : Program} {ops : Array Oper} {rest : List Oper} {o : Oper} {a : Act} {Q : Exit → Act → World → Prop} {wr W0 : World} {B0 : Nat} {S : Nat → Prop} (ob : TypeId) (hgd : o.guard = none) (s x : Operand) (t : TypeId)
    (ho : o.op = .call { callee := .builtin .append, args := #[s, x], argTypes := #[t, t] }) (e : TypeId) (i : TypeInfo) (z : Value) (k nb : Nat) (ht : P.underlying t = some (.slice e)) (hi : P.info? e = some i) (hz : i.zero = some z) (hsize : i.size = k) (hby : i.bytes = nb) (hzs : z.cells.size = k) (hk : 0 < k) (hnb : nb ≤ 1000)
    (v : Value) (gs : List (List Prt)) (xs : List Value) (hs : a.eval s = v) (hown : wr.ownsRow B0 e k v gs.length xs) (hx : PrtsV wr S xs gs.flatten) (hb : Below B0 W0 wr) (hB0 : B0 ≤ wr.heap.size) (hS : ∀ k, B0 ≤ k → S k)
    (cs : List Value) (f : List Prt) (hv : PrtsV wr S cs f) (hf : f.length = k) (hxe : a.eval x = .slice (some ⟨wr.heap.size, 0, none⟩) 1 1) (hn : gs.length ≤ 1000000)
    (h : ∀ v' w', (w'.ownsRow B0 e k v' (gs ++ [f]).length (xs ++ cs) ∧ PrtsV w' S (xs ++ cs) (gs ++ [f]).flatten ∧ Below B0 W0 w' ∧ B0 ≤ w'.heap.size) → wpList P ops Q rest (a.put o.dst v') w') : wpList P ops Q (o :: rest) a (wr.alloc (.cells cs.toArray ob)) :=
  wpList_append_prt2 ob hgd s x t ho e i z k nb ht hi hz hsize hby hzs hk hnb v gs xs hs hown hx hb hB0 hS cs f hv hf hxe hn fun v' w' hh => h v' w' ⟨hh.1, hh.2.1, hh.2.2.1, hh.2.2.2.1⟩

end Go.Proofs.YthjikbhjciphiaaGreatDoor

/-
  Files in memory: a file's value, a slice of files, a row of files of the call's own. No program stands here.
-/
namespace Go.Proofs.YthjikbhjciphiaaGreatDoor
open Go.RowKit
set_option linter.unusedVariables false
set_option linter.unusedSimpArgs false

/-- A file: its name, its bytes, how many of them are sure. -/
structure Fl where
  name : List UInt8
  data : List UInt8
  sure : Nat

/-- The value of a file, its bytes off S. -/
def FlV (w : World) (S : Nat → Prop) (v : Value) (f : Fl) : Prop :=
  ∃ A n c, v = .agg #[.string ⟨f.name.toArray⟩, .slice A n c, .int .i64 ((f.sure : Nat) : Int)] ∧ BytS w S A n f.data ∧ (A = none → n = 0 ∧ c = 0) ∧ n ≤ c ∧ c ≤ maxLen
section
variable {w w' W : World} {S S' : Nat → Prop} {v : Value} {f : Fl} {B : Nat}
theorem FlV.turn (h : FlV w S v f) (ht : Turn S w w') : FlV w' S v f := by
  obtain ⟨A, n, c, h1, h2, h3⟩ := h
  exact ⟨A, n, c, h1, h2.turn ht, h3⟩
theorem FlV.less (h : FlV w S v f) (hs : ∀ k, S' k → S k) : FlV w S' v f := by
  obtain ⟨A, n, c, h1, h2, h3⟩ := h
  exact ⟨A, n, c, h1, h2.less hs, h3⟩
theorem FlV.more (h : FlV w S v f) (hs : ∀ k, S' k → k < w.heap.size → S k) : FlV w S' v f := by
  obtain ⟨A, n, c, h1, h2, h3⟩ := h
  exact ⟨A, n, c, h1, h2.more hs, h3⟩
/-- From one world behind W to another one. -/
theorem FlV.side (h : FlV w S v f) (hS : ∀ k, B ≤ k → S k) (h1 : Below B W w) (h2 : Below B W w') : FlV w' S v f := by
  obtain ⟨A, n, c, e, hb, h3⟩ := h
  refine ⟨A, n, c, e, ⟨hb.1, fun hn => ?_⟩, h3⟩
  obtain ⟨b, o, e1, hs, hc⟩ := hb.2 hn
  have hlt : b < B := by
    rcases Nat.lt_or_ge b B with h | h
    · exact h
    · exact absurd (hS b h) hs
  exact ⟨b, o, e1, hs, fun j x hx => ((h2.cell (p := ⟨b, o + j, none⟩) hlt).trans (h1.cell (p := ⟨b, o + j, none⟩) hlt).symm).trans (hc j x hx)⟩
theorem flV_cells (h : FlV w S v f) : ∃ cs : List Value, v = .agg cs.toArray ∧ cs.length = 3 ∧ ∀ u ∈ cs, u.oneCell' = true := by
  obtain ⟨A, n, c, rfl, _⟩ := h
  exact ⟨[_, _, _], rfl, rfl, by simp [Value.oneCell']⟩
end

/-- Cells that are files, one behind the other. -/
def Fx (w : World) (S : Nat → Prop) : List Value → List Fl → Prop
  | xs, [] => xs = []
  | xs, f :: fs => ∃ a b c r, xs = a :: b :: c :: r ∧ FlV w S (.agg #[a, b, c]) f ∧ Fx w S r fs
theorem Fx.keep {w w' : World} {S S' : Nat → Prop} (hv : ∀ v f, FlV w S v f → FlV w' S' v f) : ∀ (fs : List Fl) (xs : List Value), Fx w S xs fs → Fx w' S' xs fs := by
  intro fs
  induction fs with
  | nil => intro xs h; exact h
  | cons f fs ih =>
    intro xs h
    obtain ⟨a, b, c, r, rfl, h1, h2⟩ := h
    exact ⟨a, b, c, r, rfl, hv _ _ h1, ih r h2⟩
theorem Fx.drewN {w : World} {S : Nat → Prop} {fs : List Fl} {xs : List Value} (h : Fx w S xs fs) (q : Nat) : Fx (w.drewN q) S xs fs := Fx.keep (w := w) (w' := w.drewN q) (fun v f hv => hv) fs xs h
theorem Fx.turn {w w' : World} {S : Nat → Prop} {fs : List Fl} {xs : List Value} (h : Fx w S xs fs) (ht : Turn S w w') : Fx w' S xs fs := Fx.keep (fun v f hv => hv.turn ht) fs xs h
theorem Fx.less {w : World} {S S' : Nat → Prop} {fs : List Fl} {xs : List Value} (h : Fx w S xs fs) (hs : ∀ k, S' k → S k) : Fx w S' xs fs := Fx.keep (fun v f hv => hv.less hs) fs xs h
theorem Fx.side {w w' W : World} {S : Nat → Prop} {B : Nat} {fs : List Fl} {xs : List Value} (h : Fx w S xs fs) (hS : ∀ k, B ≤ k → S k) (h1 : Below B W w) (h2 : Below B W w') : Fx w' S xs fs := Fx.keep (fun v f hv => hv.side hS h1 h2) fs xs h
theorem Fx.len {w : World} {S : Nat → Prop} : ∀ (fs : List Fl) (xs : List Value), Fx w S xs fs → xs.length = fs.length * 3 := by
  intro fs
  induction fs with
  | nil => intro xs h; have h' : xs = [] := h; subst h'; rfl
  | cons f fs ih =>
    intro xs h
    obtain ⟨a, b, c, r, rfl, h1, h2⟩ := h
    have := ih r h2
    simp only [List.length_cons]
    omega
theorem Fx.snoc {w : World} {S : Nat → Prop} {f : Fl} {a b c : Value} (hf : FlV w S (.agg #[a, b, c]) f) : ∀ (fs : List Fl) (xs : List Value), Fx w S xs fs → Fx w S (xs ++ [a, b, c]) (fs ++ [f]) := by
  intro fs
  induction fs with
  | nil =>
    intro xs h
    have h' : xs = [] := h
    subst h'
    exact ⟨a, b, c, [], rfl, hf, rfl⟩
  | cons g fs ih =>
    intro xs h
    obtain ⟨p, q, s, r, rfl, h1, h2⟩ := h
    exact ⟨p, q, s, r ++ [a, b, c], rfl, h1, ih r h2⟩
theorem Fx.at_ {w : World} {S : Nat → Prop} : ∀ (fs : List Fl) (xs : List Value) (j : Nat) (f : Fl), Fx w S xs fs → fs[j]? = some f → ∃ a b c, xs[j * 3]? = some a ∧ xs[j * 3 + 1]? = some b ∧ xs[j * 3 + 2]? = some c ∧ FlV w S (.agg #[a, b, c]) f := by
  intro fs
  induction fs with
  | nil => intro xs j f _ h; cases h
  | cons g fs ih =>
    intro xs j f h hj
    obtain ⟨p, q, s, r, rfl, h1, h2⟩ := h
    cases j with
    | zero =>
      have : g = f := by simpa using hj
      subst this
      exact ⟨p, q, s, rfl, rfl, rfl, h1⟩
    | succ j =>
      obtain ⟨a, b, c, e0, e1, e2, hv⟩ := ih r j f h2 (by simpa using hj)
      refine ⟨a, b, c, ?_, ?_, ?_, hv⟩
      · rw [show (j + 1) * 3 = j * 3 + 1 + 1 + 1 by omega]; simpa using e0
      · rw [show (j + 1) * 3 + 1 = j * 3 + 1 + 1 + 1 + 1 by omega]; simpa using e1
      · rw [show (j + 1) * 3 + 2 = j * 3 + 2 + 1 + 1 + 1 by omega]; simpa using e2

/-- The slice value '.slice A n c' reads as the files fs, all of it off S. -/
def Fls (w : World) (S : Nat → Prop) (A : Option Addr) (n : Nat) (fs : List Fl) : Prop :=
  fs.length = n ∧ (0 < n → ∃ b o, A = some ⟨b, o, none⟩ ∧ ¬ S b ∧ ∀ (j : Nat) (f : Fl), fs[j]? = some f → ∃ y0 y1 y2, w.cell? ⟨b, o + j * 3, none⟩ = some y0 ∧ w.cell? ⟨b, o + j * 3 + 1, none⟩ = some y1 ∧ w.cell? ⟨b, o + j * 3 + 2, none⟩ = some y2 ∧ FlV w S (.agg #[y0, y1, y2]) f)
theorem Fls.nil {w : World} {S : Nat → Prop} {A : Option Addr} : Fls w S A 0 [] := ⟨rfl, fun h => absurd h (by omega)⟩
theorem Fls.turn {w w' : World} {S : Nat → Prop} {n : Nat} {A : Option Addr} {fs : List Fl} (h : Fls w S A n fs) (ht : Turn S w w') : Fls w' S A n fs :=
  ⟨h.1, fun hn => by
    obtain ⟨b, o, e, hb, hf⟩ := h.2 hn
    refine ⟨b, o, e, hb, fun j f hj => ?_⟩
    obtain ⟨y0, y1, y2, h0, h1, h2, hv⟩ := hf j f hj
    exact ⟨y0, y1, y2, ht.at_ h0 hb, ht.at_ h1 hb, ht.at_ h2 hb, hv.turn ht⟩⟩
theorem Fls.less {w : World} {S S' : Nat → Prop} {n : Nat} {A : Option Addr} {fs : List Fl} (h : Fls w S A n fs) (hs : ∀ k, S' k → S k) : Fls w S' A n fs :=
  ⟨h.1, fun hn => by
    obtain ⟨b, o, e, hb, hf⟩ := h.2 hn
    refine ⟨b, o, e, fun x => hb (hs b x), fun j f hj => ?_⟩
    obtain ⟨y0, y1, y2, h0, h1, h2, hv⟩ := hf j f hj
    exact ⟨y0, y1, y2, h0, h1, h2, hv.less hs⟩⟩
theorem Fls.more {w : World} {S S' : Nat → Prop} {n : Nat} {A : Option Addr} {fs : List Fl} (h : Fls w S A n fs) (hs : ∀ k, S' k → k < w.heap.size → S k) : Fls w S' A n fs :=
  ⟨h.1, fun hn => by
    obtain ⟨b, o, e, hb, hf⟩ := h.2 hn
    have hb2 : ¬ S' b := fun x => hb (hs b x (by
      obtain ⟨y0, _, _, h0, _⟩ := hf 0 _ (List.getElem?_eq_getElem (by have := h.1; omega))
      exact block_lt_of_cell h0))
    refine ⟨b, o, e, hb2, fun j f hj => ?_⟩
    obtain ⟨y0, y1, y2, h0, h1, h2, hv⟩ := hf j f hj
    exact ⟨y0, y1, y2, h0, h1, h2, hv.more hs⟩⟩
theorem Fls.of_own {w : World} {base n c : Nat} {e : TypeId} {S : Nat → Prop} {A : Option Addr} {xs : List Value} {fs : List Fl} (h : w.ownsRow base e 3 (.slice A n c) n xs) (hx : Fx w S xs fs) (hS : ∀ k, S k → k < base) : Fls w S A n fs := by
  have hl := Fx.len fs xs hx
  have h1 : xs.length = n * 3 := h.1
  refine ⟨by omega, fun hn => ?_⟩
  have hlt := h.lt
  rcases h.2 with ⟨_, h0⟩ | ⟨g, cap, cur, hv, _, hh, _⟩
  · omega
  · injection hv with hA
    subst hA
    refine ⟨g, 0, rfl, fun x => by have h2 := (hlt g rfl).1; have h3 := hS g x; omega, fun j f hj => ?_⟩
    obtain ⟨a, b, c, e0, e1, e2, hf⟩ := Fx.at_ fs xs j f hx hj
    have hc : ∀ i u, xs[i]? = some u → w.cell? ⟨g, 0 + i, none⟩ = some u := fun i u hu => by
      have := h.cells (g := g) rfl i u hu
      rw [Addr.add_lit] at this
      exact this
    exact ⟨a, b, c, hc _ _ e0, hc _ _ e1, hc _ _ e2, hf⟩

/-- A slice that is owned has a spelling, whatever its elements. -/
theorem own_formk {w : World} {base k n : Nat} {e : TypeId} {v : Value} {xs : List Value} (h : w.ownsRow base e k v n xs) : ∃ A c, v = .slice A n c ∧ (A = none → n = 0 ∧ c = 0) ∧ n ≤ c ∧ c ≤ maxLen := by
  rcases h.2 with ⟨rfl, rfl⟩ | ⟨g, cap, cur, rfl, _, _, hn, hm, _⟩
  · exact ⟨none, 0, rfl, fun _ => ⟨rfl, rfl⟩, Nat.le_refl _, Nat.zero_le _⟩
  · exact ⟨_, cap, rfl, (fun h => by cases h), hn, hm⟩
/-- One file appended to a row of the call's own; the walk has just laid it in a block of its own. -/
theorem wpList_append_fl {P : Program} {ops : Array Oper} {rest : List Oper} {o : Oper} {a : Act} {Q : Exit → Act → World → Prop} {wr W0 : World} {B0 : Nat} {S : Nat → Prop} (ob : TypeId) (hgd : o.guard = none) (s x : Operand) (t : TypeId)
    (ho : o.op = .call { callee := .builtin .append, args := #[s, x], argTypes := #[t, t] }) (e : TypeId) (i : TypeInfo) (z : Value) (ht : P.underlying t = some (.slice e)) (hi : P.info? e = some i) (hz : i.zero = some z) (hsize : i.size = 3) (hby : i.bytes = 48) (hzs : z.cells.size = 3)
    (v : Value) (gs : List Fl) (xs : List Value) (hs : a.eval s = v) (hown : wr.ownsRow B0 e 3 v gs.length xs) (hx : Fx wr S xs gs) (hb : Below B0 W0 wr) (hB0 : B0 ≤ wr.heap.size) (hS : ∀ k, B0 ≤ k → S k)
    (p q r : Value) (f : Fl) (hv : FlV wr S (.agg #[p, q, r]) f) (hxe : a.eval x = .slice (some ⟨wr.heap.size, 0, none⟩) 1 1) (hn : gs.length ≤ 1000000)
    (h : ∀ v' w', (w'.ownsRow B0 e 3 v' (gs ++ [f]).length (xs ++ [p, q, r]) ∧ Fx w' S (xs ++ [p, q, r]) (gs ++ [f]) ∧ Below B0 W0 w' ∧ B0 ≤ w'.heap.size) → wpList P ops Q rest (a.put o.dst v') w') : wpList P ops Q (o :: rest) a (wr.alloc (.cells #[p, q, r] ob)) := by
  refine wpList_append_own _ hgd s x t ho B0 e i z 3 48 ht hi hz hsize hby hzs (by decide) v gs.length xs hs (hown.alloc _) ⟨wr.heap.size, 0, none⟩ 1 1 [p, q, r] hxe rfl ?_ ?_ (by unfold maxLen; omega) (by omega) (by simp; omega) ?_
  · intro j y hy
    rw [Addr.add_lit, Nat.zero_add, World.cell?_alloc_new]
    simpa using hy
  · intro u hu
    obtain ⟨cs, e1, _, h1⟩ := flV_cells hv
    have e2 : [p, q, r] = cs := by
      have := congrArg (fun v => match v with | Value.agg c => c.toList | _ => []) e1
      simpa using this
    exact h1 u (by rw [← e2]; exact hu)
  · intro v' w' hown' hgrow _
    have hb' : Below B0 W0 w' := (hb.alloc hB0 _).grown hgrow (by simp; omega) (fun q hq => (hown.lt q hq).1)
    refine h v' w' ⟨by rw [List.length_append]; exact hown', Fx.snoc (hv.side hS hb hb') _ _ (hx.side hS hb hb'), hb', ?_⟩
    have h1 := hgrow.size
    simp at h1
    omega

end Go.Proofs.YthjikbhjciphiaaGreatDoor
