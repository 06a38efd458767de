/-
  Structs in memory by their parts: a part's value, a struct's cells, a slice of structs, a row of structs of the call's own. No program stands here.
-/
import Derived.Test.YthjikbhjciphiaaGreatDoorZz8
import Derived.Test.YthjikbhjciphiaaGreatDoorZz2
import Derived.Laws.AppendOwn
import Derived.Test.YthjikbhjciphiaaGreatDoorZz4
import Derived.BigRegion
import Derived.BigQuiet
namespace Go.Proofs.YthjikbhjciphiaaGreatDoor
open Go.RowKit
set_option linter.unusedVariables false
set_option linter.unusedSimpArgs false

/-- A part of a struct: a number, a text, bytes, a truth. -/
inductive Prt where
  | num (k : IntKind) (z : Int)
  | txt (l : List UInt8)
  | byt (l : List UInt8)
  | flag (b : Bool)
/-- The value of a part, its bytes off S. -/
def PrtV (w : World) (S : Nat → Prop) (v : Value) : Prt → Prop
  | .num k z => v = .int k z
  | .txt l => v = .string ⟨l.toArray⟩
  | .byt l => ∃ A n c, v = .slice A n c ∧ BytS w S A n l ∧ (A = none → n = 0 ∧ c = 0) ∧ n ≤ c ∧ c ≤ maxLen
  | .flag b => v = .bool b
/-- Cells that are parts, one behind the other. -/
def PrtsV (w : World) (S : Nat → Prop) : List Value → List Prt → Prop
  | xs, [] => xs = []
  | xs, p :: ps => ∃ v r, xs = v :: r ∧ PrtV w S v p ∧ PrtsV w S r ps
section
variable {w w' W : World} {S S' : Nat → Prop} {v : Value} {p : Prt} {B : Nat}
theorem PrtV.turn (h : PrtV w S v p) (ht : Turn S w w') : PrtV w' S v p := by
  cases p with
  | byt l =>
    obtain ⟨A, n, c, h1, h2, h3⟩ := h
    exact ⟨A, n, c, h1, h2.turn ht, h3⟩
  | _ => exact h
theorem PrtV.less (h : PrtV w S v p) (hs : ∀ k, S' k → S k) : PrtV w S' v p := by
  cases p with
  | byt l =>
    obtain ⟨A, n, c, h1, h2, h3⟩ := h
    exact ⟨A, n, c, h1, h2.less hs, h3⟩
  | _ => exact h
theorem PrtV.more (h : PrtV w S v p) (hs : ∀ k, S' k → k < w.heap.size → S k) : PrtV w S' v p := by
  cases p with
  | byt l =>
    obtain ⟨A, n, c, h1, h2, h3⟩ := h
    exact ⟨A, n, c, h1, h2.more hs, h3⟩
  | _ => exact h
/-- From one world behind W to another one. -/
theorem PrtV.side (h : PrtV w S v p) (hS : ∀ k, B ≤ k → S k) (h1 : Below B W w) (h2 : Below B W w') : PrtV w' S v p := by
  cases p with
  | byt l =>
    obtain ⟨A, n, c, e, hb, h3⟩ := h
    refine ⟨A, n, c, e, ⟨hb.1, fun hn => ?_⟩, h3⟩
    obtain ⟨b, o, e1, hs, hc⟩ := hb.2 hn
    have hlt : b < B := by
      rcases Nat.lt_or_ge b B with h | h
      · exact h
      · exact absurd (hS b h) hs
    exact ⟨b, o, e1, hs, fun j x hx => ((h2.cell (p := ⟨b, o + j, none⟩) hlt).trans (h1.cell (p := ⟨b, o + j, none⟩) hlt).symm).trans (hc j x hx)⟩
  | _ => exact h
theorem PrtV.one (h : PrtV w S v p) : v.oneCell' = true := by
  cases p with
  | byt l =>
    obtain ⟨A, n, c, h1, _⟩ := h
    rw [h1]; rfl
  | num k z => have h' : v = .int k z := h; rw [h']; rfl
  | txt l => have h' : v = .string ⟨l.toArray⟩ := h; rw [h']; rfl
  | flag b => have h' : v = .bool b := h; rw [h']; rfl
end

section
variable {w w' W : World} {S S' : Nat → Prop} {B : Nat}
theorem PrtsV.keep (hv : ∀ v p, PrtV w S v p → PrtV w' S' v p) : ∀ (ps : List Prt) (xs : List Value), PrtsV w S xs ps → PrtsV w' S' xs ps := by
  intro ps
  induction ps with
  | nil => intro xs h; exact h
  | cons p ps ih =>
    intro xs h
    obtain ⟨v, r, rfl, h1, h2⟩ := h
    exact ⟨v, r, rfl, hv _ _ h1, ih r h2⟩
theorem PrtsV.turn {ps : List Prt} {xs : List Value} (h : PrtsV w S xs ps) (ht : Turn S w w') : PrtsV w' S xs ps := PrtsV.keep (fun v p hv => hv.turn ht) ps xs h
theorem PrtsV.less {ps : List Prt} {xs : List Value} (h : PrtsV w S xs ps) (hs : ∀ k, S' k → S k) : PrtsV w S' xs ps := PrtsV.keep (fun v p hv => hv.less hs) ps xs h
theorem PrtsV.more {ps : List Prt} {xs : List Value} (h : PrtsV w S xs ps) (hs : ∀ k, S' k → k < w.heap.size → S k) : PrtsV w S' xs ps := PrtsV.keep (fun v p hv => hv.more hs) ps xs h
theorem PrtsV.side {ps : List Prt} {xs : List Value} (h : PrtsV w S xs ps) (hS : ∀ k, B ≤ k → S k) (h1 : Below B W w) (h2 : Below B W w') : PrtsV w' S xs ps := PrtsV.keep (fun v p hv => hv.side hS h1 h2) ps xs h
theorem PrtsV.len : ∀ (ps : List Prt) (xs : List Value), PrtsV w S xs ps → xs.length = ps.length := by
  intro ps
  induction ps with
  | nil => intro xs h; have h' : xs = [] := h; subst h'; rfl
  | cons p ps ih =>
    intro xs h
    obtain ⟨v, r, rfl, _, h2⟩ := h
    simp [ih r h2]
theorem PrtsV.one : ∀ (ps : List Prt) (xs : List Value), PrtsV w S xs ps → ∀ u ∈ xs, u.oneCell' = true := by
  intro ps
  induction ps with
  | nil => intro xs h u hu; have h' : xs = [] := h; subst h'; cases hu
  | cons p ps ih =>
    intro xs h u hu
    obtain ⟨v, r, rfl, h1, h2⟩ := h
    rcases List.mem_cons.1 hu with rfl | hu
    · exact h1.one
    · exact ih r h2 u hu
theorem PrtsV.append : ∀ (ps : List Prt) (xs : List Value) (qs : List Prt) (ys : List Value), PrtsV w S xs ps → PrtsV w S ys qs → PrtsV w S (xs ++ ys) (ps ++ qs) := by
  intro ps
  induction ps with
  | nil => intro xs qs ys h h2; have h' : xs = [] := h; subst h'; exact h2
  | cons p ps ih =>
    intro xs qs ys h h2
    obtain ⟨v, r, rfl, h1, h3⟩ := h
    exact ⟨v, r ++ ys, rfl, h1, ih r qs ys h3 h2⟩
theorem PrtsV.drop : ∀ (i : Nat) (ps : List Prt) (xs : List Value), PrtsV w S xs ps → PrtsV w S (xs.drop i) (ps.drop i) := by
  intro i
  induction i with
  | zero => intro ps xs h; exact h
  | succ i ih =>
    intro ps xs h
    cases ps with
    | nil => have h' : xs = [] := h; subst h'; exact rfl
    | cons p ps =>
      obtain ⟨v, r, rfl, _, h2⟩ := h
      exact ih ps r h2
theorem PrtsV.take : ∀ (i : Nat) (ps : List Prt) (xs : List Value), PrtsV w S xs ps → PrtsV w S (xs.take i) (ps.take i) := by
  intro i
  induction i with
  | zero => intro ps xs h; exact rfl
  | succ i ih =>
    intro ps xs h
    cases ps with
    | nil => have h' : xs = [] := h; subst h'; exact rfl
    | cons p ps =>
      obtain ⟨v, r, rfl, h1, h2⟩ := h
      exact ⟨v, r.take i, rfl, h1, ih ps r h2⟩
end

/-- Lists of one length, one behind the other: where the j-th one stands. -/
theorem flat_at {α : Type} {k : Nat} : ∀ (fs : List (List α)) (j : Nat) (f : List α), (∀ g ∈ fs, g.length = k) → fs[j]? = some f → (fs.flatten.drop (j * k)).take k = f := by
  intro fs
  induction fs with
  | nil => intro j f _ h; cases h
  | cons g fs ih =>
    intro j f hk h
    have hg := hk g List.mem_cons_self
    cases j with
    | zero =>
      have e : g = f := by simpa using h
      subst e
      simp [List.take_append, hg]
    | succ j =>
      have := ih j f (fun x hx => hk x (List.mem_cons_of_mem _ hx)) (by simpa using h)
      rw [List.flatten_cons, show (j + 1) * k = g.length + j * k by rw [hg, Nat.succ_mul]; omega, List.drop_append]
      simpa [List.drop_eq_nil_of_le] using this
theorem flat_len {α : Type} {k : Nat} : ∀ (fs : List (List α)), (∀ g ∈ fs, g.length = k) → fs.flatten.length = fs.length * k := by
  intro fs
  induction fs with
  | nil => intro _; simp
  | cons g fs ih =>
    intro hk
    have hg := hk g List.mem_cons_self
    have := ih fun x hx => hk x (List.mem_cons_of_mem _ hx)
    rw [List.flatten_cons, List.length_append, this, hg, List.length_cons, Nat.succ_mul]
    omega

/-- The slice value '.slice A n c' reads as the structs fs, k parts each, all of it off S. -/
def Sls (w : World) (S : Nat → Prop) (k : Nat) (A : Option Addr) (n : Nat) (fs : List (List Prt)) : Prop :=
  fs.length = n ∧ (∀ f ∈ fs, f.length = k) ∧ (0 < n → ∃ b o, A = some ⟨b, o, none⟩ ∧ ¬ S b ∧ b < w.heap.size ∧ ∀ (j : Nat) (f : List Prt), fs[j]? = some f → ∃ ys, PrtsV w S ys f ∧ ∀ (i : Nat) (y : Value), ys[i]? = some y → w.cell? ⟨b, o + j * k + i, none⟩ = some y)
section
variable {w w' W : World} {S S' : Nat → Prop} {k n : Nat} {A : Option Addr} {fs : List (List Prt)}
theorem Sls.nil : Sls w S k A 0 [] := ⟨rfl, fun _ h => (by cases h), fun h => absurd h (by omega)⟩
theorem Sls.turn (h : Sls w S k A n fs) (ht : Turn S w w') : Sls w' S k A n fs :=
  ⟨h.1, h.2.1, fun hn => by
    obtain ⟨b, o, e, hb, hl, hf⟩ := h.2.2 hn
    refine ⟨b, o, e, hb, Nat.lt_of_lt_of_le hl ht.size, fun j f hj => ?_⟩
    obtain ⟨ys, h1, h2⟩ := hf j f hj
    exact ⟨ys, h1.turn ht, fun i y hy => ht.at_ (h2 i y hy) hb⟩⟩
theorem Sls.less (h : Sls w S k A n fs) (hs : ∀ k, S' k → S k) : Sls w S' k A n fs :=
  ⟨h.1, h.2.1, fun hn => by
    obtain ⟨b, o, e, hb, hl, hf⟩ := h.2.2 hn
    refine ⟨b, o, e, fun x => hb (hs b x), hl, fun j f hj => ?_⟩
    obtain ⟨ys, h1, h2⟩ := hf j f hj
    exact ⟨ys, h1.less hs, h2⟩⟩
theorem Sls.more (h : Sls w S k A n fs) (hs : ∀ k, S' k → k < w.heap.size → S k) : Sls w S' k A n fs :=
  ⟨h.1, h.2.1, fun hn => by
    obtain ⟨b, o, e, hb, hl, hf⟩ := h.2.2 hn
    refine ⟨b, o, e, fun x => hb (hs b x hl), hl, fun j f hj => ?_⟩
    obtain ⟨ys, h1, h2⟩ := hf j f hj
    exact ⟨ys, h1.more hs, h2⟩⟩
theorem Sls.take (h : Sls w S k A n fs) {m : Nat} (hm : m ≤ n) : Sls w S k A m (fs.take m) := by
  refine ⟨by rw [List.length_take, h.1]; omega, fun f hf => h.2.1 f (List.mem_of_mem_take hf), fun h0 => ?_⟩
  obtain ⟨b, o, e, hb, hl, hf⟩ := h.2.2 (by omega)
  refine ⟨b, o, e, hb, hl, fun j f hj => hf j f ?_⟩
  rw [List.getElem?_take] at hj
  split at hj
  · exact hj
  · cases hj
/-- The j-th struct: where it stands, and its cells. -/
theorem Sls.at_ (h : Sls w S k A n fs) {j : Nat} {f : List Prt} (hj : fs[j]? = some f) : ∃ b o ys, A = some ⟨b, o, none⟩ ∧ ¬ S b ∧ b < w.heap.size ∧ PrtsV w S ys f ∧ f.length = k ∧ ∀ (i : Nat) (y : Value), ys[i]? = some y → w.cell? ⟨b, o + j * k + i, none⟩ = some y := by
  have hl := (List.getElem?_eq_some_iff.1 hj).1
  obtain ⟨b, o, e, hb, hl, hf⟩ := h.2.2 (by have := h.1; omega)
  obtain ⟨ys, h1, h2⟩ := hf j f hj
  exact ⟨b, o, ys, e, hb, hl, h1, h.2.1 f (List.mem_of_getElem? hj), h2⟩
theorem Sls.of_own {base c : Nat} {e : TypeId} {xs : List Value} (h : w.ownsRow base e k (.slice A n c) n xs) (hx : PrtsV w S xs fs.flatten) (hk : ∀ f ∈ fs, f.length = k) (hn : fs.length = n) (hS : ∀ k, S k → k < base ∨ w.heap.size ≤ k) : Sls w S k A n fs := by
  refine ⟨hn, hk, fun h0 => ?_⟩
  have hlt := h.lt
  have h1 : xs.length = n * k := h.1
  rcases h.2 with ⟨_, h0'⟩ | ⟨g, cap, cur, hv, _, hh, _⟩
  · omega
  · injection hv with hA
    subst hA
    refine ⟨g, 0, rfl, fun x => by have h2 := hlt g rfl; have h3 := hS g x; omega, (hlt g rfl).2, fun j f hj => ?_⟩
    have hf := flat_at fs j f hk hj
    have hp := PrtsV.take k _ _ (PrtsV.drop (j * k) _ _ hx)
    rw [hf] at hp
    refine ⟨_, hp, fun i y hy => ?_⟩
    rw [List.getElem?_take] at hy
    split at hy
    · rw [List.getElem?_drop] at hy
      have := h.cells (g := g) rfl _ y hy
      rw [Addr.add_lit] at this
      rw [Nat.add_assoc]
      exact this
    · cases hy
end

/-- One struct appended to a row of the call's own; the walk has just laid it in a block of its own; what turned. -/
theorem wpList_append_prt2 {P : Program} {ops : Array Oper} {rest : List Oper} {o : Oper} {a : Act} {Q : Exit → Act → World → Prop} {wr W0 : World} {B0 : Nat} {S : Nat → Prop} (ob : TypeId) (hgd : o.guard = none) (s x : Operand) (t : TypeId)
    (ho : o.op = .call { callee := .builtin .append, args := #[s, x], argTypes := #[t, t] }) (e : TypeId) (i : TypeInfo) (z : Value) (k nb : Nat) (ht : P.underlying t = some (.slice e)) (hi : P.info? e = some i) (hz : i.zero = some z) (hsize : i.size = k) (hby : i.bytes = nb) (hzs : z.cells.size = k) (hk : 0 < k) (hnb : nb ≤ 1000)
    (v : Value) (gs : List (List Prt)) (xs : List Value) (hs : a.eval s = v) (hown : wr.ownsRow B0 e k v gs.length xs) (hx : PrtsV wr S xs gs.flatten) (hb : Below B0 W0 wr) (hB0 : B0 ≤ wr.heap.size) (hS : ∀ k, B0 ≤ k → S k)
    (cs : List Value) (f : List Prt) (hv : PrtsV wr S cs f) (hf : f.length = k) (hxe : a.eval x = .slice (some ⟨wr.heap.size, 0, none⟩) 1 1) (hn : gs.length ≤ 1000000)
    (h : ∀ v' w', (w'.ownsRow B0 e k v' (gs ++ [f]).length (xs ++ cs) ∧ PrtsV w' S (xs ++ cs) (gs ++ [f]).flatten ∧ Below B0 W0 w' ∧ B0 ≤ w'.heap.size ∧ (wr.alloc (.cells cs.toArray ob)).grownBy w' v.ownBlock) → wpList P ops Q rest (a.put o.dst v') w') : wpList P ops Q (o :: rest) a (wr.alloc (.cells cs.toArray ob)) := by
  have hcs := PrtsV.len f cs hv
  refine wpList_append_own _ hgd s x t ho B0 e i z k nb ht hi hz hsize hby hzs hk v gs.length xs hs (hown.alloc _) ⟨wr.heap.size, 0, none⟩ 1 1 cs hxe (by rw [hcs, hf, Nat.one_mul]) ?_ ?_ (by unfold maxLen; omega) ?_ (by simp; omega) ?_
  · intro j y hy
    rw [Addr.add_lit, Nat.zero_add, World.cell?_alloc_new]
    simpa using hy
  · exact PrtsV.one f cs hv
  · exact Nat.le_trans (Nat.mul_le_mul_left _ hnb) (by omega)
  · intro v' w' hown' hgrow _
    have hb' : Below B0 W0 w' := (hb.alloc hB0 _).grown hgrow (by simp; omega) (fun q hq => (hown.lt q hq).1)
    refine h v' w' ⟨by rw [List.length_append]; exact hown', ?_, hb', ?_, hgrow⟩
    · rw [List.flatten_append]
      refine PrtsV.append _ _ _ _ (hx.side hS hb hb') ?_
      simpa using hv.side hS hb hb'
    have h1 := hgrow.size
    simp at h1
    omega

/-- One struct appended to a row of the call's own; the walk has just laid it in a block of its own. -/
theorem wpList_append_prt {P : Program} {ops : Array Oper} {rest : List Oper} {o : Oper} {a : Act} {Q : Exit → Act → World → Prop} {wr W0 : World} {B0 : Nat} {S : Nat → Prop} (ob : TypeId) (hgd : o.guard = none) (s x : Operand) (t : TypeId)
    (ho : o.op = .call { callee := .builtin .append, args := #[s, x], argTypes := #[t, t] }) (e : TypeId) (i : TypeInfo) (z : Value) (k nb : Nat) (ht : P.underlying t = some (.slice e)) (hi : P.info? e = some i) (hz : i.zero = some z) (hsize : i.size = k) (hby : i.bytes = nb) (hzs : z.cells.size = k) (hk : 0 < k) (hnb : nb ≤ 1000)
    (v : Value) (gs : List (List Prt)) (xs : List Value) (hs : a.eval s = v) (hown : wr.ownsRow B0 e k v gs.length xs) (hx : PrtsV wr S xs gs.flatten) (hb : Below B0 W0 wr) (hB0 : B0 ≤ wr.heap.size) (hS : ∀ k, B0 ≤ k → S k)
    (cs : List Value) (f : List Prt) (hv : PrtsV wr S cs f) (hf : f.length = k) (hxe : a.eval x = .slice (some ⟨wr.heap.size, 0, none⟩) 1 1) (hn : gs.length ≤ 1000000)
    (h : ∀ v' w', (w'.ownsRow B0 e k v' (gs ++ [f]).length (xs ++ cs) ∧ PrtsV w' S (xs ++ cs) (gs ++ [f]).flatten ∧ Below B0 W0 w' ∧ B0 ≤ w'.heap.size) → wpList P ops Q rest (a.put o.dst v') w') : wpList P ops Q (o :: rest) a (wr.alloc (.cells cs.toArray ob)) :=
  wpList_append_prt2 ob hgd s x t ho e i z k nb ht hi hz hsize hby hzs hk hnb v gs xs hs hown hx hb hB0 hS cs f hv hf hxe hn fun v' w' hh => h v' w' ⟨hh.1, hh.2.1, hh.2.2.1, hh.2.2.2.1⟩

end Go.Proofs.YthjikbhjciphiaaGreatDoor

/-
  Files in memory: a file's value, a slice of files, a row of files of the call's own. No program stands here.
-/
namespace Go.Proofs.YthjikbhjciphiaaGreatDoor
open Go.RowKit
set_option linter.unusedVariables false
set_option linter.unusedSimpArgs false

/-- A file: its name, its bytes, how many of them are sure. -/
structure Fl where
  name : List UInt8
  data : List UInt8
  sure : Nat

/-- The value of a file, its bytes off S. -/
def FlV (w : World) (S : Nat → Prop) (v : Value) (f : Fl) : Prop :=
  ∃ A n c, v = .agg #[.string ⟨f.name.toArray⟩, .slice A n c, .int .i64 ((f.sure : Nat) : Int)] ∧ BytS w S A n f.data ∧ (A = none → n = 0 ∧ c = 0) ∧ n ≤ c ∧ c ≤ maxLen
section
variable {w w' W : World} {S S' : Nat → Prop} {v : Value} {f : Fl} {B : Nat}
theorem FlV.turn (h : FlV w S v f) (ht : Turn S w w') : FlV w' S v f := by
  obtain ⟨A, n, c, h1, h2, h3⟩ := h
  exact ⟨A, n, c, h1, h2.turn ht, h3⟩
theorem FlV.less (h : FlV w S v f) (hs : ∀ k, S' k → S k) : FlV w S' v f := by
  obtain ⟨A, n, c, h1, h2, h3⟩ := h
  exact ⟨A, n, c, h1, h2.less hs, h3⟩
theorem FlV.more (h : FlV w S v f) (hs : ∀ k, S' k → k < w.heap.size → S k) : FlV w S' v f := by
  obtain ⟨A, n, c, h1, h2, h3⟩ := h
  exact ⟨A, n, c, h1, h2.more hs, h3⟩
/-- From one world behind W to another one. -/
theorem FlV.side (h : FlV w S v f) (hS : ∀ k, B ≤ k → S k) (h1 : Below B W w) (h2 : Below B W w') : FlV w' S v f := by
  obtain ⟨A, n, c, e, hb, h3⟩ := h
  refine ⟨A, n, c, e, ⟨hb.1, fun hn => ?_⟩, h3⟩
  obtain ⟨b, o, e1, hs, hc⟩ := hb.2 hn
  have hlt : b < B := by
    rcases Nat.lt_or_ge b B with h | h
    · exact h
    · exact absurd (hS b h) hs
  exact ⟨b, o, e1, hs, fun j x hx => ((h2.cell (p := ⟨b, o + j, none⟩) hlt).trans (h1.cell (p := ⟨b, o + j, none⟩) hlt).symm).trans (hc j x hx)⟩
theorem flV_cells (h : FlV w S v f) : ∃ cs : List Value, v = .agg cs.toArray ∧ cs.length = 3 ∧ ∀ u ∈ cs, u.oneCell' = true := by
  obtain ⟨A, n, c, rfl, _⟩ := h
  exact ⟨[_, _, _], rfl, rfl, by simp [Value.oneCell']⟩
end

/-- Cells that are files, one behind the other. -/
def Fx (w : World) (S : Nat → Prop) : List Value → List Fl → Prop
  | xs, [] => xs = []
  | xs, f :: fs => ∃ a b c r, xs = a :: b :: c :: r ∧ FlV w S (.agg #[a, b, c]) f ∧ Fx w S r fs
theorem Fx.keep {w w' : World} {S S' : Nat → Prop} (hv : ∀ v f, FlV w S v f → FlV w' S' v f) : ∀ (fs : List Fl) (xs : List Value), Fx w S xs fs → Fx w' S' xs fs := by
  intro fs
  induction fs with
  | nil => intro xs h; exact h
  | cons f fs ih =>
    intro xs h
    obtain ⟨a, b, c, r, rfl, h1, h2⟩ := h
    exact ⟨a, b, c, r, rfl, hv _ _ h1, ih r h2⟩
theorem Fx.drewN {w : World} {S : Nat → Prop} {fs : List Fl} {xs : List Value} (h : Fx w S xs fs) (q : Nat) : Fx (w.drewN q) S xs fs := Fx.keep (w := w) (w' := w.drewN q) (fun v f hv => hv) fs xs h
theorem Fx.turn {w w' : World} {S : Nat → Prop} {fs : List Fl} {xs : List Value} (h : Fx w S xs fs) (ht : Turn S w w') : Fx w' S xs fs := Fx.keep (fun v f hv => hv.turn ht) fs xs h
theorem Fx.less {w : World} {S S' : Nat → Prop} {fs : List Fl} {xs : List Value} (h : Fx w S xs fs) (hs : ∀ k, S' k → S k) : Fx w S' xs fs := Fx.keep (fun v f hv => hv.less hs) fs xs h
theorem Fx.side {w w' W : World} {S : Nat → Prop} {B : Nat} {fs : List Fl} {xs : List Value} (h : Fx w S xs fs) (hS : ∀ k, B ≤ k → S k) (h1 : Below B W w) (h2 : Below B W w') : Fx w' S xs fs := Fx.keep (fun v f hv => hv.side hS h1 h2) fs xs h
theorem Fx.len {w : World} {S : Nat → Prop} : ∀ (fs : List Fl) (xs : List Value), Fx w S xs fs → xs.length = fs.length * 3 := by
  intro fs
  induction fs with
  | nil => intro xs h; have h' : xs = [] := h; subst h'; rfl
  | cons f fs ih =>
    intro xs h
    obtain ⟨a, b, c, r, rfl, h1, h2⟩ := h
    have := ih r h2
    simp only [List.length_cons]
    omega
theorem Fx.snoc {w : World} {S : Nat → Prop} {f : Fl} {a b c : Value} (hf : FlV w S (.agg #[a, b, c]) f) : ∀ (fs : List Fl) (xs : List Value), Fx w S xs fs → Fx w S (xs ++ [a, b, c]) (fs ++ [f]) := by
  intro fs
  induction fs with
  | nil =>
    intro xs h
    have h' : xs = [] := h
    subst h'
    exact ⟨a, b, c, [], rfl, hf, rfl⟩
  | cons g fs ih =>
    intro xs h
    obtain ⟨p, q, s, r, rfl, h1, h2⟩ := h
    exact ⟨p, q, s, r ++ [a, b, c], rfl, h1, ih r h2⟩
theorem Fx.at_ {w : World} {S : Nat → Prop} : ∀ (fs : List Fl) (xs : List Value) (j : Nat) (f : Fl), Fx w S xs fs → fs[j]? = some f → ∃ a b c, xs[j * 3]? = some a ∧ xs[j * 3 + 1]? = some b ∧ xs[j * 3 + 2]? = some c ∧ FlV w S (.agg #[a, b, c]) f := by
  intro fs
  induction fs with
  | nil => intro xs j f _ h; cases h
  | cons g fs ih =>
    intro xs j f h hj
    obtain ⟨p, q, s, r, rfl, h1, h2⟩ := h
    cases j with
    | zero =>
      have : g = f := by simpa using hj
      subst this
      exact ⟨p, q, s, rfl, rfl, rfl, h1⟩
    | succ j =>
      obtain ⟨a, b, c, e0, e1, e2, hv⟩ := ih r j f h2 (by simpa using hj)
      refine ⟨a, b, c, ?_, ?_, ?_, hv⟩
      · rw [show (j + 1) * 3 = j * 3 + 1 + 1 + 1 by omega]; simpa using e0
      · rw [show (j + 1) * 3 + 1 = j * 3 + 1 + 1 + 1 + 1 by omega]; simpa using e1
      · rw [show (j + 1) * 3 + 2 = j * 3 + 2 + 1 + 1 + 1 by omega]; simpa using e2

/-- The slice value '.slice A n c' reads as the files fs, all of it off S. -/
def Fls (w : World) (S : Nat → Prop) (A : Option Addr) (n : Nat) (fs : List Fl) : Prop :=
  fs.length = n ∧ (0 < n → ∃ b o, A = some ⟨b, o, none⟩ ∧ ¬ S b ∧ ∀ (j : Nat) (f : Fl), fs[j]? = some f → ∃ y0 y1 y2, w.cell? ⟨b, o + j * 3, none⟩ = some y0 ∧ w.cell? ⟨b, o + j * 3 + 1, none⟩ = some y1 ∧ w.cell? ⟨b, o + j * 3 + 2, none⟩ = some y2 ∧ FlV w S (.agg #[y0, y1, y2]) f)
theorem Fls.nil {w : World} {S : Nat → Prop} {A : Option Addr} : Fls w S A 0 [] := ⟨rfl, fun h => absurd h (by omega)⟩
theorem Fls.turn {w w' : World} {S : Nat → Prop} {n : Nat} {A : Option Addr} {fs : List Fl} (h : Fls w S A n fs) (ht : Turn S w w') : Fls w' S A n fs :=
  ⟨h.1, fun hn => by
    obtain ⟨b, o, e, hb, hf⟩ := h.2 hn
    refine ⟨b, o, e, hb, fun j f hj => ?_⟩
    obtain ⟨y0, y1, y2, h0, h1, h2, hv⟩ := hf j f hj
    exact ⟨y0, y1, y2, ht.at_ h0 hb, ht.at_ h1 hb, ht.at_ h2 hb, hv.turn ht⟩⟩
theorem Fls.less {w : World} {S S' : Nat → Prop} {n : Nat} {A : Option Addr} {fs : List Fl} (h : Fls w S A n fs) (hs : ∀ k, S' k → S k) : Fls w S' A n fs :=
  ⟨h.1, fun hn => by
    obtain ⟨b, o, e, hb, hf⟩ := h.2 hn
    refine ⟨b, o, e, fun x => hb (hs b x), fun j f hj => ?_⟩
    obtain ⟨y0, y1, y2, h0, h1, h2, hv⟩ := hf j f hj
    exact ⟨y0, y1, y2, h0, h1, h2, hv.less hs⟩⟩
theorem Fls.more {w : World} {S S' : Nat → Prop} {n : Nat} {A : Option Addr} {fs : List Fl} (h : Fls w S A n fs) (hs : ∀ k, S' k → k < w.heap.size → S k) : Fls w S' A n fs :=
  ⟨h.1, fun hn => by
    obtain ⟨b, o, e, hb, hf⟩ := h.2 hn
    have hb2 : ¬ S' b := fun x => hb (hs b x (by
      obtain ⟨y0, _, _, h0, _⟩ := hf 0 _ (List.getElem?_eq_getElem (by have := h.1; omega))
      exact block_lt_of_cell h0))
    refine ⟨b, o, e, hb2, fun j f hj => ?_⟩
    obtain ⟨y0, y1, y2, h0, h1, h2, hv⟩ := hf j f hj
    exact ⟨y0, y1, y2, h0, h1, h2, hv.more hs⟩⟩
theorem Fls.of_own {w : World} {base n c : Nat} {e : TypeId} {S : Nat → Prop} {A : Option Addr} {xs : List Value} {fs : List Fl} (h : w.ownsRow base e 3 (.slice A n c) n xs) (hx : Fx w S xs fs) (hS : ∀ k, S k → k < base) : Fls w S A n fs := by
  have hl := Fx.len fs xs hx
  have h1 : xs.length = n * 3 := h.1
  refine ⟨by omega, fun hn => ?_⟩
  have hlt := h.lt
  rcases h.2 with ⟨_, h0⟩ | ⟨g, cap, cur, hv, _, hh, _⟩
  · omega
  · injection hv with hA
    subst hA
    refine ⟨g, 0, rfl, fun x => by have h2 := (hlt g rfl).1; have h3 := hS g x; omega, fun j f hj => ?_⟩
    obtain ⟨a, b, c, e0, e1, e2, hf⟩ := Fx.at_ fs xs j f hx hj
    have hc : ∀ i u, xs[i]? = some u → w.cell? ⟨g, 0 + i, none⟩ = some u := fun i u hu => by
      have := h.cells (g := g) rfl i u hu
      rw [Addr.add_lit] at this
      exact this
    exact ⟨a, b, c, hc _ _ e0, hc _ _ e1, hc _ _ e2, hf⟩

/-- A slice that is owned has a spelling, whatever its elements. -/
theorem own_formk {w : World} {base k n : Nat} {e : TypeId} {v : Value} {xs : List Value} (h : w.ownsRow base e k v n xs) : ∃ A c, v = .slice A n c ∧ (A = none → n = 0 ∧ c = 0) ∧ n ≤ c ∧ c ≤ maxLen := by
  rcases h.2 with ⟨rfl, rfl⟩ | ⟨g, cap, cur, rfl, _, _, hn, hm, _⟩
  · exact ⟨none, 0, rfl, fun _ => ⟨rfl, rfl⟩, Nat.le_refl _, Nat.zero_le _⟩
  · exact ⟨_, cap, rfl, (fun h => by cases h), hn, hm⟩
/-- One file appended to a row of the call's own; the walk has just laid it in a block of its own. -/
theorem wpList_append_fl {P : Program} {ops : Array Oper} {rest : List Oper} {o : Oper} {a : Act} {Q : Exit → Act → World → Prop} {wr W0 : World} {B0 : Nat} {S : Nat → Prop} (ob : TypeId) (hgd : o.guard = none) (s x : Operand) (t : TypeId)
    (ho : o.op = .call { callee := .builtin .append, args := #[s, x], argTypes := #[t, t] }) (e : TypeId) (i : TypeInfo) (z : Value) (ht : P.underlying t = some (.slice e)) (hi : P.info? e = some i) (hz : i.zero = some z) (hsize : i.size = 3) (hby : i.bytes = 48) (hzs : z.cells.size = 3)
    (v : Value) (gs : List Fl) (xs : List Value) (hs : a.eval s = v) (hown : wr.ownsRow B0 e 3 v gs.length xs) (hx : Fx wr S xs gs) (hb : Below B0 W0 wr) (hB0 : B0 ≤ wr.heap.size) (hS : ∀ k, B0 ≤ k → S k)
    (p q r : Value) (f : Fl) (hv : FlV wr S (.agg #[p, q, r]) f) (hxe : a.eval x = .slice (some ⟨wr.heap.size, 0, none⟩) 1 1) (hn : gs.length ≤ 1000000)
    (h : ∀ v' w', (w'.ownsRow B0 e 3 v' (gs ++ [f]).length (xs ++ [p, q, r]) ∧ Fx w' S (xs ++ [p, q, r]) (gs ++ [f]) ∧ Below B0 W0 w' ∧ B0 ≤ w'.heap.size) → wpList P ops Q rest (a.put o.dst v') w') : wpList P ops Q (o :: rest) a (wr.alloc (.cells #[p, q, r] ob)) := by
  refine wpList_append_own _ hgd s x t ho B0 e i z 3 48 ht hi hz hsize hby hzs (by decide) v gs.length xs hs (hown.alloc _) ⟨wr.heap.size, 0, none⟩ 1 1 [p, q, r] hxe rfl ?_ ?_ (by unfold maxLen; omega) (by omega) (by simp; omega) ?_
  · intro j y hy
    rw [Addr.add_lit, Nat.zero_add, World.cell?_alloc_new]
    simpa using hy
  · intro u hu
    obtain ⟨cs, e1, _, h1⟩ := flV_cells hv
    have e2 : [p, q, r] = cs := by
      have := congrArg (fun v => match v with | Value.agg c => c.toList | _ => []) e1
      simpa using this
    exact h1 u (by rw [← e2]; exact hu)
  · intro v' w' hown' hgrow _
    have hb' : Below B0 W0 w' := (hb.alloc hB0 _).grown hgrow (by simp; omega) (fun q hq => (hown.lt q hq).1)
    refine h v' w' ⟨by rw [List.length_append]; exact hown', Fx.snoc (hv.side hS hb hb') _ _ (hx.side hS hb hb'), hb', ?_⟩
    have h1 := hgrow.size
    simp at h1
    omega

end Go.Proofs.YthjikbhjciphiaaGreatDoor

/-
  The library's sort of words: comparing, a row of words, insertion.
-/
namespace Go.Proofs.YthjikbhjciphiaaGreatDoor
open Go.RowKit
set_option linter.unusedVariables false
set_option linter.unusedSimpArgs false

def nu (x : Nat) : Value := .int .u64 (x : Int)
/-- A row of words. -/
def RowN (w : World) (B g n c : Nat) (xs : List Nat) : Prop := w.ownsRow B 23 1 (.slice (some ⟨g, 0, none⟩) n c) n (xs.map nu)
section
variable {w w' : World} {B g n c : Nat} {xs : List Nat}
theorem RowN.len (h : RowN w B g n c xs) : xs.length = n := by have := h.1; rwa [List.length_map, Nat.mul_one] at this
theorem RowN.cell (h : RowN w B g n c xs) (i : Nat) (hi : i < n) (x : Nat) (hx : atN xs i = x) : w.cell? ⟨g, i, none⟩ = some (.int .u64 (x : Nat)) := by
  rw [World.ownsRow.cellAt h i (by omega), List.getElem?_map, atN_some (by rw [h.len]; exact hi), hx]
  rfl
theorem RowN.frozen (h : RowN w B g n c xs) (i : Nat) : w.frozen? ⟨g, i, none⟩ = false := World.ownsRow.frozenAt h i
theorem RowN.drewN (h : RowN w B g n c xs) (q : Nat) : RowN (w.drewN q) B g n c xs := h
theorem RowN.below (h : RowN w B g n c xs) (hb : Below w.heap.size w w') : RowN w' B g n c xs := own_below h hb
theorem RowN.set (h : RowN w B g n c xs) (i x : Nat) : RowN (w.setCell ⟨g, i, none⟩ (.int .u64 (x : Nat))) B g n c (xs.set i x) := by
  have := (World.ownsRow.stored h i (.int .u64 (x : Nat))).1
  unfold RowN
  rw [List.map_set]
  exact this
theorem RowN.swap (h : RowN w B g n c xs) (i j x y : Nat) (hx : atN xs i = x) (hy : atN xs j = y) : RowN ((w.setCell ⟨g, i, none⟩ (.int .u64 (y : Nat))).setCell ⟨g, j, none⟩ (.int .u64 (x : Nat))) B g n c (swp xs i j) := by
  subst hx; subst hy
  exact (h.set i _).set j _
end
theorem turn_swap {W w : World} {g : Nat} (h : Turn (fun k => k = g) W w) (q i j : Nat) (u v : Value) : Turn (fun k => k = g) W (((w.drewN q).setCell ⟨g, i, none⟩ u).setCell ⟨g, j, none⟩ v) :=
  ((h.drewN q).setCell (p := ⟨g, i, none⟩) rfl u).setCell (p := ⟨g, j, none⟩) rfl v

theorem nan_any (x : Nat) (W : World) : Calls Tryz.prog 156 #[.int .u64 (x : Nat)] W fun e W' => e = .returned (.bool false) ∧ W' = W := by
  have h : ((x : Int) != (x : Int)) = false := by simp
  go_enter Tryz.func156, Tryz.ntmps156
  go_wp2
  go_ret
  exact ⟨rfl, rfl⟩
theorem lessU_any (x y : Nat) (b : Bool) (hb : decide (x < y) = b) (W : World) : Calls Tryz.prog 108 #[.int .u64 (x : Nat), .int .u64 (y : Nat)] W fun e W' => e = .returned (.bool b) ∧ W' = W := by
  have h : decide ((x : Int) < (y : Int)) = b := by rw [← hb]; exact decide_eq_decide.2 (by omega)
  go_enter Tryz.func108, Tryz.ntmps108
  go_wp2_with (go_at_call 156; refine (nan_any x _).mono ?_; rintro e w1 ⟨rfl, rfl⟩)
  go_ret
  exact ⟨rfl, rfl⟩

/-- What a sorter leaves. -/
def SoPost (W : World) (B g n c : Nat) (Q : List Nat → Prop) (e : Ending) (W' : World) : Prop := e = .returned (.tuple #[]) ∧ ∃ ys, RowN W' B g n c ys ∧ Turn (fun k => k = g) W W' ∧ Q ys

set_option maxRecDepth 100000 in
set_option maxHeartbeats 4000000 in
theorem insertion_any (B g n c a b : Nat) (xs : List Nat) (W : World) (h : RowN W B g n c xs) (hab : a ≤ b) (hb : b ≤ n) (hn : n ≤ 1000000000) :
    Calls Tryz.prog 102 #[.slice (some ⟨g, 0, none⟩) n c, .int .i64 (a : Nat), .int .i64 (b : Nat)] W (SoPost W B g n c fun ys => Sws a b xs ys ∧ Srt a b ys) := by
  have HB := Lib.hid (And.intro hb hn)
  have hb9 : b ≤ 1000000000 := by omega
  clear hb hn
  go_enter Tryz.func102, Tryz.ntmps102
  go_wp2_with fail
  go_loopw [6] (fun vi wr => ∃ (i : Nat) (ys : List Nat), vi = .int .i64 i ∧ a < i ∧ i ≤ b + 1 ∧ RowN wr B g n c ys ∧ Turn (fun k => k = g) W wr ∧ Sws a b xs ys ∧ Srt a i ys) (fun vi _ => b + 1 - (intOf vi).toNat)
  case atStart => exact ⟨a + 1, xs, by go_num, by omega, by omega, h, Turn.refl _ _, .refl _, srt_short _ (Nat.le_refl _)⟩
  case round =>
    obtain ⟨i, ys, rfl, hai, hib, hr, ht, hs, hq⟩ := hrel
    by_cases hlt : i < b
    · have hib' : (i : Int) < (b : Int) := by omega
      have HI := Lib.hid (And.intro hai hlt)
      have HQ := Lib.hid (show RowN wr B g n c ys ∧ Turn (fun k => k = g) W wr ∧ Sws a b xs ys ∧ InsI a i i ys from ⟨hr, ht, hs, ins_start hq⟩)
      clear hai hib hr ht hs hq hlt
      go_wp2_with fail
      obtain ⟨w0, rfl⟩ : ∃ w0, w0 = wr := ⟨_, rfl⟩
      go_loopw [7] (fun vj wr => ∃ (j : Nat) (zs : List Nat), vj = .int .i64 j ∧ a ≤ j ∧ j ≤ i ∧ RowN wr B g n c zs ∧ Turn (fun k => k = g) W wr ∧ Sws a b xs zs ∧ InsI a i j zs) (fun vj _ => (intOf vj).toNat)
      case atStart => exact ⟨i, ys, rfl, by have := HI.out; omega, Nat.le_refl _, HQ.out.1, HQ.out.2.1, HQ.out.2.2.1, HQ.out.2.2.2⟩
      case round =>
        obtain ⟨j, zs, rfl, haj, hji, hr, ht, hs, hq⟩ := hrel
        have hbn := HB.out.1
        have hi' := HI.out
        have hln := hr.len
        by_cases hja : a < j
        · obtain ⟨m, hm⟩ : ∃ m, j - 1 = m := ⟨_, rfl⟩
          have hjm : (j : Int) - 1 = (m : Int) := by omega
          obtain ⟨x, hx⟩ : ∃ x, atN zs j = x := ⟨_, rfl⟩
          obtain ⟨y, hy⟩ : ∃ y, atN zs m = y := ⟨_, rfl⟩
          have c1 := hr.cell j (by omega) x hx
          have c2 := hr.cell m (by omega) y hy
          have f1 := hr.frozen j
          have f2 := hr.frozen m
          have t1 : (a : Int) < (j : Int) := by omega
          have hjn : (j : Int) < (n : Int) := by omega
          have hmn : (m : Int) < (n : Int) := by omega
          have hjb : j < 1000000000 := by omega
          have hmb : m < 1000000000 := by omega
          by_cases hxy : x < y
          · have hL := lessU_any x y true (decide_eq_true hxy)
            have HR := fun q => Lib.hid (show RowN (((wr.drewN q).setCell ⟨g, j, none⟩ (.int .u64 (y : Nat))).setCell ⟨g, m, none⟩ (.int .u64 (x : Nat))) B g n c (swp zs j m) from (hr.drewN q).swap j m x y hx hy)
            have HT := fun q => Lib.hid (turn_swap ht q j m (.int .u64 (y : Nat)) (.int .u64 (x : Nat)))
            have HS := Lib.hid (show Sws a b xs (swp zs j m) ∧ InsI a i m (swp zs j m) ∧ a ≤ m ∧ m < j from ⟨Sws.step j m hs (by omega) (by omega) (by omega) (by omega) (by omega), by
              have := ins_step hq hja hji (by omega) (by rw [hm, hx, hy]; exact hxy)
              rwa [hm] at this, by omega, by omega⟩)
            have HJ := Lib.hid hji
            clear hr ht hs hq hln hx hy hm hja hji haj hi' hbn hxy
            go_wp2_with fail
            go_quiet (first | (go_at_call 108; exact Calls.quiet_of_same (hL _)))
            go_wp2_with fail
            go_region
            go_wp2_with fail
            go_roundw
            case rel => exact ⟨m, swp zs j m, rfl, HS.out.2.2.1, by have := HS.out; have := HJ.out; omega, (HR (nq + 1)).out, (HT (nq + 1)).out, HS.out.1, HS.out.2.1⟩
            case measure => have := HS.out; simp [intOf]; omega
          · have hL := lessU_any x y false (decide_eq_false hxy)
            have HS := Lib.hid (show RowN wr B g n c zs ∧ Turn (fun k => k = g) W wr ∧ Sws a b xs zs ∧ Srt a (i + 1) zs from ⟨hr, ht, hs, ins_stop hq hji (.inr (by rw [hm, hx, hy]; omega))⟩)
            clear hr ht hs hq hln hx hy hm hja hji haj hi' hbn hxy
            go_wp2_with fail
            go_quiet (first | (go_at_call 108; exact Calls.quiet_of_same (hL _)))
            go_wp2_with fail
            go_roundw
            case rel => exact ⟨i + 1, zs, by go_num, by have := HI.out; omega, by have := HI.out; omega, HS.out.1.drewN _, HS.out.2.1.drewN _, HS.out.2.2.1, HS.out.2.2.2⟩
            case measure => have := HI.out; simp [intOf]; omega
        · have q1 : decide ((a : Int) < (j : Int)) = false := decide_eq_false (by omega)
          have q2 : decide (a < j) = false := decide_eq_false hja
          have HS := Lib.hid (show RowN wr B g n c zs ∧ Turn (fun k => k = g) W wr ∧ Sws a b xs zs ∧ Srt a (i + 1) zs from ⟨hr, ht, hs, ins_stop hq hji (.inl (by omega))⟩)
          clear hr ht hs hq hln hja hji haj hi' hbn
          go_wp2_with fail
          go_quiet (fail)
          go_wp2_with fail
          go_roundw
          case rel => exact ⟨i + 1, zs, by go_num, by have := HI.out; omega, by have := HI.out; omega, HS.out.1.drewN _, HS.out.2.1.drewN _, HS.out.2.2.1, HS.out.2.2.2⟩
          case measure => have := HI.out; simp [intOf]; omega
    · have hib' : ¬ (i : Int) < (b : Int) := by omega
      have HQ := Lib.hid (show RowN wr B g n c ys ∧ Turn (fun k => k = g) W wr ∧ Sws a b xs ys ∧ Srt a b ys from ⟨hr, ht, hs, fun p q h1 h2 h3 => hq p q h1 h2 (by omega)⟩)
      clear hai hib hr ht hs hq hlt
      go_wp2_with fail
      go_end0
      exact ⟨rfl, ys, HQ.out.1, HQ.out.2.1, HQ.out.2.2.1, HQ.out.2.2.2⟩

end Go.Proofs.YthjikbhjciphiaaGreatDoor
