/-
  Files in memory: a file's value, a slice of files, a row of files of the call's own. No program stands here.
-/
import Derived.Test.YtnjkilmhphcocaaTurn
import Derived.Test.YtnjkilmhphcocaaBase
import Derived.Laws.AppendOwn
namespace Go.Proofs.Ytnjkilmhphcocaa
open Go.RowKit
set_option linter.unusedVariables false
set_option linter.unusedSimpArgs false

/-- A file: its name, its bytes, how many of them are sure. -/
structure Fl where
  name : List UInt8
  data : List UInt8
  sure : Nat

/-- The value of a file, its bytes off S. -/
def FlV (w : World) (S : Nat → Prop) (v : Value) (f : Fl) : Prop :=
  ∃ A n c, v = .agg #[.string ⟨f.name.toArray⟩, .slice A n c, .int .i64 ((f.sure : Nat) : Int)] ∧ BytS w S A n f.data ∧ (A = none → n = 0 ∧ c = 0) ∧ n ≤ c ∧ c ≤ maxLen
section
variable {w w' W : World} {S S' : Nat → Prop} {v : Value} {f : Fl} {B : Nat}
theorem FlV.turn (h : FlV w S v f) (ht : Turn S w w') : FlV w' S v f := by
  obtain ⟨A, n, c, h1, h2, h3⟩ := h
  exact ⟨A, n, c, h1, h2.turn ht, h3⟩
theorem FlV.less (h : FlV w S v f) (hs : ∀ k, S' k → S k) : FlV w S' v f := by
  obtain ⟨A, n, c, h1, h2, h3⟩ := h
  exact ⟨A, n, c, h1, h2.less hs, h3⟩
theorem FlV.more (h : FlV w S v f) (hs : ∀ k, S' k → k < w.heap.size → S k) : FlV w S' v f := by
  obtain ⟨A, n, c, h1, h2, h3⟩ := h
  exact ⟨A, n, c, h1, h2.more hs, h3⟩
/-- From one world behind W to another one. -/
theorem FlV.side (h : FlV w S v f) (hS : ∀ k, B ≤ k → S k) (h1 : Below B W w) (h2 : Below B W w') : FlV w' S v f := by
  obtain ⟨A, n, c, e, hb, h3⟩ := h
  refine ⟨A, n, c, e, ⟨hb.1, fun hn => ?_⟩, h3⟩
  obtain ⟨b, o, e1, hs, hc⟩ := hb.2 hn
  have hlt : b < B := by
    rcases Nat.lt_or_ge b B with h | h
    · exact h
    · exact absurd (hS b h) hs
  exact ⟨b, o, e1, hs, fun j x hx => ((h2.cell (p := ⟨b, o + j, none⟩) hlt).trans (h1.cell (p := ⟨b, o + j, none⟩) hlt).symm).trans (hc j x hx)⟩
theorem flV_cells (h : FlV w S v f) : ∃ cs : List Value, v = .agg cs.toArray ∧ cs.length = 3 ∧ ∀ u ∈ cs, u.oneCell' = true := by
  obtain ⟨A, n, c, rfl, _⟩ := h
  exact ⟨[_, _, _], rfl, rfl, by simp [Value.oneCell']⟩
end

/-- Cells that are files, one behind the other. -/
def Fx (w : World) (S : Nat → Prop) : List Value → List Fl → Prop
  | xs, [] => xs = []
  | xs, f :: fs => ∃ a b c r, xs = a :: b :: c :: r ∧ FlV w S (.agg #[a, b, c]) f ∧ Fx w S r fs
theorem Fx.keep {w w' : World} {S S' : Nat → Prop} (hv : ∀ v f, FlV w S v f → FlV w' S' v f) : ∀ (fs : List Fl) (xs : List Value), Fx w S xs fs → Fx w' S' xs fs := by
  intro fs
  induction fs with
  | nil => intro xs h; exact h
  | cons f fs ih =>
    intro xs h
    obtain ⟨a, b, c, r, rfl, h1, h2⟩ := h
    exact ⟨a, b, c, r, rfl, hv _ _ h1, ih r h2⟩
theorem Fx.drewN {w : World} {S : Nat → Prop} {fs : List Fl} {xs : List Value} (h : Fx w S xs fs) (q : Nat) : Fx (w.drewN q) S xs fs := Fx.keep (w := w) (w' := w.drewN q) (fun v f hv => hv) fs xs h
theorem Fx.turn {w w' : World} {S : Nat → Prop} {fs : List Fl} {xs : List Value} (h : Fx w S xs fs) (ht : Turn S w w') : Fx w' S xs fs := Fx.keep (fun v f hv => hv.turn ht) fs xs h
theorem Fx.less {w : World} {S S' : Nat → Prop} {fs : List Fl} {xs : List Value} (h : Fx w S xs fs) (hs : ∀ k, S' k → S k) : Fx w S' xs fs := Fx.keep (fun v f hv => hv.less hs) fs xs h
theorem Fx.side {w w' W : World} {S : Nat → Prop} {B : Nat} {fs : List Fl} {xs : List Value} (h : Fx w S xs fs) (hS : ∀ k, B ≤ k → S k) (h1 : Below B W w) (h2 : Below B W w') : Fx w' S xs fs := Fx.keep (fun v f hv => hv.side hS h1 h2) fs xs h
theorem Fx.len {w : World} {S : Nat → Prop} : ∀ (fs : List Fl) (xs : List Value), Fx w S xs fs → xs.length = fs.length * 3 := by
  intro fs
  induction fs with
  | nil => intro xs h; have h' : xs = [] := h; subst h'; rfl
  | cons f fs ih =>
    intro xs h
    obtain ⟨a, b, c, r, rfl, h1, h2⟩ := h
    have := ih r h2
    simp only [List.length_cons]
    omega
theorem Fx.snoc {w : World} {S : Nat → Prop} {f : Fl} {a b c : Value} (hf : FlV w S (.agg #[a, b, c]) f) : ∀ (fs : List Fl) (xs : List Value), Fx w S xs fs → Fx w S (xs ++ [a, b, c]) (fs ++ [f]) := by
  intro fs
  induction fs with
  | nil =>
    intro xs h
    have h' : xs = [] := h
    subst h'
    exact ⟨a, b, c, [], rfl, hf, rfl⟩
  | cons g fs ih =>
    intro xs h
    obtain ⟨p, q, s, r, rfl, h1, h2⟩ := h
    exact ⟨p, q, s, r ++ [a, b, c], rfl, h1, ih r h2⟩
theorem Fx.at_ {w : World} {S : Nat → Prop} : ∀ (fs : List Fl) (xs : List Value) (j : Nat) (f : Fl), Fx w S xs fs → fs[j]? = some f → ∃ a b c, xs[j * 3]? = some a ∧ xs[j * 3 + 1]? = some b ∧ xs[j * 3 + 2]? = some c ∧ FlV w S (.agg #[a, b, c]) f := by
  intro fs
  induction fs with
  | nil => intro xs j f _ h; cases h
  | cons g fs ih =>
    intro xs j f h hj
    obtain ⟨p, q, s, r, rfl, h1, h2⟩ := h
    cases j with
    | zero =>
      have : g = f := by simpa using hj
      subst this
      exact ⟨p, q, s, rfl, rfl, rfl, h1⟩
    | succ j =>
      obtain ⟨a, b, c, e0, e1, e2, hv⟩ := ih r j f h2 (by simpa using hj)
      refine ⟨a, b, c, ?_, ?_, ?_, hv⟩
      · rw [show (j + 1) * 3 = j * 3 + 1 + 1 + 1 by omega]; simpa using e0
      · rw [show (j + 1) * 3 + 1 = j * 3 + 1 + 1 + 1 + 1 by omega]; simpa using e1
      · rw [show (j + 1) * 3 + 2 = j * 3 + 2 + 1 + 1 + 1 by omega]; simpa using e2

/-- The slice value '.slice A n c' reads as the files fs, all of it off S. -/
def Fls (w : World) (S : Nat → Prop) (A : Option Addr) (n : Nat) (fs : List Fl) : Prop :=
  fs.length = n ∧ (0 < n → ∃ b o, A = some ⟨b, o, none⟩ ∧ ¬ S b ∧ ∀ (j : Nat) (f : Fl), fs[j]? = some f → ∃ y0 y1 y2, w.cell? ⟨b, o + j * 3, none⟩ = some y0 ∧ w.cell? ⟨b, o + j * 3 + 1, none⟩ = some y1 ∧ w.cell? ⟨b, o + j * 3 + 2, none⟩ = some y2 ∧ FlV w S (.agg #[y0, y1, y2]) f)
theorem Fls.nil {w : World} {S : Nat → Prop} {A : Option Addr} : Fls w S A 0 [] := ⟨rfl, fun h => absurd h (by omega)⟩
theorem Fls.turn {w w' : World} {S : Nat → Prop} {n : Nat} {A : Option Addr} {fs : List Fl} (h : Fls w S A n fs) (ht : Turn S w w') : Fls w' S A n fs :=
  ⟨h.1, fun hn => by
    obtain ⟨b, o, e, hb, hf⟩ := h.2 hn
    refine ⟨b, o, e, hb, fun j f hj => ?_⟩
    obtain ⟨y0, y1, y2, h0, h1, h2, hv⟩ := hf j f hj
    exact ⟨y0, y1, y2, ht.at_ h0 hb, ht.at_ h1 hb, ht.at_ h2 hb, hv.turn ht⟩⟩
theorem Fls.less {w : World} {S S' : Nat → Prop} {n : Nat} {A : Option Addr} {fs : List Fl} (h : Fls w S A n fs) (hs : ∀ k, S' k → S k) : Fls w S' A n fs :=
  ⟨h.1, fun hn => by
    obtain ⟨b, o, e, hb, hf⟩ := h.2 hn
    refine ⟨b, o, e, fun x => hb (hs b x), fun j f hj => ?_⟩
    obtain ⟨y0, y1, y2, h0, h1, h2, hv⟩ := hf j f hj
    exact ⟨y0, y1, y2, h0, h1, h2, hv.less hs⟩⟩
theorem Fls.more {w : World} {S S' : Nat → Prop} {n : Nat} {A : Option Addr} {fs : List Fl} (h : Fls w S A n fs) (hs : ∀ k, S' k → k < w.heap.size → S k) : Fls w S' A n fs :=
  ⟨h.1, fun hn => by
    obtain ⟨b, o, e, hb, hf⟩ := h.2 hn
    have hb2 : ¬ S' b := fun x => hb (hs b x (by
      obtain ⟨y0, _, _, h0, _⟩ := hf 0 _ (List.getElem?_eq_getElem (by have := h.1; omega))
      exact block_lt_of_cell h0))
    refine ⟨b, o, e, hb2, fun j f hj => ?_⟩
    obtain ⟨y0, y1, y2, h0, h1, h2, hv⟩ := hf j f hj
    exact ⟨y0, y1, y2, h0, h1, h2, hv.more hs⟩⟩
theorem Fls.of_own {w : World} {base n c : Nat} {e : TypeId} {S : Nat → Prop} {A : Option Addr} {xs : List Value} {fs : List Fl} (h : w.ownsRow base e 3 (.slice A n c) n xs) (hx : Fx w S xs fs) (hS : ∀ k, S k → k < base) : Fls w S A n fs := by
  have hl := Fx.len fs xs hx
  have h1 : xs.length = n * 3 := h.1
  refine ⟨by omega, fun hn => ?_⟩
  have hlt := h.lt
  rcases h.2 with ⟨_, h0⟩ | ⟨g, cap, cur, hv, _, hh, _⟩
  · omega
  · injection hv with hA
    subst hA
    refine ⟨g, 0, rfl, fun x => by have h2 := (hlt g rfl).1; have h3 := hS g x; omega, fun j f hj => ?_⟩
    obtain ⟨a, b, c, e0, e1, e2, hf⟩ := Fx.at_ fs xs j f hx hj
    have hc : ∀ i u, xs[i]? = some u → w.cell? ⟨g, 0 + i, none⟩ = some u := fun i u hu => by
      have := h.cells (g := g) rfl i u hu
      rw [Addr.add_lit] at this
      exact this
    exact ⟨a, b, c, hc _ _ e0, hc _ _ e1, hc _ _ e2, hf⟩

/-- A slice that is owned has a spelling, whatever its elements. -/
theorem own_formk {w : World} {base k n : Nat} {e : TypeId} {v : Value} {xs : List Value} (h : w.ownsRow base e k v n xs) : ∃ A c, v = .slice A n c ∧ (A = none → n = 0 ∧ c = 0) ∧ n ≤ c ∧ c ≤ maxLen := by
  rcases h.2 with ⟨rfl, rfl⟩ | ⟨g, cap, cur, rfl, _, _, hn, hm, _⟩
  · exact ⟨none, 0, rfl, fun _ => ⟨rfl, rfl⟩, Nat.le_refl _, Nat.zero_le _⟩
  · exact ⟨_, cap, rfl, (fun h => by cases h), hn, hm⟩
/-- One file appended to a row of the call's own; the walk has just laid it in a block of its own. -/
theorem wpList_append_fl {P : Program} {ops : Array Oper} {rest : List Oper} {o : Oper} {a : Act} {Q : Exit → Act → World → Prop} {wr W0 : World} {B0 : Nat} {S : Nat → Prop} (ob : TypeId) (hgd : o.guard = none) (s x : Operand) (t : TypeId)
    (ho : o.op = .call { callee := .builtin .append, args := #[s, x], argTypes := #[t, t] }) (e : TypeId) (i : TypeInfo) (z : Value) (ht : P.underlying t = some (.slice e)) (hi : P.info? e = some i) (hz : i.zero = some z) (hsize : i.size = 3) (hby : i.bytes = 48) (hzs : z.cells.size = 3)
    (v : Value) (gs : List Fl) (xs : List Value) (hs : a.eval s = v) (hown : wr.ownsRow B0 e 3 v gs.length xs) (hx : Fx wr S xs gs) (hb : Below B0 W0 wr) (hB0 : B0 ≤ wr.heap.size) (hS : ∀ k, B0 ≤ k → S k)
    (p q r : Value) (f : Fl) (hv : FlV wr S (.agg #[p, q, r]) f) (hxe : a.eval x = .slice (some ⟨wr.heap.size, 0, none⟩) 1 1) (hn : gs.length ≤ 1000000)
    (h : ∀ v' w', (w'.ownsRow B0 e 3 v' (gs ++ [f]).length (xs ++ [p, q, r]) ∧ Fx w' S (xs ++ [p, q, r]) (gs ++ [f]) ∧ Below B0 W0 w' ∧ B0 ≤ w'.heap.size) → wpList P ops Q rest (a.put o.dst v') w') : wpList P ops Q (o :: rest) a (wr.alloc (.cells #[p, q, r] ob)) := by
  refine wpList_append_own _ hgd s x t ho B0 e i z 3 48 ht hi hz hsize hby hzs (by decide) v gs.length xs hs (hown.alloc _) ⟨wr.heap.size, 0, none⟩ 1 1 [p, q, r] hxe rfl ?_ ?_ (by unfold maxLen; omega) (by omega) (by simp; omega) ?_
  · intro j y hy
    rw [Addr.add_lit, Nat.zero_add, World.cell?_alloc_new]
    simpa using hy
  · intro u hu
    obtain ⟨cs, e1, _, h1⟩ := flV_cells hv
    have e2 : [p, q, r] = cs := by
      have := congrArg (fun v => match v with | Value.agg c => c.toList | _ => []) e1
      simpa using this
    exact h1 u (by rw [← e2]; exact hu)
  · intro v' w' hown' hgrow _
    have hb' : Below B0 W0 w' := (hb.alloc hB0 _).grown hgrow (by simp; omega) (fun q hq => (hown.lt q hq).1)
    refine h v' w' ⟨by rw [List.length_append]; exact hown', Fx.snoc (hv.side hS hb hb') _ _ (hx.side hS hb hb'), hb', ?_⟩
    have h1 := hgrow.size
    simp at h1
    omega

end Go.Proofs.Ytnjkilmhphcocaa
