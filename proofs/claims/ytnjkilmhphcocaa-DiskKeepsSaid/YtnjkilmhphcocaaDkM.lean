/-
  Arithmetic of a disk: files in their order, what a step does. No program stands here.
-/
import Derived.Test.YtnjkilmhphcocaaDkA
import Derived.Test.YtnjkilmhphcocaaNaB
namespace Go.Proofs.Ytnjkilmhphcocaa
open Go.RowKit
set_option linter.unusedVariables false
set_option linter.unusedSimpArgs false

/-- The file of a name. -/
def lookF (s : List UInt8) (l : List Fl) : Option Fl := l.find? fun f => decide (f.name = s)
/-- Where the file of a name stands. -/
def findN (s : List UInt8) : List Fl → Nat → Int
  | [], _ => -1
  | f :: r, k => if f.name = s then (k : Int) else findN s r (k + 1)
theorem findN_spec (s : List UInt8) : ∀ (l : List Fl) (k : Nat), (findN s l k = -1 ∧ lookF s l = none) ∨ ∃ (j : Nat) (f : Fl), findN s l k = ((k + j : Nat) : Int) ∧ l[j]? = some f ∧ lookF s l = some f := by
  intro l
  induction l with
  | nil => intro k; exact .inl ⟨rfl, rfl⟩
  | cons g r ih =>
    intro k
    by_cases h : g.name = s
    · exact .inr ⟨0, g, by show (if g.name = s then _ else _) = _; rw [if_pos h]; rfl, rfl, by unfold lookF; rw [List.find?_cons, decide_eq_true h]⟩
    · have e1 : findN s (g :: r) k = findN s r (k + 1) := by show (if g.name = s then _ else _) = _; rw [if_neg h]
      have e2 : lookF s (g :: r) = lookF s r := by unfold lookF; rw [List.find?_cons, decide_eq_false h]
      rw [e1, e2]
      rcases ih (k + 1) with ⟨h1, h2⟩ | ⟨j, f, h1, h2, h3⟩
      · exact .inl ⟨h1, h2⟩
      · exact .inr ⟨j + 1, f, by rw [h1]; congr 1; omega, by simpa using h2, h3⟩
theorem findN_drop (s : List UInt8) (l : List Fl) (k : Nat) (f : Fl) (h : l[k]? = some f) : findN s (l.drop k) k = if f.name = s then (k : Int) else findN s (l.drop (k + 1)) (k + 1) := by
  have h1 := (List.getElem?_eq_some_iff.1 h).1
  have e1 : l[k] = f := (List.getElem?_eq_some_iff.1 h).2
  rw [List.drop_eq_getElem_cons h1, e1]
  rfl
/-- Bytes of all files. -/
def sizeF (l : List Fl) : Nat := (l.map fun f => f.data.length).sum
def withoutF (s : List UInt8) (l : List Fl) : List Fl := l.filter fun f => !decide (f.name = s)
/-- Files with one more, or in the place of that of its name; 'done' says that it stands already. -/
def withF (f : Fl) : Bool → List Fl → List Fl
  | done, [] => if done then [] else [f]
  | done, g :: r => (if !done && !Op.bytesLess g.name f.name then [f] else []) ++ (if g.name = f.name then [] else [g]) ++ withF f (done || !Op.bytesLess g.name f.name) r
/-- How many bytes a crash leaves of a file. -/
def leftF (keep : Int) (f : Fl) : Nat := min (f.sure + keep.toNat) f.data.length
def cutF (keep : Int) (f : Fl) : Fl := ⟨f.name, f.data.take (leftF keep f), leftF keep f⟩

theorem lookF_take (s : List UInt8) (l : List Fl) (k : Nat) (f : Fl) (h : l[k]? = some f) : lookF s (l.take (k + 1)) = (lookF s (l.take k)).or (if f.name = s then some f else none) := by
  unfold lookF
  rw [List.take_add_one, h, List.find?_append]
  simp only [Option.toList_some]
  congr 1
  by_cases e : f.name = s <;> simp [e]
theorem lookF_here (s : List UInt8) (l : List Fl) (k : Nat) (f : Fl) (h : l[k]? = some f) (hn : lookF s (l.take k) = none) (e : f.name = s) : lookF s l = some f := by
  have h1 : lookF s (l.take (k + 1)) = some f := by rw [lookF_take s l k f h, hn, if_pos e]; rfl
  unfold lookF at h1 ⊢
  have h2 : l.find? (fun f => decide (f.name = s)) = ((l.take (k + 1)).find? (fun f => decide (f.name = s))).or ((l.drop (k + 1)).find? fun f => decide (f.name = s)) := by
    rw [← List.find?_append, List.take_append_drop]
  rw [h2, h1]
  rfl
theorem sizeF_take (l : List Fl) (k : Nat) (f : Fl) (h : l[k]? = some f) : sizeF (l.take (k + 1)) = sizeF (l.take k) + f.data.length := by
  unfold sizeF
  rw [List.take_add_one, h]
  simp
theorem withoutF_take (s : List UInt8) (l : List Fl) (k : Nat) (f : Fl) (h : l[k]? = some f) : withoutF s (l.take (k + 1)) = withoutF s (l.take k) ++ (if f.name = s then [] else [f]) := by
  unfold withoutF
  rw [List.take_add_one, h, List.filter_append]
  congr 1
  by_cases e : f.name = s <;> simp [e]

theorem sizeF_le (l : List Fl) (k : Nat) : sizeF (l.take k) ≤ sizeF l := by
  have : sizeF l = sizeF (l.take k) + sizeF (l.drop k) := by
    unfold sizeF
    rw [← List.sum_append, ← List.map_append, List.take_append_drop]
  omega

theorem withF_drop (f : Fl) (d : Bool) (l : List Fl) (k : Nat) (g : Fl) (h : l[k]? = some g) : withF f d (l.drop k) = (if !d && !Op.bytesLess g.name f.name then [f] else []) ++ (if g.name = f.name then [] else [g]) ++ withF f (d || !Op.bytesLess g.name f.name) (l.drop (k + 1)) := by
  have h1 := (List.getElem?_eq_some_iff.1 h).1
  have e1 : l[k] = g := (List.getElem?_eq_some_iff.1 h).2
  rw [List.drop_eq_getElem_cons h1, e1]
  rfl
theorem withF_end (f : Fl) (d : Bool) (l : List Fl) (k : Nat) (h : l.length ≤ k) : withF f d (l.drop k) = if d then [] else [f] := by
  rw [List.drop_eq_nil_of_le h]
  rfl

end Go.Proofs.Ytnjkilmhphcocaa
