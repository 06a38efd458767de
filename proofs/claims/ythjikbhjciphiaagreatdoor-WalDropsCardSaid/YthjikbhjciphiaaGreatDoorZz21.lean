/-
  Arithmetic of a disk: files in their order, what a step does. No program stands here.
-/
import Derived.Test.YthjikbhjciphiaaGreatDoorZz8
import Derived.Test.YthjikbhjciphiaaGreatDoorZz17
import Derived.Laws.AppendOwn
import Derived.Deep.RegionHeld3
import Derived.Deep.AppendLies
import Derived.IntWalk
import Derived.Test.YthjikbhjciphiaaGreatDoorZz18
namespace Go.Proofs.YthjikbhjciphiaaGreatDoor
open Go.RowKit
set_option linter.unusedVariables false
set_option linter.unusedSimpArgs false

/-- The file of a name. -/
def lookF (s : List UInt8) (l : List Fl) : Option Fl := l.find? fun f => decide (f.name = s)
/-- Where the file of a name stands. -/
def findN (s : List UInt8) : List Fl → Nat → Int
  | [], _ => -1
  | f :: r, k => if f.name = s then (k : Int) else findN s r (k + 1)
theorem findN_spec (s : List UInt8) : ∀ (l : List Fl) (k : Nat), (findN s l k = -1 ∧ lookF s l = none) ∨ ∃ (j : Nat) (f : Fl), findN s l k = ((k + j : Nat) : Int) ∧ l[j]? = some f ∧ lookF s l = some f := by
  intro l
  induction l with
  | nil => intro k; exact .inl ⟨rfl, rfl⟩
  | cons g r ih =>
    intro k
    by_cases h : g.name = s
    · exact .inr ⟨0, g, by show (if g.name = s then _ else _) = _; rw [if_pos h]; rfl, rfl, by unfold lookF; rw [List.find?_cons, decide_eq_true h]⟩
    · have e1 : findN s (g :: r) k = findN s r (k + 1) := by show (if g.name = s then _ else _) = _; rw [if_neg h]
      have e2 : lookF s (g :: r) = lookF s r := by unfold lookF; rw [List.find?_cons, decide_eq_false h]
      rw [e1, e2]
      rcases ih (k + 1) with ⟨h1, h2⟩ | ⟨j, f, h1, h2, h3⟩
      · exact .inl ⟨h1, h2⟩
      · exact .inr ⟨j + 1, f, by rw [h1]; congr 1; omega, by simpa using h2, h3⟩
theorem findN_drop (s : List UInt8) (l : List Fl) (k : Nat) (f : Fl) (h : l[k]? = some f) : findN s (l.drop k) k = if f.name = s then (k : Int) else findN s (l.drop (k + 1)) (k + 1) := by
  have h1 := (List.getElem?_eq_some_iff.1 h).1
  have e1 : l[k] = f := (List.getElem?_eq_some_iff.1 h).2
  rw [List.drop_eq_getElem_cons h1, e1]
  rfl
/-- Bytes of all files. -/
def sizeF (l : List Fl) : Nat := (l.map fun f => f.data.length).sum
def withoutF (s : List UInt8) (l : List Fl) : List Fl := l.filter fun f => !decide (f.name = s)
/-- Files with one more, or in the place of that of its name; 'done' says that it stands already. -/
def withF (f : Fl) : Bool → List Fl → List Fl
  | done, [] => if done then [] else [f]
  | done, g :: r => (if !done && !Op.bytesLess g.name f.name then [f] else []) ++ (if g.name = f.name then [] else [g]) ++ withF f (done || !Op.bytesLess g.name f.name) r
/-- How many bytes a crash leaves of a file. -/
def leftF (keep : Int) (f : Fl) : Nat := min (f.sure + keep.toNat) f.data.length
def cutF (keep : Int) (f : Fl) : Fl := ⟨f.name, f.data.take (leftF keep f), leftF keep f⟩

theorem lookF_take (s : List UInt8) (l : List Fl) (k : Nat) (f : Fl) (h : l[k]? = some f) : lookF s (l.take (k + 1)) = (lookF s (l.take k)).or (if f.name = s then some f else none) := by
  unfold lookF
  rw [List.take_add_one, h, List.find?_append]
  simp only [Option.toList_some]
  congr 1
  by_cases e : f.name = s <;> simp [e]
theorem lookF_here (s : List UInt8) (l : List Fl) (k : Nat) (f : Fl) (h : l[k]? = some f) (hn : lookF s (l.take k) = none) (e : f.name = s) : lookF s l = some f := by
  have h1 : lookF s (l.take (k + 1)) = some f := by rw [lookF_take s l k f h, hn, if_pos e]; rfl
  unfold lookF at h1 ⊢
  have h2 : l.find? (fun f => decide (f.name = s)) = ((l.take (k + 1)).find? (fun f => decide (f.name = s))).or ((l.drop (k + 1)).find? fun f => decide (f.name = s)) := by
    rw [← List.find?_append, List.take_append_drop]
  rw [h2, h1]
  rfl
theorem sizeF_take (l : List Fl) (k : Nat) (f : Fl) (h : l[k]? = some f) : sizeF (l.take (k + 1)) = sizeF (l.take k) + f.data.length := by
  unfold sizeF
  rw [List.take_add_one, h]
  simp
theorem withoutF_take (s : List UInt8) (l : List Fl) (k : Nat) (f : Fl) (h : l[k]? = some f) : withoutF s (l.take (k + 1)) = withoutF s (l.take k) ++ (if f.name = s then [] else [f]) := by
  unfold withoutF
  rw [List.take_add_one, h, List.filter_append]
  congr 1
  by_cases e : f.name = s <;> simp [e]

theorem sizeF_le (l : List Fl) (k : Nat) : sizeF (l.take k) ≤ sizeF l := by
  have : sizeF l = sizeF (l.take k) + sizeF (l.drop k) := by
    unfold sizeF
    rw [← List.sum_append, ← List.map_append, List.take_append_drop]
  omega

theorem withF_drop (f : Fl) (d : Bool) (l : List Fl) (k : Nat) (g : Fl) (h : l[k]? = some g) : withF f d (l.drop k) = (if !d && !Op.bytesLess g.name f.name then [f] else []) ++ (if g.name = f.name then [] else [g]) ++ withF f (d || !Op.bytesLess g.name f.name) (l.drop (k + 1)) := by
  have h1 := (List.getElem?_eq_some_iff.1 h).1
  have e1 : l[k] = g := (List.getElem?_eq_some_iff.1 h).2
  rw [List.drop_eq_getElem_cons h1, e1]
  rfl
theorem withF_end (f : Fl) (d : Bool) (l : List Fl) (k : Nat) (h : l.length ≤ k) : withF f d (l.drop k) = if d then [] else [f] := by
  rw [List.drop_eq_nil_of_le h]
  rfl

end Go.Proofs.YthjikbhjciphiaaGreatDoor

/-
  The reference's files: where one stands, how many bytes there are, without one.
-/
namespace Go.Proofs.YthjikbhjciphiaaGreatDoor
open Go.RowKit
set_option linter.unusedVariables false
set_option linter.unusedSimpArgs false

theorem fl_parts {a b c : Value} {w : World} {S : Nat → Prop} {f : Fl} (h : FlV w S (.agg #[a, b, c]) f) : ∃ A n k, a = .string ⟨f.name.toArray⟩ ∧ b = .slice A n k ∧ c = .int .i64 ((f.sure : Nat) : Int) ∧ BytS w S A n f.data ∧ (A = none → n = 0 ∧ k = 0) ∧ n ≤ k ∧ k ≤ maxLen := by
  obtain ⟨A, n, k, e, h1⟩ := h
  have e2 : a = .string ⟨f.name.toArray⟩ ∧ b = .slice A n k ∧ c = .int .i64 ((f.sure : Nat) : Int) := by simpa using e
  exact ⟨A, n, k, e2.1, e2.2.1, e2.2.2, h1⟩

theorem withoutF_step (s : List UInt8) (l : List Fl) (k : Nat) (f : Fl) (h : l[k]? = some f) (e : ¬ f.name = s) : withoutF s (l.take (k + 1)) = withoutF s (l.take k) ++ [f] := by
  rw [withoutF_take s l k f h, if_neg e]
theorem withoutF_skip (s : List UInt8) (l : List Fl) (k : Nat) (f : Fl) (h : l[k]? = some f) (e : f.name = s) : withoutF s (l.take (k + 1)) = withoutF s (l.take k) := by
  rw [withoutF_take s l k f h, if_pos e, List.append_nil]
theorem withoutF_len (s : List UInt8) (l : List Fl) (k : Nat) : (withoutF s (l.take k)).length ≤ k := by
  unfold withoutF
  have h1 := List.length_filter_le (fun f : Fl => !decide (f.name = s)) (l.take k)
  have h2 : (l.take k).length ≤ k := List.length_take_le _ _
  omega

end Go.Proofs.YthjikbhjciphiaaGreatDoor

/-
  The reference's files behind a crash.
-/
namespace Go.Proofs.YthjikbhjciphiaaGreatDoor
open Go.RowKit
set_option linter.unusedVariables false
set_option linter.unusedSimpArgs false

theorem map_take_snoc (g : Fl → Fl) (l : List Fl) (k : Nat) (f : Fl) (h : l[k]? = some f) : (l.take (k + 1)).map g = (l.take k).map g ++ [g f] := by
  rw [List.take_add_one, h]
  simp

end Go.Proofs.YthjikbhjciphiaaGreatDoor

/-
  The reference's files with one more, or in the place of that of its name.
-/
namespace Go.Proofs.YthjikbhjciphiaaGreatDoor
open Go.RowKit
set_option linter.unusedVariables false
set_option linter.unusedSimpArgs false

end Go.Proofs.YthjikbhjciphiaaGreatDoor

/-
  The reference's disk: a crash; whether a call begins.
-/
namespace Go.Proofs.YthjikbhjciphiaaGreatDoor
open Go.RowKit
set_option linter.unusedVariables false
set_option linter.unusedSimpArgs false

/-- A disk. -/
structure Dk where
  files : List Fl
  cap : Int
  calls : Nat
  armed : Bool
  left : Nat
  keep : Int
  down : Bool
/-- Few files, of few bytes, no more sure than there are. -/
def GoodD (m : Dk) : Prop := m.files.length ≤ 2000 ∧ sizeF m.files ≤ 100000 ∧ ∀ f ∈ m.files, f.sure ≤ f.data.length
def crashD (keep : Int) (m : Dk) : Dk := ⟨m.files.map (cutF keep), m.cap, m.calls, false, m.left, m.keep, true⟩

theorem mem_size (l : List Fl) (f : Fl) (h : f ∈ l) : f.data.length ≤ sizeF l := by
  induction l with
  | nil => cases h
  | cons g r ih =>
    have e : sizeF (g :: r) = g.data.length + sizeF r := by simp [sizeF]
    rcases List.mem_cons.1 h with rfl | h
    · omega
    · have := ih h
      omega

theorem crash_good (keep : Int) (m : Dk) (h : GoodD m) : GoodD (crashD keep m) := by
  refine ⟨by show (m.files.map _).length ≤ _; rw [List.length_map]; exact h.1, ?_, ?_⟩
  · refine Nat.le_trans ?_ h.2.1
    show sizeF (m.files.map (cutF keep)) ≤ sizeF m.files
    generalize m.files = l
    induction l with
    | nil => exact Nat.le_refl _
    | cons f r ih =>
      have e1 : sizeF (f :: r) = f.data.length + sizeF r := by simp [sizeF]
      have e2 : sizeF ((f :: r).map (cutF keep)) = (cutF keep f).data.length + sizeF (r.map (cutF keep)) := by simp [sizeF]
      have e3 : (cutF keep f).data.length ≤ f.data.length := by
        show (f.data.take _).length ≤ _
        rw [List.length_take]
        omega
      omega
  · intro g hg
    obtain ⟨f, hf, rfl⟩ := List.mem_map.1 hg
    show leftF keep f ≤ (f.data.take (leftF keep f)).length
    rw [List.length_take]
    unfold leftF
    omega

/-- Whether a call begins, and how the disk stands then. -/
def beginD (m : Dk) : Bool × Dk :=
  if m.down then (false, m) else if m.armed && decide (m.left = 0) then (false, crashD m.keep m) else (true, ⟨m.files, m.cap, m.calls + 1, m.armed, if m.armed then m.left - 1 else m.left, m.keep, m.down⟩)

end Go.Proofs.YthjikbhjciphiaaGreatDoor

/-
  The reference's disk: whether a call begins.
-/
namespace Go.Proofs.YthjikbhjciphiaaGreatDoor
open Go.RowKit
set_option linter.unusedVariables false
set_option linter.unusedSimpArgs false

theorem begin_down (m : Dk) (h : m.down = true) : beginD m = (false, m) := by unfold beginD; rw [h]; rfl
theorem begin_crash (m : Dk) (h : m.down = false) (ha : m.armed = true) (hl : m.left = 0) : beginD m = (false, crashD m.keep m) := by unfold beginD; rw [h, ha, hl]; rfl
theorem begin_armed (m : Dk) (h : m.down = false) (ha : m.armed = true) (hl : m.left ≠ 0) : beginD m = (true, ⟨m.files, m.cap, m.calls + 1, true, m.left - 1, m.keep, false⟩) := by
  unfold beginD
  rw [h, ha, decide_eq_false hl]
  rfl
theorem begin_free (m : Dk) (h : m.down = false) (ha : m.armed = false) : beginD m = (true, ⟨m.files, m.cap, m.calls + 1, false, m.left, m.keep, false⟩) := by
  unfold beginD
  rw [h, ha]
  rfl

end Go.Proofs.YthjikbhjciphiaaGreatDoor

/-
  The reference's disk: a step.
-/
namespace Go.Proofs.YthjikbhjciphiaaGreatDoor
open Go.RowKit
set_option linter.unusedVariables false
set_option linter.unusedSimpArgs false

/-- A step. -/
structure Sp where
  kind : Int
  name : List UInt8
  «to» : List UInt8
  data : List UInt8
  n : Nat
  m : Int
/-- The value of a step. -/
def spV (s : Sp) (A : Option Addr) (n c : Nat) : Value := .agg #[.int .i64 s.kind, .string ⟨s.name.toArray⟩, .string ⟨s.to.toArray⟩, .slice A n c, .int .u64 ((s.n : Nat) : Int), .int .i64 s.m]
def isCall (s : Sp) : Bool := decide (1 ≤ s.kind) && decide (s.kind ≤ 4)
def withFs (m : Dk) (l : List Fl) : Dk := ⟨l, m.cap, m.calls, m.armed, m.left, m.keep, m.down⟩
/-- The file of a name, or one without bytes. -/
def fileF (s : List UInt8) (l : List Fl) : Fl := (lookF s l).getD ⟨s, [], 0⟩
/-- What a call that begins answers, and what is there behind it. -/
def callD (m : Dk) (s : Sp) : Int × Dk :=
  if !targetB s.name || (decide (s.kind = 3) && !targetB s.to) then (7, m)
  else if s.kind = 1 then
    (if !(lookF s.name m.files).isSome && decide (1024 ≤ m.files.length) then (15, m)
    else if m.cap - sizeF m.files < (s.data.length : Int) then (10, m)
    else (0, withFs m (withF ⟨s.name, (fileF s.name m.files).data ++ s.data, (fileF s.name m.files).sure⟩ false m.files)))
  else if !(lookF s.name m.files).isSome then (8, m)
  else if s.kind = 2 then (0, withFs m (withF ⟨s.name, (fileF s.name m.files).data, (fileF s.name m.files).data.length⟩ false m.files))
  else if s.kind = 3 then (0, withFs m (withF ⟨s.to, (fileF s.name m.files).data, (fileF s.name m.files).sure⟩ false (withoutF s.name m.files)))
  else (0, withFs m (withoutF s.name m.files))
/-- A step's answer, and how the disk stands behind it. -/
def doD (m : Dk) (s : Sp) : Int × Dk :=
  if s.kind = 5 then (0, ⟨m.files, m.cap, m.calls, true, s.n, s.m, m.down⟩)
  else if s.kind = 6 then (0, crashD s.m m)
  else if s.kind = 7 then (0, ⟨m.files, m.cap, m.calls, m.armed, m.left, m.keep, false⟩)
  else if !isCall s then (0, m)
  else if (beginD m).1 then callD (beginD m).2 s else (19, (beginD m).2)

theorem do_arm (m : Dk) (s : Sp) (h : s.kind = 5) : doD m s = (0, ⟨m.files, m.cap, m.calls, true, s.n, s.m, m.down⟩) := by unfold doD; rw [if_pos h]
theorem do_crash (m : Dk) (s : Sp) (h : s.kind = 6) : doD m s = (0, crashD s.m m) := by unfold doD; rw [if_neg (by omega), if_pos h]
theorem do_up (m : Dk) (s : Sp) (h : s.kind = 7) : doD m s = (0, ⟨m.files, m.cap, m.calls, m.armed, m.left, m.keep, false⟩) := by unfold doD; rw [if_neg (by omega), if_neg (by omega), if_pos h]
theorem do_none (m : Dk) (s : Sp) (h : isCall s = false) (h5 : s.kind ≠ 5) (h6 : s.kind ≠ 6) (h7 : s.kind ≠ 7) : doD m s = (0, m) := by unfold doD; rw [if_neg h5, if_neg h6, if_neg h7, h]; rfl

end Go.Proofs.YthjikbhjciphiaaGreatDoor

/-
  The reference's disk: calls that do not begin, and such with a name that is none.
-/
namespace Go.Proofs.YthjikbhjciphiaaGreatDoor
open Go.RowKit
set_option linter.unusedVariables false
set_option linter.unusedSimpArgs false

theorem do_refused (m : Dk) (s : Sp) (h : isCall s = true) (hb : (beginD m).1 = false) : doD m s = (19, (beginD m).2) := by
  have h2 : 1 ≤ s.kind ∧ s.kind ≤ 4 := by unfold isCall at h; simpa using h
  unfold doD
  rw [if_neg (by omega), if_neg (by omega), if_neg (by omega), h, hb]
  rfl
theorem do_call (m : Dk) (s : Sp) (h : isCall s = true) (hb : (beginD m).1 = true) : doD m s = callD (beginD m).2 s := by
  have h2 : 1 ≤ s.kind ∧ s.kind ≤ 4 := by unfold isCall at h; simpa using h
  unfold doD
  rw [if_neg (by omega), if_neg (by omega), if_neg (by omega), h, hb]
  rfl
theorem begin_same (m : Dk) (h : (beginD m).1 = true) : (beginD m).2.files = m.files ∧ (beginD m).2.cap = m.cap := by
  unfold beginD at h ⊢
  split at h
  · cases h
  · split at h
    · cases h
    · rename_i h1 h2
      rw [if_neg h1, if_neg h2]
      exact ⟨rfl, rfl⟩

theorem call_name (m : Dk) (s : Sp) (h : targetB s.name = false) : callD m s = (7, m) := by unfold callD; rw [h]; rfl
theorem call_to (m : Dk) (s : Sp) (h : s.kind = 3) (ht : targetB s.to = false) : callD m s = (7, m) := by unfold callD; rw [h, ht]; simp

end Go.Proofs.YthjikbhjciphiaaGreatDoor

/-
  The reference's disk: calls on a file that is not there.
-/
namespace Go.Proofs.YthjikbhjciphiaaGreatDoor
open Go.RowKit
set_option linter.unusedVariables false
set_option linter.unusedSimpArgs false

theorem call_to_ok (s : Sp) (h : s.kind = 3 → targetB s.to = true) : (decide (s.kind = 3) && !targetB s.to) = false := by
  by_cases h3 : s.kind = 3
  · rw [h h3]; simp
  · simp [h3]
theorem call_none (m : Dk) (s : Sp) (hn : targetB s.name = true) (ht : s.kind = 3 → targetB s.to = true) (h1 : s.kind ≠ 1) (hlo : lookF s.name m.files = none) : callD m s = (8, m) := by
  unfold callD
  rw [hn, call_to_ok s ht, if_neg h1, hlo]
  rfl

end Go.Proofs.YthjikbhjciphiaaGreatDoor

/-
  Files in the order of their names: what With and Without keep; a list in order is told by its look-ups. No program stands here.
-/
namespace Go.Proofs.YthjikbhjciphiaaGreatDoor
open Go.RowKit
set_option linter.unusedVariables false
set_option linter.unusedSimpArgs false

theorem bl_irrefl (a : List UInt8) : Op.bytesLess a a = false := by
  induction a with
  | nil => rfl
  | cons x r ih => simp [Op.bytesLess, ih]
theorem bl_cons (x y : UInt8) (a b : List UInt8) : Op.bytesLess (x :: a) (y :: b) = true ↔ x.toNat < y.toNat ∨ (x = y ∧ Op.bytesLess a b = true) := by
  simp [Op.bytesLess, UInt8.lt_iff_toNat_lt]
theorem bl_trans (a : List UInt8) : ∀ b c, Op.bytesLess a b = true → Op.bytesLess b c = true → Op.bytesLess a c = true := by
  induction a with
  | nil =>
    intro b c h1 h2
    cases c with
    | nil => cases b <;> simp [Op.bytesLess] at h2
    | cons z c => rfl
  | cons x a ih =>
    intro b c h1 h2
    cases b with
    | nil => simp [Op.bytesLess] at h1
    | cons y b =>
      cases c with
      | nil => simp [Op.bytesLess] at h2
      | cons z c =>
        rw [bl_cons] at h1 h2 ⊢
        rcases h1 with h1 | ⟨rfl, h1⟩
        · rcases h2 with h2 | ⟨rfl, h2⟩
          · exact .inl (by omega)
          · exact .inl h1
        · rcases h2 with h2 | ⟨rfl, h2⟩
          · exact .inl h2
          · exact .inr ⟨rfl, ih _ _ h1 h2⟩
theorem bl_total (a : List UInt8) : ∀ b, Op.bytesLess a b = false → Op.bytesLess b a = false → a = b := by
  induction a with
  | nil =>
    intro b h1 h2
    cases b with
    | nil => rfl
    | cons y b => simp [Op.bytesLess] at h1
  | cons x a ih =>
    intro b h1 h2
    cases b with
    | nil => simp [Op.bytesLess] at h2
    | cons y b =>
      have n1 : ¬ (x.toNat < y.toNat ∨ (x = y ∧ Op.bytesLess a b = true)) := fun h => by rw [(bl_cons x y a b).2 h] at h1; cases h1
      have n2 : ¬ (y.toNat < x.toNat ∨ (y = x ∧ Op.bytesLess b a = true)) := fun h => by rw [(bl_cons y x b a).2 h] at h2; cases h2
      have e : x = y := UInt8.toNat_inj.1 (by
        have h3 : ¬ x.toNat < y.toNat := fun h => n1 (.inl h)
        have h4 : ¬ y.toNat < x.toNat := fun h => n2 (.inl h)
        omega)
      subst e
      rw [ih b (by
        cases h : Op.bytesLess a b
        · rfl
        · exact absurd (.inr ⟨rfl, h⟩) n1) (by
        cases h : Op.bytesLess b a
        · rfl
        · exact absurd (.inr ⟨rfl, h⟩) n2)]
theorem bl_asymm (a b : List UInt8) (h : Op.bytesLess a b = true) : Op.bytesLess b a = false := by
  cases h2 : Op.bytesLess b a
  · rfl
  · have := bl_trans a b a h h2
    rw [bl_irrefl] at this
    cases this

/-- In the order of the names, none twice. -/
def SrtF (l : List Fl) : Prop := l.Pairwise fun a b => Op.bytesLess a.name b.name = true

theorem look_cons (t : List UInt8) (g : Fl) (r : List Fl) : lookF t (g :: r) = if g.name = t then some g else lookF t r := by
  unfold lookF
  rw [List.find?_cons]
  by_cases h : g.name = t <;> simp [h]
theorem look_append (t : List UInt8) (a b : List Fl) : lookF t (a ++ b) = (lookF t a).or (lookF t b) := by
  unfold lookF
  rw [List.find?_append]
theorem look_name (t : List UInt8) (l : List Fl) (f : Fl) (h : lookF t l = some f) : f.name = t := by
  have := List.find?_some h
  simpa using this
theorem look_mem_some (l : List Fl) (g : Fl) (h : g ∈ l) : ∃ f, lookF g.name l = some f := by
  cases hx : lookF g.name l with
  | some f => exact ⟨f, rfl⟩
  | none =>
    unfold lookF at hx
    have := List.find?_eq_none.1 hx g h
    simp at this

theorem look_without (t s : List UInt8) (l : List Fl) : lookF t (withoutF s l) = if t = s then none else lookF t l := by
  induction l with
  | nil => show none = _; split <;> rfl
  | cons g r ih =>
    have e : withoutF s (g :: r) = (if g.name = s then [] else [g]) ++ withoutF s r := by
      unfold withoutF
      by_cases h : g.name = s <;> simp [h]
    rw [e]
    by_cases h : g.name = s
    · rw [if_pos h, List.nil_append, ih, look_cons]
      by_cases ht : t = s
      · rw [if_pos ht, if_pos ht]
      · rw [if_neg ht, if_neg ht, if_neg (fun e => ht (e.symm.trans h))]
    · rw [if_neg h]
      show lookF t (g :: withoutF s r) = _
      rw [look_cons, look_cons, ih]
      by_cases ht : t = s
      · rw [if_pos ht, if_pos ht, if_neg (fun e => h (e.trans ht))]
      · rw [if_neg ht, if_neg ht]

theorem look_with (t : List UInt8) (f : Fl) (l : List Fl) : ∀ d : Bool, lookF t (withF f d l) = if t = f.name then (if d then none else some f) else lookF t l := by
  induction l with
  | nil =>
    intro d
    cases d
    · show lookF t [f] = _
      rw [look_cons]
      by_cases h : t = f.name
      · rw [if_pos h.symm, if_pos h]; rfl
      · rw [if_neg (fun e => h e.symm), if_neg h]
    · show none = _
      split <;> rfl
  | cons g r ih =>
    intro d
    have e : withF f d (g :: r) = (if !d && !Op.bytesLess g.name f.name then [f] else []) ++ (if g.name = f.name then [] else [g]) ++ withF f (d || !Op.bytesLess g.name f.name) r := rfl
    rw [e, look_append, look_append, ih, look_cons]
    have h0 : lookF t [] = none := rfl
    by_cases ht : t = f.name
    · rw [if_pos ht, if_pos ht]
      have h1 : lookF t (if g.name = f.name then ([] : List Fl) else [g]) = none := by
        split
        · rfl
        · rename_i h
          rw [look_cons, if_neg (fun e => h (e.trans ht))]; rfl
      have h00 : lookF f.name [] = none := rfl
      rw [h1]
      cases d <;> cases Op.bytesLess g.name f.name <;> simp [h00, look_cons, ht]
    · rw [if_neg ht, if_neg ht]
      have h1 : lookF t (if (!d && !Op.bytesLess g.name f.name) = true then [f] else []) = none := by
        split
        · rw [look_cons, if_neg (fun e => ht e.symm)]; rfl
        · rfl
      rw [h1]
      by_cases hg : g.name = f.name
      · rw [if_pos hg, if_neg (fun e => ht (e.symm.trans hg))]; rfl
      · rw [if_neg hg, look_cons]
        by_cases hgt : g.name = t
        · rw [if_pos hgt, if_pos hgt]; rfl
        · rw [if_neg hgt, if_neg hgt]; rfl

theorem srt_without (s : List UInt8) (l : List Fl) (h : SrtF l) : SrtF (withoutF s l) := List.Pairwise.filter _ h

theorem mem_withF (f g : Fl) (l : List Fl) : ∀ d : Bool, g ∈ withF f d l → (g = f ∧ d = false) ∨ g ∈ l := by
  induction l with
  | nil =>
    intro d h
    cases d
    · exact .inl ⟨by simpa using (show g ∈ [f] from h), rfl⟩
    · cases h
  | cons a r ih =>
    intro d h
    have e : withF f d (a :: r) = (if !d && !Op.bytesLess a.name f.name then [f] else []) ++ (if a.name = f.name then [] else [a]) ++ withF f (d || !Op.bytesLess a.name f.name) r := rfl
    rw [e, List.mem_append, List.mem_append] at h
    rcases h with (h | h) | h
    · split at h
      · rename_i hd
        refine .inl ⟨by simpa using h, ?_⟩
        cases d
        · rfl
        · simp at hd
      · cases h
    · split at h
      · cases h
      · exact .inr (by rw [List.mem_singleton.1 h]; exact List.mem_cons_self)
    · rcases ih _ h with ⟨h1, h2⟩ | h
      · refine .inl ⟨h1, ?_⟩
        cases d
        · rfl
        · cases h2
      · exact .inr (List.mem_cons_of_mem _ h)

/-- 'done': the file stands ahead already, and all that follows comes behind it, or is of its name. -/
theorem srt_with (f : Fl) (l : List Fl) : ∀ d : Bool, SrtF l → (d = true → ∀ g ∈ l, Op.bytesLess g.name f.name = false) → SrtF (withF f d l) := by
  induction l with
  | nil =>
    intro d _ _
    cases d
    · exact List.pairwise_singleton _ _
    · exact List.Pairwise.nil
  | cons g r ih =>
    intro d hs hd
    have hs1 := List.pairwise_cons.1 hs
    have e : withF f d (g :: r) = (if !d && !Op.bytesLess g.name f.name then [f] else []) ++ (if g.name = f.name then [] else [g]) ++ withF f (d || !Op.bytesLess g.name f.name) r := rfl
    rw [e]
    have hless : Op.bytesLess g.name f.name = false → ∀ x ∈ r, Op.bytesLess f.name x.name = true := fun hg x hx => by
      have h1 := hs1.1 x hx
      by_cases he : g.name = f.name
      · rw [← he]; exact h1
      · refine bl_trans _ _ _ ?_ h1
        cases hq : Op.bytesLess f.name g.name
        · exact absurd (bl_total _ _ hg hq) he
        · rfl
    have hback : Op.bytesLess g.name f.name = false → ∀ x ∈ r, Op.bytesLess x.name f.name = false := fun hg x hx => bl_asymm _ _ (hless hg x hx)
    cases hg : Op.bytesLess g.name f.name
    · -- the file comes here, or stood already
      have hr : SrtF (withF f true r) := ih true hs1.2 (fun _ => hback hg)
      have hm : ∀ x ∈ withF f true r, x ∈ r := fun x hx => by
        rcases mem_withF f x r true hx with ⟨_, h⟩ | h
        · cases h
        · exact h
      have hgr : SrtF ((if g.name = f.name then [] else [g]) ++ withF f true r) := by
        split
        · exact hr
        · exact List.pairwise_cons.2 ⟨fun x hx => hs1.1 x (hm x hx), hr⟩
      have hfg : ∀ x ∈ (if g.name = f.name then [] else [g]) ++ withF f true r, Op.bytesLess f.name x.name = true := fun x hx => by
        rcases List.mem_append.1 hx with h | h
        · split at h
          · cases h
          · rename_i hne
            rw [List.mem_singleton.1 h]
            cases hq : Op.bytesLess f.name g.name
            · exact absurd (bl_total _ _ hg hq) hne
            · rfl
        · exact hless hg x (hm x h)
      cases d
      · simp only [Bool.not_false, Bool.and_self, if_true, Bool.false_or, List.append_assoc]
        exact List.pairwise_cons.2 ⟨hfg, hgr⟩
      · simp only [Bool.not_true, Bool.false_and, Bool.true_or, List.append_assoc, Bool.false_eq_true, if_false, List.nil_append]
        exact hgr
    · -- g comes ahead of it
      cases d
      · have hr : SrtF (withF f false r) := ih false hs1.2 (fun h => by cases h)
        have hne : ¬ g.name = f.name := fun h => by rw [h, bl_irrefl] at hg; cases hg
        simp only [Bool.not_false, Bool.not_true, Bool.and_false, Bool.or_false, Bool.false_eq_true, if_false, List.nil_append, if_neg hne]
        refine List.pairwise_cons.2 ⟨fun x hx => ?_, hr⟩
        rcases mem_withF f x r false hx with ⟨h, _⟩ | h
        · rw [h]; exact hg
        · exact hs1.1 x h
      · have := hd rfl g List.mem_cons_self
        rw [this] at hg
        cases hg

theorem srt_map (k : Fl → Fl) (l : List Fl) (hk : ∀ f, (k f).name = f.name) (h : SrtF l) : SrtF (l.map k) := by
  unfold SrtF
  rw [List.pairwise_map]
  refine List.Pairwise.imp (fun {a b} hab => ?_) h
  rw [hk, hk]; exact hab
theorem look_map (k : Fl → Fl) (l : List Fl) (hk : ∀ f, (k f).name = f.name) (t : List UInt8) : lookF t (l.map k) = (lookF t l).map k := by
  induction l with
  | nil => rfl
  | cons g r ih =>
    rw [List.map_cons, look_cons, look_cons, hk, ih]
    split <;> rfl

/-- Two lists in order that tell the same of each name are one. -/
theorem srt_ext (a : List Fl) : ∀ b, SrtF a → SrtF b → (∀ t, lookF t a = lookF t b) → a = b := by
  induction a with
  | nil =>
    intro b _ _ h
    cases b with
    | nil => rfl
    | cons g r =>
      have := h g.name
      rw [look_cons, if_pos rfl] at this
      cases this
  | cons f a ih =>
    intro b ha hb h
    cases b with
    | nil =>
      have := h f.name
      rw [look_cons, if_pos rfl] at this
      cases this
    | cons g r =>
      have ha1 := List.pairwise_cons.1 ha
      have hb1 := List.pairwise_cons.1 hb
      have hfg : f = g := by
        have h1 := h f.name
        have h2 := h g.name
        rw [look_cons, if_pos rfl, look_cons] at h1
        rw [look_cons, look_cons, if_pos rfl] at h2
        by_cases e : g.name = f.name
        · rw [if_pos e] at h1
          exact Option.some.inj h1
        · rw [if_neg e] at h1
          rw [if_neg (fun x => e x.symm)] at h2
          have m1 : f ∈ r := List.mem_of_find?_eq_some h1.symm
          have m2 : g ∈ a := List.mem_of_find?_eq_some h2
          have l1 := hb1.1 f m1
          have l2 := ha1.1 g m2
          rw [bl_asymm _ _ l1] at l2
          cases l2
      subst hfg
      rw [ih r ha1.2 hb1.2 fun t => ?_]
      have h1 := h t
      rw [look_cons, look_cons] at h1
      by_cases e : f.name = t
      · have none_of : ∀ l : List Fl, (∀ x ∈ l, Op.bytesLess f.name x.name = true) → lookF t l = none := fun l hl => by
          unfold lookF
          refine List.find?_eq_none.2 fun x hx => ?_
          intro hd
          have hx2 := hl x hx
          rw [of_decide_eq_true hd, ← e, bl_irrefl] at hx2
          cases hx2
        rw [none_of a ha1.1, none_of r hb1.1]
      · rw [if_neg e, if_neg e] at h1
        exact h1

end Go.Proofs.YthjikbhjciphiaaGreatDoor
