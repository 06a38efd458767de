/-
  Files in the order of their names: what With and Without keep; a list in order is told by its look-ups. No program stands here.
-/
import Derived.Test.YtnjkilmhphcocaaDkM
namespace Go.Proofs.Ytnjkilmhphcocaa
open Go.RowKit
set_option linter.unusedVariables false
set_option linter.unusedSimpArgs false

theorem bl_irrefl (a : List UInt8) : Op.bytesLess a a = false := by
  induction a with
  | nil => rfl
  | cons x r ih => simp [Op.bytesLess, ih]
theorem bl_cons (x y : UInt8) (a b : List UInt8) : Op.bytesLess (x :: a) (y :: b) = true ↔ x.toNat < y.toNat ∨ (x = y ∧ Op.bytesLess a b = true) := by
  simp [Op.bytesLess, UInt8.lt_iff_toNat_lt]
theorem bl_trans (a : List UInt8) : ∀ b c, Op.bytesLess a b = true → Op.bytesLess b c = true → Op.bytesLess a c = true := by
  induction a with
  | nil =>
    intro b c h1 h2
    cases c with
    | nil => cases b <;> simp [Op.bytesLess] at h2
    | cons z c => rfl
  | cons x a ih =>
    intro b c h1 h2
    cases b with
    | nil => simp [Op.bytesLess] at h1
    | cons y b =>
      cases c with
      | nil => simp [Op.bytesLess] at h2
      | cons z c =>
        rw [bl_cons] at h1 h2 ⊢
        rcases h1 with h1 | ⟨rfl, h1⟩
        · rcases h2 with h2 | ⟨rfl, h2⟩
          · exact .inl (by omega)
          · exact .inl h1
        · rcases h2 with h2 | ⟨rfl, h2⟩
          · exact .inl h2
          · exact .inr ⟨rfl, ih _ _ h1 h2⟩
theorem bl_total (a : List UInt8) : ∀ b, Op.bytesLess a b = false → Op.bytesLess b a = false → a = b := by
  induction a with
  | nil =>
    intro b h1 h2
    cases b with
    | nil => rfl
    | cons y b => simp [Op.bytesLess] at h1
  | cons x a ih =>
    intro b h1 h2
    cases b with
    | nil => simp [Op.bytesLess] at h2
    | cons y b =>
      have n1 : ¬ (x.toNat < y.toNat ∨ (x = y ∧ Op.bytesLess a b = true)) := fun h => by rw [(bl_cons x y a b).2 h] at h1; cases h1
      have n2 : ¬ (y.toNat < x.toNat ∨ (y = x ∧ Op.bytesLess b a = true)) := fun h => by rw [(bl_cons y x b a).2 h] at h2; cases h2
      have e : x = y := UInt8.toNat_inj.1 (by
        have h3 : ¬ x.toNat < y.toNat := fun h => n1 (.inl h)
        have h4 : ¬ y.toNat < x.toNat := fun h => n2 (.inl h)
        omega)
      subst e
      rw [ih b (by
        cases h : Op.bytesLess a b
        · rfl
        · exact absurd (.inr ⟨rfl, h⟩) n1) (by
        cases h : Op.bytesLess b a
        · rfl
        · exact absurd (.inr ⟨rfl, h⟩) n2)]
theorem bl_asymm (a b : List UInt8) (h : Op.bytesLess a b = true) : Op.bytesLess b a = false := by
  cases h2 : Op.bytesLess b a
  · rfl
  · have := bl_trans a b a h h2
    rw [bl_irrefl] at this
    cases this

/-- In the order of the names, none twice. -/
def SrtF (l : List Fl) : Prop := l.Pairwise fun a b => Op.bytesLess a.name b.name = true

theorem look_cons (t : List UInt8) (g : Fl) (r : List Fl) : lookF t (g :: r) = if g.name = t then some g else lookF t r := by
  unfold lookF
  rw [List.find?_cons]
  by_cases h : g.name = t <;> simp [h]
theorem look_append (t : List UInt8) (a b : List Fl) : lookF t (a ++ b) = (lookF t a).or (lookF t b) := by
  unfold lookF
  rw [List.find?_append]
theorem look_name (t : List UInt8) (l : List Fl) (f : Fl) (h : lookF t l = some f) : f.name = t := by
  have := List.find?_some h
  simpa using this
theorem look_mem_some (l : List Fl) (g : Fl) (h : g ∈ l) : ∃ f, lookF g.name l = some f := by
  cases hx : lookF g.name l with
  | some f => exact ⟨f, rfl⟩
  | none =>
    unfold lookF at hx
    have := List.find?_eq_none.1 hx g h
    simp at this

theorem look_without (t s : List UInt8) (l : List Fl) : lookF t (withoutF s l) = if t = s then none else lookF t l := by
  induction l with
  | nil => show none = _; split <;> rfl
  | cons g r ih =>
    have e : withoutF s (g :: r) = (if g.name = s then [] else [g]) ++ withoutF s r := by
      unfold withoutF
      by_cases h : g.name = s <;> simp [h]
    rw [e]
    by_cases h : g.name = s
    · rw [if_pos h, List.nil_append, ih, look_cons]
      by_cases ht : t = s
      · rw [if_pos ht, if_pos ht]
      · rw [if_neg ht, if_neg ht, if_neg (fun e => ht (e.symm.trans h))]
    · rw [if_neg h]
      show lookF t (g :: withoutF s r) = _
      rw [look_cons, look_cons, ih]
      by_cases ht : t = s
      · rw [if_pos ht, if_pos ht, if_neg (fun e => h (e.trans ht))]
      · rw [if_neg ht, if_neg ht]

theorem look_with (t : List UInt8) (f : Fl) (l : List Fl) : ∀ d : Bool, lookF t (withF f d l) = if t = f.name then (if d then none else some f) else lookF t l := by
  induction l with
  | nil =>
    intro d
    cases d
    · show lookF t [f] = _
      rw [look_cons]
      by_cases h : t = f.name
      · rw [if_pos h.symm, if_pos h]; rfl
      · rw [if_neg (fun e => h e.symm), if_neg h]
    · show none = _
      split <;> rfl
  | cons g r ih =>
    intro d
    have e : withF f d (g :: r) = (if !d && !Op.bytesLess g.name f.name then [f] else []) ++ (if g.name = f.name then [] else [g]) ++ withF f (d || !Op.bytesLess g.name f.name) r := rfl
    rw [e, look_append, look_append, ih, look_cons]
    have h0 : lookF t [] = none := rfl
    by_cases ht : t = f.name
    · rw [if_pos ht, if_pos ht]
      have h1 : lookF t (if g.name = f.name then ([] : List Fl) else [g]) = none := by
        split
        · rfl
        · rename_i h
          rw [look_cons, if_neg (fun e => h (e.trans ht))]; rfl
      have h00 : lookF f.name [] = none := rfl
      rw [h1]
      cases d <;> cases Op.bytesLess g.name f.name <;> simp [h00, look_cons, ht]
    · rw [if_neg ht, if_neg ht]
      have h1 : lookF t (if (!d && !Op.bytesLess g.name f.name) = true then [f] else []) = none := by
        split
        · rw [look_cons, if_neg (fun e => ht e.symm)]; rfl
        · rfl
      rw [h1]
      by_cases hg : g.name = f.name
      · rw [if_pos hg, if_neg (fun e => ht (e.symm.trans hg))]; rfl
      · rw [if_neg hg, look_cons]
        by_cases hgt : g.name = t
        · rw [if_pos hgt, if_pos hgt]; rfl
        · rw [if_neg hgt, if_neg hgt]; rfl

theorem srt_without (s : List UInt8) (l : List Fl) (h : SrtF l) : SrtF (withoutF s l) := List.Pairwise.filter _ h

theorem mem_withF (f g : Fl) (l : List Fl) : ∀ d : Bool, g ∈ withF f d l → (g = f ∧ d = false) ∨ g ∈ l := by
  induction l with
  | nil =>
    intro d h
    cases d
    · exact .inl ⟨by simpa using (show g ∈ [f] from h), rfl⟩
    · cases h
  | cons a r ih =>
    intro d h
    have e : withF f d (a :: r) = (if !d && !Op.bytesLess a.name f.name then [f] else []) ++ (if a.name = f.name then [] else [a]) ++ withF f (d || !Op.bytesLess a.name f.name) r := rfl
    rw [e, List.mem_append, List.mem_append] at h
    rcases h with (h | h) | h
    · split at h
      · rename_i hd
        refine .inl ⟨by simpa using h, ?_⟩
        cases d
        · rfl
        · simp at hd
      · cases h
    · split at h
      · cases h
      · exact .inr (by rw [List.mem_singleton.1 h]; exact List.mem_cons_self)
    · rcases ih _ h with ⟨h1, h2⟩ | h
      · refine .inl ⟨h1, ?_⟩
        cases d
        · rfl
        · cases h2
      · exact .inr (List.mem_cons_of_mem _ h)

/-- 'done': the file stands ahead already, and all that follows comes behind it, or is of its name. -/
theorem srt_with (f : Fl) (l : List Fl) : ∀ d : Bool, SrtF l → (d = true → ∀ g ∈ l, Op.bytesLess g.name f.name = false) → SrtF (withF f d l) := by
  induction l with
  | nil =>
    intro d _ _
    cases d
    · exact List.pairwise_singleton _ _
    · exact List.Pairwise.nil
  | cons g r ih =>
    intro d hs hd
    have hs1 := List.pairwise_cons.1 hs
    have e : withF f d (g :: r) = (if !d && !Op.bytesLess g.name f.name then [f] else []) ++ (if g.name = f.name then [] else [g]) ++ withF f (d || !Op.bytesLess g.name f.name) r := rfl
    rw [e]
    have hless : Op.bytesLess g.name f.name = false → ∀ x ∈ r, Op.bytesLess f.name x.name = true := fun hg x hx => by
      have h1 := hs1.1 x hx
      by_cases he : g.name = f.name
      · rw [← he]; exact h1
      · refine bl_trans _ _ _ ?_ h1
        cases hq : Op.bytesLess f.name g.name
        · exact absurd (bl_total _ _ hg hq) he
        · rfl
    have hback : Op.bytesLess g.name f.name = false → ∀ x ∈ r, Op.bytesLess x.name f.name = false := fun hg x hx => bl_asymm _ _ (hless hg x hx)
    cases hg : Op.bytesLess g.name f.name
    · -- the file comes here, or stood already
      have hr : SrtF (withF f true r) := ih true hs1.2 (fun _ => hback hg)
      have hm : ∀ x ∈ withF f true r, x ∈ r := fun x hx => by
        rcases mem_withF f x r true hx with ⟨_, h⟩ | h
        · cases h
        · exact h
      have hgr : SrtF ((if g.name = f.name then [] else [g]) ++ withF f true r) := by
        split
        · exact hr
        · exact List.pairwise_cons.2 ⟨fun x hx => hs1.1 x (hm x hx), hr⟩
      have hfg : ∀ x ∈ (if g.name = f.name then [] else [g]) ++ withF f true r, Op.bytesLess f.name x.name = true := fun x hx => by
        rcases List.mem_append.1 hx with h | h
        · split at h
          · cases h
          · rename_i hne
            rw [List.mem_singleton.1 h]
            cases hq : Op.bytesLess f.name g.name
            · exact absurd (bl_total _ _ hg hq) hne
            · rfl
        · exact hless hg x (hm x h)
      cases d
      · simp only [Bool.not_false, Bool.and_self, if_true, Bool.false_or, List.append_assoc]
        exact List.pairwise_cons.2 ⟨hfg, hgr⟩
      · simp only [Bool.not_true, Bool.false_and, Bool.true_or, List.append_assoc, Bool.false_eq_true, if_false, List.nil_append]
        exact hgr
    · -- g comes ahead of it
      cases d
      · have hr : SrtF (withF f false r) := ih false hs1.2 (fun h => by cases h)
        have hne : ¬ g.name = f.name := fun h => by rw [h, bl_irrefl] at hg; cases hg
        simp only [Bool.not_false, Bool.not_true, Bool.and_false, Bool.or_false, Bool.false_eq_true, if_false, List.nil_append, if_neg hne]
        refine List.pairwise_cons.2 ⟨fun x hx => ?_, hr⟩
        rcases mem_withF f x r false hx with ⟨h, _⟩ | h
        · rw [h]; exact hg
        · exact hs1.1 x h
      · have := hd rfl g List.mem_cons_self
        rw [this] at hg
        cases hg

theorem srt_map (k : Fl → Fl) (l : List Fl) (hk : ∀ f, (k f).name = f.name) (h : SrtF l) : SrtF (l.map k) := by
  unfold SrtF
  rw [List.pairwise_map]
  refine List.Pairwise.imp (fun {a b} hab => ?_) h
  rw [hk, hk]; exact hab
theorem look_map (k : Fl → Fl) (l : List Fl) (hk : ∀ f, (k f).name = f.name) (t : List UInt8) : lookF t (l.map k) = (lookF t l).map k := by
  induction l with
  | nil => rfl
  | cons g r ih =>
    rw [List.map_cons, look_cons, look_cons, hk, ih]
    split <;> rfl

/-- Two lists in order that tell the same of each name are one. -/
theorem srt_ext (a : List Fl) : ∀ b, SrtF a → SrtF b → (∀ t, lookF t a = lookF t b) → a = b := by
  induction a with
  | nil =>
    intro b _ _ h
    cases b with
    | nil => rfl
    | cons g r =>
      have := h g.name
      rw [look_cons, if_pos rfl] at this
      cases this
  | cons f a ih =>
    intro b ha hb h
    cases b with
    | nil =>
      have := h f.name
      rw [look_cons, if_pos rfl] at this
      cases this
    | cons g r =>
      have ha1 := List.pairwise_cons.1 ha
      have hb1 := List.pairwise_cons.1 hb
      have hfg : f = g := by
        have h1 := h f.name
        have h2 := h g.name
        rw [look_cons, if_pos rfl, look_cons] at h1
        rw [look_cons, look_cons, if_pos rfl] at h2
        by_cases e : g.name = f.name
        · rw [if_pos e] at h1
          exact Option.some.inj h1
        · rw [if_neg e] at h1
          rw [if_neg (fun x => e x.symm)] at h2
          have m1 : f ∈ r := List.mem_of_find?_eq_some h1.symm
          have m2 : g ∈ a := List.mem_of_find?_eq_some h2
          have l1 := hb1.1 f m1
          have l2 := ha1.1 g m2
          rw [bl_asymm _ _ l1] at l2
          cases l2
      subst hfg
      rw [ih r ha1.2 hb1.2 fun t => ?_]
      have h1 := h t
      rw [look_cons, look_cons] at h1
      by_cases e : f.name = t
      · have none_of : ∀ l : List Fl, (∀ x ∈ l, Op.bytesLess f.name x.name = true) → lookF t l = none := fun l hl => by
          unfold lookF
          refine List.find?_eq_none.2 fun x hx => ?_
          intro hd
          have hx2 := hl x hx
          rw [of_decide_eq_true hd, ← e, bl_irrefl] at hx2
          cases hx2
        rw [none_of a ha1.1, none_of r hb1.1]
      · rw [if_neg e, if_neg e] at h1
        exact h1

end Go.Proofs.Ytnjkilmhphcocaa
