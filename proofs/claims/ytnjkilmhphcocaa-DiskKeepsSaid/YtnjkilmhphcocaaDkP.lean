/-
  Arithmetic of a disk: what a step leaves within bounds. No program stands here.
-/
import Derived.Test.YtnjkilmhphcocaaDkO
namespace Go.Proofs.Ytnjkilmhphcocaa
open Go.RowKit
set_option linter.unusedVariables false
set_option linter.unusedSimpArgs false

theorem sizeF_append (a b : List Fl) : sizeF (a ++ b) = sizeF a + sizeF b := by simp [sizeF]
theorem sizeF_cons (f : Fl) (l : List Fl) : sizeF (f :: l) = f.data.length + sizeF l := by simp [sizeF]
theorem withoutF_cons (s : List UInt8) (g : Fl) (r : List Fl) : withoutF s (g :: r) = (if g.name = s then [] else [g]) ++ withoutF s r := by
  unfold withoutF
  by_cases h : g.name = s <;> simp [h]
theorem withF_cons (f : Fl) (d : Bool) (g : Fl) (r : List Fl) : withF f d (g :: r) = (if !d && !Op.bytesLess g.name f.name then [f] else []) ++ (if g.name = f.name then [] else [g]) ++ withF f (d || !Op.bytesLess g.name f.name) r := rfl
theorem len_without (s : List UInt8) (l : List Fl) : (withoutF s l).length ≤ l.length := List.length_filter_le _ _
theorem size_without (s : List UInt8) (l : List Fl) : sizeF (withoutF s l) ≤ sizeF l := by
  induction l with
  | nil => exact Nat.le_refl _
  | cons g r ih =>
    rw [withoutF_cons, sizeF_append, sizeF_cons]
    by_cases h : g.name = s
    · rw [if_pos h]; simp [sizeF] at ih ⊢; omega
    · rw [if_neg h, sizeF_cons]; simp [sizeF] at ih ⊢; omega
theorem size_look (s : List UInt8) (l : List Fl) (f : Fl) (h : lookF s l = some f) : sizeF (withoutF s l) + f.data.length ≤ sizeF l := by
  induction l with
  | nil => cases h
  | cons g r ih =>
    rw [withoutF_cons, sizeF_append, sizeF_cons]
    by_cases hg : g.name = s
    · have e : g = f := by
        unfold lookF at h
        rw [List.find?_cons, decide_eq_true hg] at h
        exact Option.some.inj h
      rw [if_pos hg, ← e]
      have := size_without s r
      simp only [sizeF, List.map_nil, List.sum_nil] at this ⊢
      omega
    · have e : lookF s r = some f := by
        unfold lookF at h ⊢
        rw [List.find?_cons, decide_eq_false hg] at h
        exact h
      have h2 := ih e
      rw [if_neg hg, sizeF_cons]
      have h0 : sizeF [] = 0 := rfl
      omega
theorem size_with (f : Fl) (l : List Fl) : ∀ d : Bool, sizeF (withF f d l) ≤ sizeF (withoutF f.name l) + (if d then 0 else f.data.length) := by
  induction l with
  | nil =>
    intro d
    cases d
    · show sizeF [f] ≤ 0 + f.data.length
      rw [sizeF_cons]
      show f.data.length + 0 ≤ _
      omega
    · exact Nat.zero_le _
  | cons g r ih =>
    intro d
    rw [withF_cons, withoutF_cons, sizeF_append, sizeF_append, sizeF_append]
    have h0 : sizeF [] = 0 := rfl
    have h1 : sizeF [f] = f.data.length := by rw [sizeF_cons]; omega
    cases d <;> cases hb : Op.bytesLess g.name f.name
    · have := ih true
      simp at this ⊢
      omega
    · have := ih false
      simp at this ⊢
      omega
    · have := ih true
      simp at this ⊢
      omega
    · have := ih true
      simp at this ⊢
      omega
theorem len_with (f : Fl) (l : List Fl) : ∀ d : Bool, (withF f d l).length ≤ l.length + (if d then 0 else 1) := by
  induction l with
  | nil =>
    intro d
    cases d
    · exact Nat.le_refl _
    · exact Nat.le_refl _
  | cons g r ih =>
    intro d
    rw [withF_cons, List.length_append, List.length_append]
    have h2 : (if g.name = f.name then ([] : List Fl) else [g]).length ≤ 1 := by split <;> simp
    cases d <;> cases hb : Op.bytesLess g.name f.name
    · have := ih true
      simp at this ⊢
      omega
    · have := ih false
      simp at this ⊢
      omega
    · have := ih true
      simp at this ⊢
      omega
    · have := ih true
      simp at this ⊢
      omega
theorem mem_with (f g : Fl) (l : List Fl) : ∀ d : Bool, g ∈ withF f d l → g = f ∨ g ∈ l := by
  induction l with
  | nil =>
    intro d h
    cases d
    · exact .inl (by simpa using (show g ∈ [f] from h))
    · cases h
  | cons a r ih =>
    intro d h
    rw [withF_cons, List.mem_append, List.mem_append] at h
    rcases h with (h | h) | h
    · split at h
      · exact .inl (by simpa using h)
      · cases h
    · split at h
      · cases h
      · exact .inr (by rw [List.mem_singleton.1 h]; exact List.mem_cons_self)
    · rcases ih _ h with h | h
      · exact .inl h
      · exact .inr (List.mem_cons_of_mem _ h)
theorem mem_without (s : List UInt8) (g : Fl) (l : List Fl) (h : g ∈ withoutF s l) : g ∈ l := (List.mem_filter.1 h).1
theorem look_mem (s : List UInt8) (l : List Fl) (f : Fl) (h : lookF s l = some f) : f ∈ l := List.mem_of_find?_eq_some h

/-- What stands behind k steps. -/
structure OkD (k : Nat) (m : Dk) : Prop where
  len : m.files.length ≤ k
  size : sizeF m.files ≤ 200 * k
  sure : ∀ f ∈ m.files, f.sure ≤ f.data.length
  calls : m.calls ≤ k
  left : m.left < 18446744073709551616
  cap : 0 ≤ m.cap ∧ m.cap < 9223372036854775808
theorem OkD.good {k : Nat} {m : Dk} (h : OkD k m) (hk : k ≤ 200) : GoodD m := ⟨by have := h.len; omega, by have := h.size; omega, h.sure⟩
theorem OkD.mono {k : Nat} {m : Dk} (h : OkD k m) : OkD (k + 1) m := ⟨by have := h.len; omega, by have := h.size; omega, h.sure, by have := h.calls; omega, h.left, h.cap⟩

theorem OkD.crash {k : Nat} {m : Dk} (keep : Int) (h : OkD k m) : OkD k (crashD keep m) := by
  refine ⟨?_, ?_, ?_, h.calls, h.left, h.cap⟩
  · show (m.files.map _).length ≤ _
    rw [List.length_map]; exact h.len
  · refine Nat.le_trans ?_ h.size
    show sizeF (m.files.map (cutF keep)) ≤ sizeF m.files
    generalize m.files = l
    induction l with
    | nil => exact Nat.le_refl _
    | cons f r ih =>
      rw [List.map_cons, sizeF_cons, sizeF_cons]
      have e3 : (cutF keep f).data.length ≤ f.data.length := by
        show (f.data.take _).length ≤ _
        rw [List.length_take]
        omega
      omega
  · intro g hg
    obtain ⟨f, hf, rfl⟩ := List.mem_map.1 hg
    show leftF keep f ≤ (f.data.take (leftF keep f)).length
    rw [List.length_take]
    unfold leftF
    omega

theorem begin_ok {k : Nat} {m : Dk} (h : OkD k m) : OkD (k + 1) (beginD m).2 := by
  unfold beginD
  split
  · exact h.mono
  · split
    · exact (h.crash _).mono
    · refine ⟨by have := h.len; show m.files.length ≤ _; omega, by have := h.size; show sizeF m.files ≤ _; omega, h.sure, by have := h.calls; show m.calls + 1 ≤ _; omega, ?_, h.cap⟩
      show (if m.armed = true then m.left - 1 else m.left) < _
      have := h.left
      split <;> omega

theorem do_ok {k : Nat} {m : Dk} (s : Sp) (h : OkD k m) (hd : s.data.length ≤ 200) (hn : s.n < 18446744073709551616) : OkD (k + 1) (doD m s).2 := by
  unfold doD
  split
  · exact ⟨by have := h.len; show m.files.length ≤ _; omega, by have := h.size; show sizeF m.files ≤ _; omega, h.sure, by have := h.calls; show m.calls ≤ _; omega, hn, h.cap⟩
  split
  · exact (h.crash _).mono
  split
  · exact ⟨by have := h.len; show m.files.length ≤ _; omega, by have := h.size; show sizeF m.files ≤ _; omega, h.sure, by have := h.calls; show m.calls ≤ _; omega, h.left, h.cap⟩
  split
  · exact h.mono
  split
  · rename_i hb
    have hO := begin_ok h
    obtain ⟨hf, hc⟩ := begin_same m hb
    have hl0 := h.len
    have hs0 := h.size
    rw [← hf] at hl0 hs0
    have hsu := h.sure
    rw [← hf] at hsu
    generalize (beginD m).2 = m1 at hO hl0 hs0 hsu
    have key : ∀ l : List Fl, l.length ≤ k + 1 → sizeF l ≤ 200 * (k + 1) → (∀ f ∈ l, f.sure ≤ f.data.length) → OkD (k + 1) (withFs m1 l) := fun l h1 h2 h3 => ⟨h1, h2, h3, hO.calls, hO.left, hO.cap⟩
    unfold callD
    split
    · exact hO
    split
    · split
      · exact hO
      split
      · exact hO
      · have hfi : (fileF s.name m1.files).data.length + sizeF (withoutF s.name m1.files) ≤ sizeF m1.files ∧ (fileF s.name m1.files).sure ≤ (fileF s.name m1.files).data.length := by
          unfold fileF
          rcases hlo : lookF s.name m1.files with _ | f
          · refine ⟨?_, Nat.le_refl _⟩
            have := size_without s.name m1.files
            show 0 + _ ≤ _
            omega
          · have := size_look s.name m1.files f hlo
            exact ⟨by show f.data.length + _ ≤ _; omega, hsu f (look_mem _ _ _ hlo)⟩
        refine key _ ?_ ?_ fun g hg => ?_
        · have := len_with ⟨s.name, (fileF s.name m1.files).data ++ s.data, (fileF s.name m1.files).sure⟩ m1.files false
          simp at this
          omega
        · have := size_with ⟨s.name, (fileF s.name m1.files).data ++ s.data, (fileF s.name m1.files).sure⟩ m1.files false
          simp at this
          have h1 := hfi.1
          omega
        · rcases mem_with _ g _ _ hg with rfl | h'
          · show (fileF s.name m1.files).sure ≤ ((fileF s.name m1.files).data ++ s.data).length
            have h2 := hfi.2
            rw [List.length_append]
            omega
          · exact hsu g h'
    split
    · exact hO
    · rename_i hsome
      obtain ⟨f, hlo⟩ : ∃ f, lookF s.name m1.files = some f := by
        cases hx : lookF s.name m1.files with
        | none => rw [hx] at hsome; exact absurd rfl hsome
        | some f => exact ⟨f, rfl⟩
      have hfe : fileF s.name m1.files = f := fileF_some _ _ _ hlo
      have hsl := size_look s.name m1.files f hlo
      have hfs := hsu f (look_mem _ _ _ hlo)
      have hlw := len_without s.name m1.files
      rw [hfe]
      split
      · refine key _ ?_ ?_ fun g hg => ?_
        · have := len_with ⟨s.name, f.data, f.data.length⟩ m1.files false
          simp at this
          omega
        · have := size_with ⟨s.name, f.data, f.data.length⟩ m1.files false
          simp at this
          omega
        · rcases mem_with _ g _ _ hg with rfl | h'
          · exact Nat.le_refl _
          · exact hsu g h'
      split
      · refine key _ ?_ ?_ fun g hg => ?_
        · have := len_with ⟨s.to, f.data, f.sure⟩ (withoutF s.name m1.files) false
          simp at this
          omega
        · have := size_with ⟨s.to, f.data, f.sure⟩ (withoutF s.name m1.files) false
          have h2 := size_without s.to (withoutF s.name m1.files)
          simp at this
          omega
        · rcases mem_with _ g _ _ hg with rfl | h'
          · exact hfs
          · exact hsu g (mem_without _ _ _ h')
      · refine key _ (by omega) (by omega) fun g hg => hsu g (mem_without _ _ _ hg)
  · exact begin_ok h

end Go.Proofs.Ytnjkilmhphcocaa
