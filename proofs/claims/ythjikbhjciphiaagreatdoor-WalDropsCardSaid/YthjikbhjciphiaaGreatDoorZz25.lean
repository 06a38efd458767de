/-
  The reference's disk: Rename. Made by wip/tools/mkn.py.
-/
import Derived.Test.YthjikbhjciphiaaGreatDoorZz24
import Derived.Test.YthjikbhjciphiaaGreatDoorZz21
import Derived.BigQuiet
import Derived.Test.YthjikbhjciphiaaGreatDoorZz15
import Derived.ChangeArms
import Derived.Test.YthjikbhjciphiaaGreatDoorZz7
import Derived.Test.YthjikbhjciphiaaGreatDoorZz22
import Derived.BigRegion
import Derived.Carry
namespace Go.Proofs.YthjikbhjciphiaaGreatDoor
open Go.RowKit
set_option linter.unusedVariables false
set_option linter.unusedSimpArgs false

theorem Turn.fewer {S S' : Nat → Prop} {w w' : World} (h : Turn S' w w') (hs : ∀ k, S' k → k < w.heap.size → S k) : Turn S w w' := ⟨h.os, h.tape, h.output, h.size, fun k hk hn => h.block k hk fun e => hn (hs k e hk)⟩

end Go.Proofs.YthjikbhjciphiaaGreatDoor

/-
  The reference's disk: any step; what stays good.
-/
namespace Go.Proofs.YthjikbhjciphiaaGreatDoor
open Go.RowKit
set_option linter.unusedVariables false
set_option linter.unusedSimpArgs false

end Go.Proofs.YthjikbhjciphiaaGreatDoor

/-
  Arithmetic of a disk: what a step leaves within bounds. No program stands here.
-/
namespace Go.Proofs.YthjikbhjciphiaaGreatDoor
open Go.RowKit
set_option linter.unusedVariables false
set_option linter.unusedSimpArgs false

theorem sizeF_append (a b : List Fl) : sizeF (a ++ b) = sizeF a + sizeF b := by simp [sizeF]
theorem sizeF_cons (f : Fl) (l : List Fl) : sizeF (f :: l) = f.data.length + sizeF l := by simp [sizeF]
theorem withoutF_cons (s : List UInt8) (g : Fl) (r : List Fl) : withoutF s (g :: r) = (if g.name = s then [] else [g]) ++ withoutF s r := by
  unfold withoutF
  by_cases h : g.name = s <;> simp [h]
theorem withF_cons (f : Fl) (d : Bool) (g : Fl) (r : List Fl) : withF f d (g :: r) = (if !d && !Op.bytesLess g.name f.name then [f] else []) ++ (if g.name = f.name then [] else [g]) ++ withF f (d || !Op.bytesLess g.name f.name) r := rfl
theorem len_without (s : List UInt8) (l : List Fl) : (withoutF s l).length ≤ l.length := List.length_filter_le _ _
theorem size_without (s : List UInt8) (l : List Fl) : sizeF (withoutF s l) ≤ sizeF l := by
  induction l with
  | nil => exact Nat.le_refl _
  | cons g r ih =>
    rw [withoutF_cons, sizeF_append, sizeF_cons]
    by_cases h : g.name = s
    · rw [if_pos h]; simp [sizeF] at ih ⊢; omega
    · rw [if_neg h, sizeF_cons]; simp [sizeF] at ih ⊢; omega
theorem size_look (s : List UInt8) (l : List Fl) (f : Fl) (h : lookF s l = some f) : sizeF (withoutF s l) + f.data.length ≤ sizeF l := by
  induction l with
  | nil => cases h
  | cons g r ih =>
    rw [withoutF_cons, sizeF_append, sizeF_cons]
    by_cases hg : g.name = s
    · have e : g = f := by
        unfold lookF at h
        rw [List.find?_cons, decide_eq_true hg] at h
        exact Option.some.inj h
      rw [if_pos hg, ← e]
      have := size_without s r
      simp only [sizeF, List.map_nil, List.sum_nil] at this ⊢
      omega
    · have e : lookF s r = some f := by
        unfold lookF at h ⊢
        rw [List.find?_cons, decide_eq_false hg] at h
        exact h
      have h2 := ih e
      rw [if_neg hg, sizeF_cons]
      have h0 : sizeF [] = 0 := rfl
      omega
theorem size_with (f : Fl) (l : List Fl) : ∀ d : Bool, sizeF (withF f d l) ≤ sizeF (withoutF f.name l) + (if d then 0 else f.data.length) := by
  induction l with
  | nil =>
    intro d
    cases d
    · show sizeF [f] ≤ 0 + f.data.length
      rw [sizeF_cons]
      show f.data.length + 0 ≤ _
      omega
    · exact Nat.zero_le _
  | cons g r ih =>
    intro d
    rw [withF_cons, withoutF_cons, sizeF_append, sizeF_append, sizeF_append]
    have h0 : sizeF [] = 0 := rfl
    have h1 : sizeF [f] = f.data.length := by rw [sizeF_cons]; omega
    cases d <;> cases hb : Op.bytesLess g.name f.name
    · have := ih true
      simp at this ⊢
      omega
    · have := ih false
      simp at this ⊢
      omega
    · have := ih true
      simp at this ⊢
      omega
    · have := ih true
      simp at this ⊢
      omega
theorem len_with (f : Fl) (l : List Fl) : ∀ d : Bool, (withF f d l).length ≤ l.length + (if d then 0 else 1) := by
  induction l with
  | nil =>
    intro d
    cases d
    · exact Nat.le_refl _
    · exact Nat.le_refl _
  | cons g r ih =>
    intro d
    rw [withF_cons, List.length_append, List.length_append]
    have h2 : (if g.name = f.name then ([] : List Fl) else [g]).length ≤ 1 := by split <;> simp
    cases d <;> cases hb : Op.bytesLess g.name f.name
    · have := ih true
      simp at this ⊢
      omega
    · have := ih false
      simp at this ⊢
      omega
    · have := ih true
      simp at this ⊢
      omega
    · have := ih true
      simp at this ⊢
      omega
theorem mem_with (f g : Fl) (l : List Fl) : ∀ d : Bool, g ∈ withF f d l → g = f ∨ g ∈ l := by
  induction l with
  | nil =>
    intro d h
    cases d
    · exact .inl (by simpa using (show g ∈ [f] from h))
    · cases h
  | cons a r ih =>
    intro d h
    rw [withF_cons, List.mem_append, List.mem_append] at h
    rcases h with (h | h) | h
    · split at h
      · exact .inl (by simpa using h)
      · cases h
    · split at h
      · cases h
      · exact .inr (by rw [List.mem_singleton.1 h]; exact List.mem_cons_self)
    · rcases ih _ h with h | h
      · exact .inl h
      · exact .inr (List.mem_cons_of_mem _ h)
theorem mem_without (s : List UInt8) (g : Fl) (l : List Fl) (h : g ∈ withoutF s l) : g ∈ l := (List.mem_filter.1 h).1
theorem look_mem (s : List UInt8) (l : List Fl) (f : Fl) (h : lookF s l = some f) : f ∈ l := List.mem_of_find?_eq_some h

/-- What stands behind k steps. -/
structure OkD (k : Nat) (m : Dk) : Prop where
  len : m.files.length ≤ k
  size : sizeF m.files ≤ 200 * k
  sure : ∀ f ∈ m.files, f.sure ≤ f.data.length
  calls : m.calls ≤ k
  left : m.left < 18446744073709551616
  cap : 0 ≤ m.cap ∧ m.cap < 9223372036854775808
theorem OkD.good {k : Nat} {m : Dk} (h : OkD k m) (hk : k ≤ 200) : GoodD m := ⟨by have := h.len; omega, by have := h.size; omega, h.sure⟩
theorem OkD.mono {k : Nat} {m : Dk} (h : OkD k m) : OkD (k + 1) m := ⟨by have := h.len; omega, by have := h.size; omega, h.sure, by have := h.calls; omega, h.left, h.cap⟩

theorem OkD.crash {k : Nat} {m : Dk} (keep : Int) (h : OkD k m) : OkD k (crashD keep m) := by
  refine ⟨?_, ?_, ?_, h.calls, h.left, h.cap⟩
  · show (m.files.map _).length ≤ _
    rw [List.length_map]; exact h.len
  · refine Nat.le_trans ?_ h.size
    show sizeF (m.files.map (cutF keep)) ≤ sizeF m.files
    generalize m.files = l
    induction l with
    | nil => exact Nat.le_refl _
    | cons f r ih =>
      rw [List.map_cons, sizeF_cons, sizeF_cons]
      have e3 : (cutF keep f).data.length ≤ f.data.length := by
        show (f.data.take _).length ≤ _
        rw [List.length_take]
        omega
      omega
  · intro g hg
    obtain ⟨f, hf, rfl⟩ := List.mem_map.1 hg
    show leftF keep f ≤ (f.data.take (leftF keep f)).length
    rw [List.length_take]
    unfold leftF
    omega

theorem begin_ok {k : Nat} {m : Dk} (h : OkD k m) : OkD (k + 1) (beginD m).2 := by
  unfold beginD
  split
  · exact h.mono
  · split
    · exact (h.crash _).mono
    · refine ⟨by have := h.len; show m.files.length ≤ _; omega, by have := h.size; show sizeF m.files ≤ _; omega, h.sure, by have := h.calls; show m.calls + 1 ≤ _; omega, ?_, h.cap⟩
      show (if m.armed = true then m.left - 1 else m.left) < _
      have := h.left
      split <;> omega

theorem do_ok {k : Nat} {m : Dk} (s : Sp) (h : OkD k m) (hd : s.data.length ≤ 200) (hn : s.n < 18446744073709551616) : OkD (k + 1) (doD m s).2 := by
  unfold doD
  split
  · exact ⟨by have := h.len; show m.files.length ≤ _; omega, by have := h.size; show sizeF m.files ≤ _; omega, h.sure, by have := h.calls; show m.calls ≤ _; omega, hn, h.cap⟩
  split
  · exact (h.crash _).mono
  split
  · exact ⟨by have := h.len; show m.files.length ≤ _; omega, by have := h.size; show sizeF m.files ≤ _; omega, h.sure, by have := h.calls; show m.calls ≤ _; omega, h.left, h.cap⟩
  split
  · exact h.mono
  split
  · rename_i hb
    have hO := begin_ok h
    obtain ⟨hf, hc⟩ := begin_same m hb
    have hl0 := h.len
    have hs0 := h.size
    rw [← hf] at hl0 hs0
    have hsu := h.sure
    rw [← hf] at hsu
    generalize (beginD m).2 = m1 at hO hl0 hs0 hsu
    have key : ∀ l : List Fl, l.length ≤ k + 1 → sizeF l ≤ 200 * (k + 1) → (∀ f ∈ l, f.sure ≤ f.data.length) → OkD (k + 1) (withFs m1 l) := fun l h1 h2 h3 => ⟨h1, h2, h3, hO.calls, hO.left, hO.cap⟩
    unfold callD
    split
    · exact hO
    split
    · split
      · exact hO
      split
      · exact hO
      · have hfi : (fileF s.name m1.files).data.length + sizeF (withoutF s.name m1.files) ≤ sizeF m1.files ∧ (fileF s.name m1.files).sure ≤ (fileF s.name m1.files).data.length := by
          unfold fileF
          rcases hlo : lookF s.name m1.files with _ | f
          · refine ⟨?_, Nat.le_refl _⟩
            have := size_without s.name m1.files
            show 0 + _ ≤ _
            omega
          · have := size_look s.name m1.files f hlo
            exact ⟨by show f.data.length + _ ≤ _; omega, hsu f (look_mem _ _ _ hlo)⟩
        refine key _ ?_ ?_ fun g hg => ?_
        · have := len_with ⟨s.name, (fileF s.name m1.files).data ++ s.data, (fileF s.name m1.files).sure⟩ m1.files false
          simp at this
          omega
        · have := size_with ⟨s.name, (fileF s.name m1.files).data ++ s.data, (fileF s.name m1.files).sure⟩ m1.files false
          simp at this
          have h1 := hfi.1
          omega
        · rcases mem_with _ g _ _ hg with rfl | h'
          · show (fileF s.name m1.files).sure ≤ ((fileF s.name m1.files).data ++ s.data).length
            have h2 := hfi.2
            rw [List.length_append]
            omega
          · exact hsu g h'
    split
    · exact hO
    · rename_i hsome
      obtain ⟨f, hlo⟩ : ∃ f, lookF s.name m1.files = some f := by
        cases hx : lookF s.name m1.files with
        | none => rw [hx] at hsome; exact absurd rfl hsome
        | some f => exact ⟨f, rfl⟩
      have hfe : fileF s.name m1.files = f := fileF_some _ _ _ hlo
      have hsl := size_look s.name m1.files f hlo
      have hfs := hsu f (look_mem _ _ _ hlo)
      have hlw := len_without s.name m1.files
      rw [hfe]
      split
      · refine key _ ?_ ?_ fun g hg => ?_
        · have := len_with ⟨s.name, f.data, f.data.length⟩ m1.files false
          simp at this
          omega
        · have := size_with ⟨s.name, f.data, f.data.length⟩ m1.files false
          simp at this
          omega
        · rcases mem_with _ g _ _ hg with rfl | h'
          · exact Nat.le_refl _
          · exact hsu g h'
      split
      · refine key _ ?_ ?_ fun g hg => ?_
        · have := len_with ⟨s.to, f.data, f.sure⟩ (withoutF s.name m1.files) false
          simp at this
          omega
        · have := size_with ⟨s.to, f.data, f.sure⟩ (withoutF s.name m1.files) false
          have h2 := size_without s.to (withoutF s.name m1.files)
          simp at this
          omega
        · rcases mem_with _ g _ _ hg with rfl | h'
          · exact hfs
          · exact hsu g (mem_without _ _ _ h')
      · refine key _ (by omega) (by omega) fun g hg => hsu g (mem_without _ _ _ hg)
  · exact begin_ok h

end Go.Proofs.YthjikbhjciphiaaGreatDoor

/-
  The reference's disk: what a step keeps in order; Same of files.
-/
namespace Go.Proofs.YthjikbhjciphiaaGreatDoor
open Go.RowKit
set_option linter.unusedVariables false
set_option linter.unusedSimpArgs false

theorem crash_srt (keep : Int) (m : Dk) (h : SrtF m.files) : SrtF (crashD keep m).files := srt_map (cutF keep) m.files (fun f => rfl) h
theorem begin_srt (m : Dk) (h : SrtF m.files) : SrtF (beginD m).2.files := by
  unfold beginD
  split
  · exact h
  · split
    · exact crash_srt _ m h
    · exact h
theorem call_srt (m : Dk) (s : Sp) (h : SrtF m.files) : SrtF (callD m s).2.files := by
  unfold callD
  split
  · exact h
  split
  · split
    · exact h
    split
    · exact h
    · exact srt_with _ _ false h (fun h => by cases h)
  split
  · exact h
  split
  · exact srt_with _ _ false h (fun h => by cases h)
  split
  · exact srt_with _ _ false (srt_without _ _ h) (fun h => by cases h)
  · exact srt_without _ _ h
theorem do_srt (m : Dk) (s : Sp) (h : SrtF m.files) : SrtF (doD m s).2.files := by
  unfold doD
  split
  · exact h
  split
  · exact crash_srt _ m h
  split
  · exact h
  split
  · exact h
  split
  · exact call_srt _ s (begin_srt m h)
  · exact begin_srt m h

end Go.Proofs.YthjikbhjciphiaaGreatDoor

/-
  Steps in memory; the reference's answer: are there too many, or too long ones?
-/
namespace Go.Proofs.YthjikbhjciphiaaGreatDoor
open Go.RowKit
set_option linter.unusedVariables false
set_option linter.unusedSimpArgs false

/-- The value of a step, its bytes off S. -/
def SpV (w : World) (S : Nat → Prop) (v : Value) (s : Sp) : Prop :=
  ∃ A n c, v = spV s A n c ∧ BytS w S A n s.data ∧ (A = none → n = 0 ∧ c = 0) ∧ n ≤ c ∧ c ≤ maxLen
/-- The slice value '.slice A n c' reads as the steps ss, all of it off S. -/
def Sps (w : World) (S : Nat → Prop) (A : Option Addr) (n : Nat) (ss : List Sp) : Prop :=
  ss.length = n ∧ (0 < n → ∃ b o, A = some ⟨b, o, none⟩ ∧ ¬ S b ∧ ∀ (j : Nat) (s : Sp), ss[j]? = some s → ∃ y0 y1 y2 y3 y4 y5, (w.cell? ⟨b, o + j * 6, none⟩ = some y0 ∧ w.cell? ⟨b, o + j * 6 + 1, none⟩ = some y1 ∧ w.cell? ⟨b, o + j * 6 + 2, none⟩ = some y2 ∧ w.cell? ⟨b, o + j * 6 + 3, none⟩ = some y3 ∧ w.cell? ⟨b, o + j * 6 + 4, none⟩ = some y4 ∧ w.cell? ⟨b, o + j * 6 + 5, none⟩ = some y5) ∧ SpV w S (.agg #[y0, y1, y2, y3, y4, y5]) s)
theorem SpV.turn {w w' : World} {S : Nat → Prop} {v : Value} {s : Sp} (h : SpV w S v s) (ht : Turn S w w') : SpV w' S v s := by
  obtain ⟨A, n, c, h1, h2, h3⟩ := h
  exact ⟨A, n, c, h1, h2.turn ht, h3⟩
theorem SpV.more {w : World} {S S' : Nat → Prop} {v : Value} {s : Sp} (h : SpV w S v s) (hs : ∀ k, S' k → k < w.heap.size → S k) : SpV w S' v s := by
  obtain ⟨A, n, c, h1, h2, h3⟩ := h
  exact ⟨A, n, c, h1, h2.more hs, h3⟩
theorem Sps.turn {w w' : World} {S : Nat → Prop} {n : Nat} {A : Option Addr} {ss : List Sp} (h : Sps w S A n ss) (ht : Turn S w w') : Sps w' S A n ss :=
  ⟨h.1, fun hn => by
    obtain ⟨b, o, e, hb, hf⟩ := h.2 hn
    refine ⟨b, o, e, hb, fun j s hj => ?_⟩
    obtain ⟨y0, y1, y2, y3, y4, y5, ⟨h0, h1, h2, h3, h4, h5⟩, hv⟩ := hf j s hj
    exact ⟨y0, y1, y2, y3, y4, y5, ⟨ht.at_ h0 hb, ht.at_ h1 hb, ht.at_ h2 hb, ht.at_ h3 hb, ht.at_ h4 hb, ht.at_ h5 hb⟩, hv.turn ht⟩⟩
theorem Sps.more {w : World} {S S' : Nat → Prop} {n : Nat} {A : Option Addr} {ss : List Sp} (h : Sps w S A n ss) (hs : ∀ k, S' k → k < w.heap.size → S k) : Sps w S' A n ss :=
  ⟨h.1, fun hn => by
    obtain ⟨b, o, e, hb, hf⟩ := h.2 hn
    have hb2 : ¬ S' b := fun x => hb (hs b x (by
      obtain ⟨_, _, _, _, _, _, ⟨h0, _⟩, _⟩ := hf 0 _ (List.getElem?_eq_getElem (by have := h.1; omega))
      exact block_lt_of_cell h0))
    refine ⟨b, o, e, hb2, fun j s hj => ?_⟩
    obtain ⟨y0, y1, y2, y3, y4, y5, hc, hv⟩ := hf j s hj
    exact ⟨y0, y1, y2, y3, y4, y5, hc, hv.more hs⟩⟩
theorem sp_parts {y0 y1 y2 y3 y4 y5 : Value} {w : World} {S : Nat → Prop} {s : Sp} (h : SpV w S (.agg #[y0, y1, y2, y3, y4, y5]) s) :
    ∃ A n c, y0 = .int .i64 s.kind ∧ y1 = .string ⟨s.name.toArray⟩ ∧ y2 = .string ⟨s.to.toArray⟩ ∧ y3 = .slice A n c ∧ y4 = .int .u64 ((s.n : Nat) : Int) ∧ y5 = .int .i64 s.m ∧ BytS w S A n s.data ∧ (A = none → n = 0 ∧ c = 0) ∧ n ≤ c ∧ c ≤ maxLen := by
  obtain ⟨A, n, c, e, h1⟩ := h
  have e2 : y0 = .int .i64 s.kind ∧ y1 = .string ⟨s.name.toArray⟩ ∧ y2 = .string ⟨s.to.toArray⟩ ∧ y3 = .slice A n c ∧ y4 = .int .u64 ((s.n : Nat) : Int) ∧ y5 = .int .i64 s.m := by simpa [spV] using e
  exact ⟨A, n, c, e2.1, e2.2.1, e2.2.2.1, e2.2.2.2.1, e2.2.2.2.2.1, e2.2.2.2.2.2, h1⟩

def smallS (s : Sp) : Bool := decide (s.data.length ≤ 200) && (decide (s.name.length ≤ 100) && decide (s.to.length ≤ 100))
def largeS (ss : List Sp) : Bool := !((ss.take 90).all smallS) || decide (90 < ss.length)
theorem largeS_false (ss : List Sp) (h : largeS ss = false) : ss.length ≤ 90 ∧ ∀ s ∈ ss, s.data.length ≤ 200 ∧ s.name.length ≤ 100 ∧ s.to.length ≤ 100 := by
  unfold largeS at h
  rw [Bool.or_eq_false_iff] at h
  obtain ⟨h1, h2⟩ := h
  have h3 : ss.length ≤ 90 := by
    have := of_decide_eq_false h2
    omega
  refine ⟨h3, fun s hs => ?_⟩
  rw [List.take_of_length_le h3] at h1
  have h4 : ss.all smallS = true := by simpa using h1
  have := List.all_eq_true.1 h4 s hs
  simpa [smallS] using this
theorem largeS_out (ss : List Sp) (k : Nat) (s : Sp) (hk : k < 90) (hs : ss[k]? = some s) (h : smallS s = false) : largeS ss = true := by
  unfold largeS
  have : (ss.take 90).all smallS = false := by
    rw [List.all_eq_false]
    exact ⟨s, List.mem_of_getElem? (i := k) (by rw [List.getElem?_take_of_lt hk]; exact hs), by simp [h]⟩
  rw [this]
  rfl
theorem largeS_end (ss : List Sp) (k : Nat) (h : (ss.take k).all smallS = true) (hk : k = ss.length ∧ k ≤ 90 ∨ k = 90) : largeS ss = decide (90 < ss.length) := by
  unfold largeS
  have : (ss.take 90).all smallS = true := by
    rcases hk with ⟨rfl, h2⟩ | rfl
    · rw [List.take_of_length_le h2]
      rw [List.take_length] at h
      exact h
    · exact h
  rw [this]
  rfl

end Go.Proofs.YthjikbhjciphiaaGreatDoor

/-
  An argument that is a slice of steps, opened.
-/
namespace Go.Proofs.YthjikbhjciphiaaGreatDoor
open Go.RowKit
open Go.ChangeShapes Go.WideShapes Go.ChangeAt
set_option linter.unusedVariables false
set_option linter.unusedSimpArgs false

section
variable {H : Type} {enc : TypeId × Value → H} {w : World} {held : Bool}

end

end Go.Proofs.YthjikbhjciphiaaGreatDoor

/-
  The program's disk, by its contracts alone; a step of the statements.
-/
namespace Go.Proofs.YthjikbhjciphiaaGreatDoor
open Go.RowKit
set_option linter.unusedVariables false
set_option linter.unusedSimpArgs false

/-- What a call leaves: its answer, the disk, only blocks of it turned, and new ones. -/
def StepPost (PD : World → (Nat → Prop) → Nat → Dk → Prop) (S : Nat → Prop) (q : Nat) (r : Int × Dk) (W : World) (e : Ending) (W' : World) : Prop :=
  ∃ S', e = .returned (.int .i64 r.1) ∧ PD W' S' q r.2 ∧ (∀ k, S' k → S k ∨ W.heap.size ≤ k) ∧ Turn S W W'
def MovePost (PD : World → (Nat → Prop) → Nat → Dk → Prop) (S : Nat → Prop) (q : Nat) (m : Dk) (W : World) (e : Ending) (W' : World) : Prop :=
  ∃ S', e = .returned (.tuple #[]) ∧ PD W' S' q m ∧ (∀ k, S' k → S k ∨ W.heap.size ≤ k) ∧ Turn S W W'

/-- What reading a file answers. -/
def readD (m : Dk) (name : List UInt8) : Int × List UInt8 := if m.down then (19, []) else match lookF name m.files with | none => (8, []) | some f => (0, f.data)
def newD (cap : Int) : Dk := ⟨[], max cap 0, 0, false, 0, 0, false⟩

theorem doD_app (m : Dk) (s : Sp) (h : s.kind = 1) : doD m s = doD m ⟨1, s.name, [], s.data, 0, 0⟩ := by
  unfold doD callD isCall
  rw [h]
  simp
theorem doD_sync (m : Dk) (s : Sp) (h : s.kind = 2) : doD m s = doD m ⟨2, s.name, [], [], 0, 0⟩ := by
  unfold doD callD isCall
  rw [h]
  simp
theorem doD_ren (m : Dk) (s : Sp) (h : s.kind = 3) : doD m s = doD m ⟨3, s.name, s.to, [], 0, 0⟩ := by
  unfold doD callD isCall
  rw [h]
  simp
theorem doD_rem (m : Dk) (s : Sp) (h : s.kind = 4) : doD m s = doD m ⟨4, s.name, [], [], 0, 0⟩ := by
  unfold doD callD isCall
  rw [h]
  simp
theorem StepPost.back {PD : World → (Nat → Prop) → Nat → Dk → Prop} {S : Nat → Prop} {q : Nat} {r : Int × Dk} {W : World} {o : Obj} {e : Ending} {W' : World} (h : StepPost PD S q r (W.alloc o) e W') : StepPost PD S q r W e W' := by
  obtain ⟨S', h1, h2, h3, h4⟩ := h
  refine ⟨S', h1, h2, fun k hk => ?_, ((Turn.refl S W).alloc o).trans h4⟩
  rcases h3 k hk with h | h
  · exact .inl h
  · refine .inr ?_
    simp at h
    omega

end Go.Proofs.YthjikbhjciphiaaGreatDoor

/-
  The statements of the disk: is the program awake?
-/
namespace Go.Proofs.YthjikbhjciphiaaGreatDoor
open Go.RowKit
set_option linter.unusedVariables false
set_option linter.unusedSimpArgs false

theorem BytS.new {w : World} {S : Nat → Prop} {l : List UInt8} {C : Array Value} (hC : C.toList = l.map bv) (e : TypeId) (fr : Nat × Nat) (n : Nat) (hn : l.length = n) (hS : ¬ S w.heap.size) : BytS (w.alloc (.cells C e fr)) S (some ⟨w.heap.size, 0, none⟩) n l := by
  refine ⟨hn, fun _ => ⟨_, _, rfl, hS, fun j x hx => ?_⟩⟩
  rw [Nat.zero_add, World.cell?_alloc_mark, ← Array.getElem?_toList, hC, List.getElem?_map, hx]
  rfl
theorem OkD.more {k k' : Nat} {m : Dk} (h : OkD k m) (hk : k ≤ k') : OkD k' m := ⟨by have := h.len; omega, by have := h.size; omega, h.sure, by have := h.calls; omega, h.left, h.cap⟩
theorem new_ok (cap : Int) (h : cap < 9223372036854775808) : OkD 0 (newD cap) := ⟨Nat.le_refl _, Nat.le_refl _, fun f hf => (by cases hf), Nat.le_refl _, by show (0 : Nat) < _; omega, by show 0 ≤ max cap 0 ∧ max cap 0 < _; omega⟩

/-- The example's disks. -/
def aw0 : Dk := newD 9
def aw1 : Dk := (doD aw0 ⟨1, [97], [], [120, 121, 122], 0, 0⟩).2
def aw2 : Dk := (doD aw1 ⟨2, [97], [], [], 0, 0⟩).2
def aw3 : Dk := (doD aw2 ⟨1, [97], [], [117, 118], 0, 0⟩).2
def aw4 : Dk := crashD 1 aw3
theorem tar97 : targetB [97] = true := by decide +kernel
theorem aw1_eq : aw1 = ⟨[⟨[97], [120, 121, 122], 0⟩], 9, 1, false, 0, 0, false⟩ := by
  unfold aw1 aw0
  rw [do_call _ _ rfl rfl]
  unfold callD
  rw [tar97]
  rfl
theorem aw2_eq : aw2 = ⟨[⟨[97], [120, 121, 122], 3⟩], 9, 2, false, 0, 0, false⟩ := by
  unfold aw2
  rw [aw1_eq, do_call _ _ rfl rfl]
  unfold callD
  rw [tar97]
  rfl
theorem aw3_eq : aw3 = ⟨[⟨[97], [120, 121, 122, 117, 118], 3⟩], 9, 3, false, 0, 0, false⟩ := by
  unfold aw3
  rw [aw2_eq, do_call _ _ rfl rfl]
  unfold callD
  rw [tar97]
  rfl
theorem aw4_eq : aw4 = ⟨[⟨[97], [120, 121, 122, 117], 4⟩], 9, 3, false, 0, 0, true⟩ := by
  unfold aw4
  rw [aw3_eq]
  rfl

end Go.Proofs.YthjikbhjciphiaaGreatDoor

/-
  The program's disk: what asks its own block alone, and turns it.
-/
namespace Go.Proofs.YthjikbhjciphiaaGreatDoor
open Go.RowKit
set_option linter.unusedVariables false
set_option linter.unusedSimpArgs false

section
variable {w : World} {S : Nat → Prop} {q mb l : Nat} {m : Dk} {kp : Int} {L : List (List UInt8 × Value)} {G : List UInt8 → Option FM}
theorem dp_there {w : World} {q : Nat} {t : TypeId} {cs : List Value} (h : Blk w q t cs) (o n : Nat) (hn : o + n ≤ cs.length) : w.there q o n := fun j hj =>
  ⟨by rw [h.cell, List.getElem?_eq_getElem (by omega)]; rfl, h.frozen _⟩

set_option maxRecDepth 100000 in
set_option maxHeartbeats 2000000 in
theorem pdown_any (W : World) (h : PDat W S q m mb l kp L G) :
    Calls Tryz.prog 15 #[.pointer (some ⟨q, 0, none⟩)] W fun e W' => e = .returned (.bool m.down) ∧ W' = W := by
  have c6 : W.cell? ⟨q, 6, none⟩ = some (.bool m.down) := h.blk.cell 6
  obtain ⟨d, hd⟩ : ∃ d, m.down = d := ⟨_, rfl⟩
  rw [hd] at c6 ⊢
  clear h hd
  go_enter Tryz.func15, Tryz.ntmps15
  go_wp2
  go_ret
  exact ⟨rfl, rfl⟩

set_option maxRecDepth 100000 in
set_option maxHeartbeats 2000000 in
theorem pcalls_any (W : World) (h : PDat W S q m mb l kp L G) :
    Calls Tryz.prog 27 #[.pointer (some ⟨q, 0, none⟩)] W fun e W' => e = .returned (.int .u64 ((m.calls : Nat) : Int)) ∧ W' = W := by
  have c2 : W.cell? ⟨q, 2, none⟩ = some (.int .u64 ((m.calls : Nat) : Int)) := h.blk.cell 2
  obtain ⟨d, hd⟩ : ∃ d, m.calls = d := ⟨_, rfl⟩
  rw [hd] at c2 ⊢
  clear h hd
  go_enter Tryz.func27, Tryz.ntmps27
  go_wp2
  go_ret
  exact ⟨rfl, rfl⟩

set_option maxRecDepth 100000 in
set_option maxHeartbeats 2000000 in
theorem pup_any (W : World) (h : PDat W S q m mb l kp L G) :
    Calls Tryz.prog 18 #[.pointer (some ⟨q, 0, none⟩)] W fun e W' => e = .returned (.tuple #[]) ∧ PDat W' S q ⟨m.files, m.cap, m.calls, m.armed, m.left, m.keep, false⟩ mb l kp L G ∧ Turn (fun k => k = q) W W' := by
  have c6 : W.cell? ⟨q, 6, none⟩ = some (.bool m.down) := h.blk.cell 6
  have hfz := h.blk.frozen 6
  have HH := Lib.hid h
  clear h
  go_enter Tryz.func18, Tryz.ntmps18
  go_wp2
  go_end0
  have hB := HH.out.blk.set 6 (.bool false)
  have ht : Turn (fun k => k = q) W (W.setCell ⟨q, 6, none⟩ (.bool false)) := (Turn.refl (fun k => k = q) W).setCell (p := ⟨q, 6, none⟩) rfl _
  exact ⟨rfl, HH.out.cells ht hB rfl HH.out.arm HH.out.left, ht⟩

set_option maxRecDepth 100000 in
set_option maxHeartbeats 2000000 in
theorem parm_any (W : World) (n : Nat) (keep : Int) (hn : n < 18446744073709551616) (h : PDat W S q m mb l kp L G) :
    Calls Tryz.prog 16 #[.pointer (some ⟨q, 0, none⟩), .int .u64 ((n : Nat) : Int), .int .i64 keep] W fun e W' => e = .returned (.tuple #[]) ∧ PDat W' S q ⟨m.files, m.cap, m.calls, true, n, keep, m.down⟩ mb n keep L G ∧ Turn (fun k => k = q) W W' := by
  have hth : W.there q 3 3 := dp_there h.blk 3 3 (by show 6 ≤ 7; omega)
  have HH := Lib.hid h
  clear h
  go_enter Tryz.func16, Tryz.ntmps16
  go_wp2_with (refine wpList_store_list rfl 55 _ _ rfl q 3 [.bool true, .int .u64 ((n : Nat) : Int), .int .i64 keep] rfl rfl hth (by kernel_rfl) (by simp [Value.oneCell']) ?_)
  go_end0
  have hB := ((HH.out.blk.set 3 (.bool true)).set 4 (.int .u64 ((n : Nat) : Int))).set 5 (.int .i64 keep)
  have ht : Turn (fun k => k = q) W (((W.setCell ⟨q, 3, none⟩ (.bool true)).setCell ⟨q, 4, none⟩ (.int .u64 ((n : Nat) : Int))).setCell ⟨q, 5, none⟩ (.int .i64 keep)) :=
    (((Turn.refl (fun k => k = q) W).setCell (p := ⟨q, 3, none⟩) rfl _).setCell (p := ⟨q, 4, none⟩) rfl _).setCell (p := ⟨q, 5, none⟩) rfl _
  exact ⟨rfl, HH.out.cells ht hB rfl (fun _ => ⟨rfl, rfl⟩) hn, ht⟩
end

end Go.Proofs.YthjikbhjciphiaaGreatDoor

/-
  The program's disk: a file's bytes, a file cut off, a disk made.
-/
namespace Go.Proofs.YthjikbhjciphiaaGreatDoor
open Go.RowKit
set_option linter.unusedVariables false
set_option linter.unusedSimpArgs false

theorem Tryz.infoByte : (Tryz.prog.info? 5).map (fun i => (i.zero, i.size, i.bytes)) = some (some (.int .u8 0), 1, 1) := by kernel_rfl

set_option maxRecDepth 100000 in
set_option maxHeartbeats 2000000 in
theorem pbytes_any (x : FM) (W : World) (h : x.at_ W) (hl : x.f.data.length ≤ 100000) :
    Calls Tryz.prog 76 #[.pointer (some ⟨x.g, 0, none⟩)] W fun e W' => ∃ v, e = .returned v ∧ W'.ownsRow W.heap.size 5 1 v x.f.data.length (x.f.data.map bv) ∧ Below W.heap.size W W' := by
  have hB := FM.byt h
  have hF := FM.form h
  have c0 : W.cell? ⟨x.g, 0, none⟩ = some (.slice x.A x.f.data.length x.c) := h.1.cell 0
  obtain ⟨f, g, A, c⟩ := x
  dsimp only at hB hF c0 hl ⊢
  obtain ⟨l, hl2⟩ : ∃ l, f.data = l := ⟨_, rfl⟩
  rw [hl2] at hB hF c0 hl ⊢
  obtain ⟨n, hn⟩ : ∃ n, l.length = n := ⟨_, rfl⟩
  rw [hn] at hB hF c0 hl ⊢
  obtain ⟨i0, hi0, hz0, hz1, hz2⟩ := info_parts Tryz.infoByte
  clear h hl2 hn
  go_enter Tryz.func76, Tryz.ntmps76
  go_wp2_with (at_builtin; refine wpList_append_byt W rfl _ _ 70 rfl W.heap.size 5 i0 (.int .u8 0) Tryz.underlying70 hi0 hz0 hz1 hz2 rfl _ 0 [] rfl (World.ownsRow_nil _ _ _ _) W.heap.size A n c l rfl hB (fun e => (hF.1 e).2) (by omega) (Nat.le_refl _) ?_)
  intro v' w' hown hgr
  have hb : Below W.heap.size W w' := (Below.refl _ W).grown hgr (Nat.le_refl _) (fun q hq => by cases hq)
  have HO := Lib.hid hown
  clear hown hgr c0
  go_wp2
  go_ret
  exact ⟨v', rfl, by simpa using HO.out, hb⟩

/-- A file cut off. -/
def FM.cut (keep : Int) (x : FM) : FM := ⟨cutF keep x.f, x.g, x.A, x.c⟩
theorem FM.cut_blks (keep : Int) (x : FM) (k : Nat) : (x.cut keep).blks k ↔ x.blks k := Iff.rfl

theorem own_take {w : World} {base : Nat} {e : TypeId} {A : Option Addr} {n c : Nat} {xs : List Value} (h : w.ownsRow base e 1 (.slice A n c) n xs) (m : Nat) (hm : m ≤ n) : w.ownsRow base e 1 (.slice A m c) m (xs.take m) := by
  rcases h with ⟨h1, h2⟩
  refine ⟨by rw [List.length_take]; omega, ?_⟩
  rcases h2 with ⟨h2, h3⟩ | ⟨g, cap, cur, hv, hg, hh, hn, hc, hz, ht⟩
  · injection h2 with e1 e2 e3
    subst e1 e2 e3
    exact .inl ⟨by rw [show m = 0 by omega], by omega⟩
  · injection hv with e1 e2 e3
    subst e1 e3
    refine .inr ⟨g, c, cur, rfl, hg, hh, by omega, hc, hz, ?_⟩
    rw [← ht, Nat.mul_one, Nat.mul_one, List.take_take, Nat.min_eq_left hm]

set_option maxRecDepth 100000 in
set_option maxHeartbeats 2000000 in
theorem pcut_any (x : FM) (W : World) (keep : Int) (h : x.at_ W) (hl : x.f.data.length ≤ 100000) (hs : x.f.sure ≤ x.f.data.length) (hsep : ∀ a, x.A = some a → a.block ≠ x.g) :
    Calls Tryz.prog 39 #[.pointer (some ⟨x.g, 0, none⟩), .int .i64 keep] W fun e W' => e = .returned (.tuple #[]) ∧ (x.cut keep).at_ W' ∧ Turn (fun k => k = x.g) W W' := by
  have HH := Lib.hid h
  have HSep := Lib.hid hsep
  clear hsep
  have hF := FM.form h
  have c0 : W.cell? ⟨x.g, 0, none⟩ = some (.slice x.A x.f.data.length x.c) := h.1.cell 0
  have c1 : W.cell? ⟨x.g, 1, none⟩ = some (.int .i64 ((x.f.sure : Nat) : Int)) := h.1.cell 1
  have z0 := h.1.frozen 0
  have z1 := h.1.frozen 1
  obtain ⟨R, hR⟩ : ∃ R, leftF keep x.f = R := ⟨_, rfl⟩
  have HR := Lib.hid hR
  unfold leftF at hR
  obtain ⟨g, hg⟩ : ∃ g, x.g = g := ⟨_, rfl⟩
  obtain ⟨A, hA⟩ : ∃ A, x.A = A := ⟨_, rfl⟩
  obtain ⟨c, hc⟩ : ∃ c, x.c = c := ⟨_, rfl⟩
  obtain ⟨n, hn⟩ : ∃ n, x.f.data.length = n := ⟨_, rfl⟩
  obtain ⟨s, hs2⟩ : ∃ s, x.f.sure = s := ⟨_, rfl⟩
  rw [hg, hA, hc, hn] at c0
  rw [hg, hs2] at c1
  rw [hg] at z0 z1
  rw [hn, hs2] at hs hR
  rw [hA, hc, hn] at hF
  rw [hn] at hl
  rw [hg]
  have HX := Lib.hid (And.intro hg (And.intro hA (And.intro hc (And.intro hn hs2))))
  clear h hg hA hc hn hs2
  obtain ⟨K, hK⟩ : ∃ K, keep.toNat = K := ⟨_, rfl⟩
  rw [hK] at hR
  have hmx : (if keep < 0 then 0 else keep) = (K : Int) := by split <;> omega
  obtain ⟨D, hD⟩ : ∃ D, n - s = D := ⟨_, rfl⟩
  have hsub : (n : Int) - (s : Int) = (D : Int) := by omega
  obtain ⟨M, hM⟩ : ∃ M, min K D = M := ⟨_, rfl⟩
  have hmn : (if (D : Int) < (K : Int) then (D : Int) else (K : Int)) = (M : Int) := by split <;> omega
  have hmn2 : (if D < K then (D : Int) else (K : Int)) = (M : Int) := by split <;> omega
  have hadd : (s : Int) + (M : Int) = (R : Int) := by omega
  have hRn : R ≤ n := by omega
  clear hK hD hM hR
  go_enter Tryz.func39, Tryz.ntmps39
  go_wp2_with fail
  go_region
  have ht1 : Turn (fun k => k = g) W (W.setCell ⟨g, 1, none⟩ (.int .i64 (R : Int))).drew := ((Turn.refl (fun k => k = g) W).setCell (p := ⟨g, 1, none⟩) rfl _).drewN 1
  have hB1 : Blk (W.setCell ⟨g, 1, none⟩ (.int .i64 (R : Int))).drew g 78 [.slice A n c, .int .i64 (R : Int)] := by
    obtain ⟨e1, e2, e3, e4, e5⟩ := HX.out
    have := HH.out.1.set 1 (.int .i64 (R : Int))
    rw [e1, e2, e3, e4] at this
    exact this.drew
  have HT := Lib.hid ht1
  have HB1 := Lib.hid hB1
  have y0 := hB1.cell 0
  have y1 := hB1.cell 1
  have yz := hB1.frozen 0
  dsimp only [List.getElem?_cons_zero, List.getElem?_cons_succ] at y0 y1
  revert y0 y1 yz HT HB1
  generalize (W.setCell ⟨g, 1, none⟩ (.int .i64 (R : Int))).drew = w1
  intro HT HB1 y0 y1 yz
  have i0 : (0 : Int) ≤ (R : Int) := by omega
  have i1 : R ≤ c := by omega
  clear ht1 hB1 c0 c1 z0 z1 hmx hsub hmn hadd
  go_wp2_with fail
  go_region
  go_wp2_with fail
  go_end0
  obtain ⟨e1, e2, e3, e4, e5⟩ := HX.out
  have hB2 := (HB1.out.set 0 (.slice A R c)).drew
  have ht2 : Turn (fun k => k = g) w1 (w1.setCell ⟨g, 0, none⟩ (.slice A R c)).drew := ((Turn.refl (fun k => k = g) w1).setCell (p := ⟨g, 0, none⟩) rfl _).drewN 1
  have ht := HT.out.trans ht2
  have hlen : (x.cut keep).f.data.length = R := by
    show (x.f.data.take (leftF keep x.f)).length = R
    rw [List.length_take, HR.out, e4]
    omega
  refine ⟨rfl, ⟨?_, ?_⟩, ht⟩
  · show Blk _ x.g _ [.slice x.A (x.cut keep).f.data.length x.c, .int .i64 ((leftF keep x.f : Nat) : Int)]
    rw [hlen, HR.out, e1, e2, e3]
    exact hB2
  · rw [hlen]
    show World.ownsRow _ 0 _ 1 (.slice x.A R x.c) R ((x.f.data.take (leftF keep x.f)).map bv)
    rw [HR.out, List.map_take]
    exact own_take (own_turn HH.out.2 ht fun a ha => by rw [← e1]; exact HSep.out a ha) R (by rw [e4]; exact hRn)

set_option maxRecDepth 100000 in
set_option maxHeartbeats 2000000 in
theorem pnew_any (W : World) (cap : Int) (hcap : cap < 9223372036854775808) :
    Calls Tryz.prog 9 #[.int .i64 cap] W fun e W' => ∃ q S, e = .returned (.pointer (some ⟨q, 0, none⟩)) ∧ PD W' S q (newD cap) ∧ (∀ k, S k → W.heap.size ≤ k) ∧ Below W.heap.size W W' := by
  obtain ⟨M, hM⟩ : ∃ M : Int, max cap 0 = M := ⟨_, rfl⟩
  have hmx : (if cap < 0 then 0 else cap) = M := by rw [← hM]; split <;> omega
  have HM := Lib.hid hM
  have hmk := run_makeMap (P := Tryz.prog) 53 W
  clear hM
  go_enter Tryz.func9, Tryz.ntmps9
  go_wp2_with fail
  go_ret
  refine ⟨_, fun k => k = W.heap.size ∨ k = W.heap.size + 1, rfl, ⟨W.heap.size, 0, 0, [], fun _ => none, ?_⟩, fun k hk => by omega, ((Below.refl _ W).alloc (Nat.le_refl _) _).alloc (by simp) _⟩
  have hB : Blk ((W.alloc (.map #[] 0)).alloc (.cells #[.int .i64 M, .map (some W.heap.size), .int .u64 0, .bool false, .int .u64 0, .int .i64 0, .bool false] 57)) (W.alloc (.map #[] 0)).heap.size 57 (dpL (newD cap) W.heap.size 0 0) := by
    refine Blk.new _ _ _ ?_
    unfold dpL newD
    rw [HM.out]
    rfl
  have hs : (W.alloc (.map #[] 0)).heap.size = W.heap.size + 1 := by simp
  rw [hs] at hB
  refine ⟨hB, fun h => (by cases h), by omega, (MapS.made W Tryz.prog 9).alloc _, ⟨fun s => rfl, fun s => rfl⟩, fun s x h => (by cases h), ⟨fun s x k h => (by cases h), fun s t x y k _ h => (by cases h), fun s x a h => (by cases h)⟩, List.Pairwise.nil, by omega, .inr rfl, .inl rfl, fun k hk => ?_⟩
  simp
  omega

end Go.Proofs.YthjikbhjciphiaaGreatDoor
