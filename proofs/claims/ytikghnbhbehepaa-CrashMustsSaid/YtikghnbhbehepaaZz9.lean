/-
  Files in the order of their names: what With and Without keep; a list in order is told by its look-ups. No program stands here.
-/
import Derived.Test.YtikghnbhbehepaaZz3
import Derived.Test.YtikghnbhbehepaaZz8
import Derived.BigQuiet
import Derived.Test.YtikghnbhbehepaaZz2
import Derived.Test.YtikghnbhbehepaaZz1
import Derived.Laws.AppendOwn
namespace Go.Proofs.Ytikghnbhbehepaa
open Go.RowKit
set_option linter.unusedVariables false
set_option linter.unusedSimpArgs false

theorem bl_irrefl (a : List UInt8) : Op.bytesLess a a = false := by
  induction a with
  | nil => rfl
  | cons x r ih => simp [Op.bytesLess, ih]
theorem bl_cons (x y : UInt8) (a b : List UInt8) : Op.bytesLess (x :: a) (y :: b) = true ↔ x.toNat < y.toNat ∨ (x = y ∧ Op.bytesLess a b = true) := by
  simp [Op.bytesLess, UInt8.lt_iff_toNat_lt]
theorem bl_trans (a : List UInt8) : ∀ b c, Op.bytesLess a b = true → Op.bytesLess b c = true → Op.bytesLess a c = true := by
  induction a with
  | nil =>
    intro b c h1 h2
    cases c with
    | nil => cases b <;> simp [Op.bytesLess] at h2
    | cons z c => rfl
  | cons x a ih =>
    intro b c h1 h2
    cases b with
    | nil => simp [Op.bytesLess] at h1
    | cons y b =>
      cases c with
      | nil => simp [Op.bytesLess] at h2
      | cons z c =>
        rw [bl_cons] at h1 h2 ⊢
        rcases h1 with h1 | ⟨rfl, h1⟩
        · rcases h2 with h2 | ⟨rfl, h2⟩
          · exact .inl (by omega)
          · exact .inl h1
        · rcases h2 with h2 | ⟨rfl, h2⟩
          · exact .inl h2
          · exact .inr ⟨rfl, ih _ _ h1 h2⟩
theorem bl_total (a : List UInt8) : ∀ b, Op.bytesLess a b = false → Op.bytesLess b a = false → a = b := by
  induction a with
  | nil =>
    intro b h1 h2
    cases b with
    | nil => rfl
    | cons y b => simp [Op.bytesLess] at h1
  | cons x a ih =>
    intro b h1 h2
    cases b with
    | nil => simp [Op.bytesLess] at h2
    | cons y b =>
      have n1 : ¬ (x.toNat < y.toNat ∨ (x = y ∧ Op.bytesLess a b = true)) := fun h => by rw [(bl_cons x y a b).2 h] at h1; cases h1
      have n2 : ¬ (y.toNat < x.toNat ∨ (y = x ∧ Op.bytesLess b a = true)) := fun h => by rw [(bl_cons y x b a).2 h] at h2; cases h2
      have e : x = y := UInt8.toNat_inj.1 (by
        have h3 : ¬ x.toNat < y.toNat := fun h => n1 (.inl h)
        have h4 : ¬ y.toNat < x.toNat := fun h => n2 (.inl h)
        omega)
      subst e
      rw [ih b (by
        cases h : Op.bytesLess a b
        · rfl
        · exact absurd (.inr ⟨rfl, h⟩) n1) (by
        cases h : Op.bytesLess b a
        · rfl
        · exact absurd (.inr ⟨rfl, h⟩) n2)]
theorem bl_asymm (a b : List UInt8) (h : Op.bytesLess a b = true) : Op.bytesLess b a = false := by
  cases h2 : Op.bytesLess b a
  · rfl
  · have := bl_trans a b a h h2
    rw [bl_irrefl] at this
    cases this

/-- In the order of the names, none twice. -/
def SrtF (l : List Fl) : Prop := l.Pairwise fun a b => Op.bytesLess a.name b.name = true

theorem look_cons (t : List UInt8) (g : Fl) (r : List Fl) : lookF t (g :: r) = if g.name = t then some g else lookF t r := by
  unfold lookF
  rw [List.find?_cons]
  by_cases h : g.name = t <;> simp [h]
theorem look_append (t : List UInt8) (a b : List Fl) : lookF t (a ++ b) = (lookF t a).or (lookF t b) := by
  unfold lookF
  rw [List.find?_append]
theorem look_name (t : List UInt8) (l : List Fl) (f : Fl) (h : lookF t l = some f) : f.name = t := by
  have := List.find?_some h
  simpa using this
theorem look_mem_some (l : List Fl) (g : Fl) (h : g ∈ l) : ∃ f, lookF g.name l = some f := by
  cases hx : lookF g.name l with
  | some f => exact ⟨f, rfl⟩
  | none =>
    unfold lookF at hx
    have := List.find?_eq_none.1 hx g h
    simp at this

theorem look_without (t s : List UInt8) (l : List Fl) : lookF t (withoutF s l) = if t = s then none else lookF t l := by
  induction l with
  | nil => show none = _; split <;> rfl
  | cons g r ih =>
    have e : withoutF s (g :: r) = (if g.name = s then [] else [g]) ++ withoutF s r := by
      unfold withoutF
      by_cases h : g.name = s <;> simp [h]
    rw [e]
    by_cases h : g.name = s
    · rw [if_pos h, List.nil_append, ih, look_cons]
      by_cases ht : t = s
      · rw [if_pos ht, if_pos ht]
      · rw [if_neg ht, if_neg ht, if_neg (fun e => ht (e.symm.trans h))]
    · rw [if_neg h]
      show lookF t (g :: withoutF s r) = _
      rw [look_cons, look_cons, ih]
      by_cases ht : t = s
      · rw [if_pos ht, if_pos ht, if_neg (fun e => h (e.trans ht))]
      · rw [if_neg ht, if_neg ht]

theorem look_with (t : List UInt8) (f : Fl) (l : List Fl) : ∀ d : Bool, lookF t (withF f d l) = if t = f.name then (if d then none else some f) else lookF t l := by
  induction l with
  | nil =>
    intro d
    cases d
    · show lookF t [f] = _
      rw [look_cons]
      by_cases h : t = f.name
      · rw [if_pos h.symm, if_pos h]; rfl
      · rw [if_neg (fun e => h e.symm), if_neg h]
    · show none = _
      split <;> rfl
  | cons g r ih =>
    intro d
    have e : withF f d (g :: r) = (if !d && !Op.bytesLess g.name f.name then [f] else []) ++ (if g.name = f.name then [] else [g]) ++ withF f (d || !Op.bytesLess g.name f.name) r := rfl
    rw [e, look_append, look_append, ih, look_cons]
    have h0 : lookF t [] = none := rfl
    by_cases ht : t = f.name
    · rw [if_pos ht, if_pos ht]
      have h1 : lookF t (if g.name = f.name then ([] : List Fl) else [g]) = none := by
        split
        · rfl
        · rename_i h
          rw [look_cons, if_neg (fun e => h (e.trans ht))]; rfl
      have h00 : lookF f.name [] = none := rfl
      rw [h1]
      cases d <;> cases Op.bytesLess g.name f.name <;> simp [h00, look_cons, ht]
    · rw [if_neg ht, if_neg ht]
      have h1 : lookF t (if (!d && !Op.bytesLess g.name f.name) = true then [f] else []) = none := by
        split
        · rw [look_cons, if_neg (fun e => ht e.symm)]; rfl
        · rfl
      rw [h1]
      by_cases hg : g.name = f.name
      · rw [if_pos hg, if_neg (fun e => ht (e.symm.trans hg))]; rfl
      · rw [if_neg hg, look_cons]
        by_cases hgt : g.name = t
        · rw [if_pos hgt, if_pos hgt]; rfl
        · rw [if_neg hgt, if_neg hgt]; rfl

theorem srt_without (s : List UInt8) (l : List Fl) (h : SrtF l) : SrtF (withoutF s l) := List.Pairwise.filter _ h

theorem mem_withF (f g : Fl) (l : List Fl) : ∀ d : Bool, g ∈ withF f d l → (g = f ∧ d = false) ∨ g ∈ l := by
  induction l with
  | nil =>
    intro d h
    cases d
    · exact .inl ⟨by simpa using (show g ∈ [f] from h), rfl⟩
    · cases h
  | cons a r ih =>
    intro d h
    have e : withF f d (a :: r) = (if !d && !Op.bytesLess a.name f.name then [f] else []) ++ (if a.name = f.name then [] else [a]) ++ withF f (d || !Op.bytesLess a.name f.name) r := rfl
    rw [e, List.mem_append, List.mem_append] at h
    rcases h with (h | h) | h
    · split at h
      · rename_i hd
        refine .inl ⟨by simpa using h, ?_⟩
        cases d
        · rfl
        · simp at hd
      · cases h
    · split at h
      · cases h
      · exact .inr (by rw [List.mem_singleton.1 h]; exact List.mem_cons_self)
    · rcases ih _ h with ⟨h1, h2⟩ | h
      · refine .inl ⟨h1, ?_⟩
        cases d
        · rfl
        · cases h2
      · exact .inr (List.mem_cons_of_mem _ h)

/-- 'done': the file stands ahead already, and all that follows comes behind it, or is of its name. -/
theorem srt_with (f : Fl) (l : List Fl) : ∀ d : Bool, SrtF l → (d = true → ∀ g ∈ l, Op.bytesLess g.name f.name = false) → SrtF (withF f d l) := by
  induction l with
  | nil =>
    intro d _ _
    cases d
    · exact List.pairwise_singleton _ _
    · exact List.Pairwise.nil
  | cons g r ih =>
    intro d hs hd
    have hs1 := List.pairwise_cons.1 hs
    have e : withF f d (g :: r) = (if !d && !Op.bytesLess g.name f.name then [f] else []) ++ (if g.name = f.name then [] else [g]) ++ withF f (d || !Op.bytesLess g.name f.name) r := rfl
    rw [e]
    have hless : Op.bytesLess g.name f.name = false → ∀ x ∈ r, Op.bytesLess f.name x.name = true := fun hg x hx => by
      have h1 := hs1.1 x hx
      by_cases he : g.name = f.name
      · rw [← he]; exact h1
      · refine bl_trans _ _ _ ?_ h1
        cases hq : Op.bytesLess f.name g.name
        · exact absurd (bl_total _ _ hg hq) he
        · rfl
    have hback : Op.bytesLess g.name f.name = false → ∀ x ∈ r, Op.bytesLess x.name f.name = false := fun hg x hx => bl_asymm _ _ (hless hg x hx)
    cases hg : Op.bytesLess g.name f.name
    · -- the file comes here, or stood already
      have hr : SrtF (withF f true r) := ih true hs1.2 (fun _ => hback hg)
      have hm : ∀ x ∈ withF f true r, x ∈ r := fun x hx => by
        rcases mem_withF f x r true hx with ⟨_, h⟩ | h
        · cases h
        · exact h
      have hgr : SrtF ((if g.name = f.name then [] else [g]) ++ withF f true r) := by
        split
        · exact hr
        · exact List.pairwise_cons.2 ⟨fun x hx => hs1.1 x (hm x hx), hr⟩
      have hfg : ∀ x ∈ (if g.name = f.name then [] else [g]) ++ withF f true r, Op.bytesLess f.name x.name = true := fun x hx => by
        rcases List.mem_append.1 hx with h | h
        · split at h
          · cases h
          · rename_i hne
            rw [List.mem_singleton.1 h]
            cases hq : Op.bytesLess f.name g.name
            · exact absurd (bl_total _ _ hg hq) hne
            · rfl
        · exact hless hg x (hm x h)
      cases d
      · simp only [Bool.not_false, Bool.and_self, if_true, Bool.false_or, List.append_assoc]
        exact List.pairwise_cons.2 ⟨hfg, hgr⟩
      · simp only [Bool.not_true, Bool.false_and, Bool.true_or, List.append_assoc, Bool.false_eq_true, if_false, List.nil_append]
        exact hgr
    · -- g comes ahead of it
      cases d
      · have hr : SrtF (withF f false r) := ih false hs1.2 (fun h => by cases h)
        have hne : ¬ g.name = f.name := fun h => by rw [h, bl_irrefl] at hg; cases hg
        simp only [Bool.not_false, Bool.not_true, Bool.and_false, Bool.or_false, Bool.false_eq_true, if_false, List.nil_append, if_neg hne]
        refine List.pairwise_cons.2 ⟨fun x hx => ?_, hr⟩
        rcases mem_withF f x r false hx with ⟨h, _⟩ | h
        · rw [h]; exact hg
        · exact hs1.1 x h
      · have := hd rfl g List.mem_cons_self
        rw [this] at hg
        cases hg

theorem srt_map (k : Fl → Fl) (l : List Fl) (hk : ∀ f, (k f).name = f.name) (h : SrtF l) : SrtF (l.map k) := by
  unfold SrtF
  rw [List.pairwise_map]
  refine List.Pairwise.imp (fun {a b} hab => ?_) h
  rw [hk, hk]; exact hab
theorem look_map (k : Fl → Fl) (l : List Fl) (hk : ∀ f, (k f).name = f.name) (t : List UInt8) : lookF t (l.map k) = (lookF t l).map k := by
  induction l with
  | nil => rfl
  | cons g r ih =>
    rw [List.map_cons, look_cons, look_cons, hk, ih]
    split <;> rfl

/-- Two lists in order that tell the same of each name are one. -/
theorem srt_ext (a : List Fl) : ∀ b, SrtF a → SrtF b → (∀ t, lookF t a = lookF t b) → a = b := by
  induction a with
  | nil =>
    intro b _ _ h
    cases b with
    | nil => rfl
    | cons g r =>
      have := h g.name
      rw [look_cons, if_pos rfl] at this
      cases this
  | cons f a ih =>
    intro b ha hb h
    cases b with
    | nil =>
      have := h f.name
      rw [look_cons, if_pos rfl] at this
      cases this
    | cons g r =>
      have ha1 := List.pairwise_cons.1 ha
      have hb1 := List.pairwise_cons.1 hb
      have hfg : f = g := by
        have h1 := h f.name
        have h2 := h g.name
        rw [look_cons, if_pos rfl, look_cons] at h1
        rw [look_cons, look_cons, if_pos rfl] at h2
        by_cases e : g.name = f.name
        · rw [if_pos e] at h1
          exact Option.some.inj h1
        · rw [if_neg e] at h1
          rw [if_neg (fun x => e x.symm)] at h2
          have m1 : f ∈ r := List.mem_of_find?_eq_some h1.symm
          have m2 : g ∈ a := List.mem_of_find?_eq_some h2
          have l1 := hb1.1 f m1
          have l2 := ha1.1 g m2
          rw [bl_asymm _ _ l1] at l2
          cases l2
      subst hfg
      rw [ih r ha1.2 hb1.2 fun t => ?_]
      have h1 := h t
      rw [look_cons, look_cons] at h1
      by_cases e : f.name = t
      · have none_of : ∀ l : List Fl, (∀ x ∈ l, Op.bytesLess f.name x.name = true) → lookF t l = none := fun l hl => by
          unfold lookF
          refine List.find?_eq_none.2 fun x hx => ?_
          intro hd
          have hx2 := hl x hx
          rw [of_decide_eq_true hd, ← e, bl_irrefl] at hx2
          cases hx2
        rw [none_of a ha1.1, none_of r hb1.1]
      · rw [if_neg e, if_neg e] at h1
        exact h1

end Go.Proofs.Ytikghnbhbehepaa

/-
  The reference's disk: what a step keeps in order; Same of files.
-/
namespace Go.Proofs.Ytikghnbhbehepaa
open Go.RowKit
set_option linter.unusedVariables false
set_option linter.unusedSimpArgs false

theorem crash_srt (keep : Int) (m : Dk) (h : SrtF m.files) : SrtF (crashD keep m).files := srt_map (cutF keep) m.files (fun f => rfl) h
theorem begin_srt (m : Dk) (h : SrtF m.files) : SrtF (beginD m).2.files := by
  unfold beginD
  split
  · exact h
  · split
    · exact crash_srt _ m h
    · exact h
theorem call_srt (m : Dk) (s : Sp) (h : SrtF m.files) : SrtF (callD m s).2.files := by
  unfold callD
  split
  · exact h
  split
  · split
    · exact h
    split
    · exact h
    · exact srt_with _ _ false h (fun h => by cases h)
  split
  · exact h
  split
  · exact srt_with _ _ false h (fun h => by cases h)
  split
  · exact srt_with _ _ false (srt_without _ _ h) (fun h => by cases h)
  · exact srt_without _ _ h
theorem do_srt (m : Dk) (s : Sp) (h : SrtF m.files) : SrtF (doD m s).2.files := by
  unfold doD
  split
  · exact h
  split
  · exact crash_srt _ m h
  split
  · exact h
  split
  · exact h
  split
  · exact call_srt _ s (begin_srt m h)
  · exact begin_srt m h

set_option maxRecDepth 100000 in
set_option maxHeartbeats 2000000 in
/-- Two slices that read as the same files. -/
theorem same9_any (A B : Option Addr) (n c d : Nat) (fs : List Fl) (S S' : Nat → Prop) (W : World) (h1 : Fls W S A n fs) (h2 : Fls W S' B n fs) (hn : n ≤ 1000000) (hd : ∀ f ∈ fs, f.data.length ≤ 1000000) :
    Calls Try.prog 8 #[.slice A n c, .slice B n d] W fun e W' => e = .returned (.bool true) ∧ ∃ q, W' = W.drewN q := by
  have H1 := Lib.hid h1
  have H2 := Lib.hid h2
  have HD := Lib.hid hd
  clear h1 h2 hd
  go_enter Try.func8, Try.ntmps8
  go_wp2_with fail
  go_loopw [5] (fun i wr => ∃ k q : Nat, k ≤ n ∧ i = .int .i64 k ∧ Hid (wr = W.drewN q)) (fun i _ => n - (intOf i).toNat)
  case atStart => exact ⟨0, 0, Nat.zero_le _, rfl, Lib.hid rfl⟩
  case round =>
    obtain ⟨k, q, hk, rfl, HW⟩ := hrel
    by_cases hlt : k < n
    · obtain ⟨f, hf⟩ : ∃ f, fs[k]? = some f := ⟨_, List.getElem?_eq_getElem (by have := H1.out.1; omega)⟩
      have hdf := HD.out f (List.mem_of_getElem? hf)
      obtain ⟨b, o, rfl, _, hfa⟩ := (H1.out.turn ((Turn.refl S W).drewN q)).2 (by omega)
      obtain ⟨y0, y1, y2, p0, p1, p2, hv⟩ := hfa k f hf
      obtain ⟨b', o', rfl, _, hfa'⟩ := (H2.out.turn ((Turn.refl S' W).drewN q)).2 (by omega)
      obtain ⟨z0, z1, z2, q0, q1, q2, hv'⟩ := hfa' k f hf
      rw [← HW.out] at p0 p1 p2 q0 q1 q2 hv hv'
      obtain ⟨A2, n2, c2, rfl, rfl, rfl, hby, _⟩ := fl_parts hv
      obtain ⟨A3, n3, c3, rfl, rfl, rfl, hby', _⟩ := fl_parts hv'
      have hS := fun r => same_any A2 A3 n2 c2 n3 c3 f.data f.data wr.heap.size (wr.drewN r) ((hby.turn ((Turn.refl S wr).drewN r)).byt) ((hby'.turn ((Turn.refl S' wr).drewN r)).byt) (by have := hby.1; omega)
      simp only [decide_true] at hS
      clear hfa hfa' hv hv' hby hby' hf hdf
      have i1 : (k : Int) < (n : Int) := by omega
      have i0 : (0 : Int) ≤ (k : Int) := by omega
      go_wp2_with fail
      go_quiet ((go_at_call 21; exact Calls.quiet_of (hS _)))
      have HN : Hid (wr.drewN nq = W.drewN (q + nq)) := Lib.hid (by rw [HW.out]; simp [World.drewN]; omega)
      revert HN
      generalize wr.drewN nq = w5
      intro HN
      clear p0 p1 p2 q0 q1 q2 hS i0 i1
      go_wp2
      go_roundw
      case rel => exact ⟨k + 1, q + nq, by omega, by go_num, HN⟩
      case measure => simp [intOf]; omega
    · go_wp2
      go_ret
      exact ⟨rfl, q, HW.out⟩

end Go.Proofs.Ytikghnbhbehepaa

/-
  Structs in memory by their parts: a part's value, a struct's cells, a slice of structs, a row of structs of the call's own. No program stands here.
-/
namespace Go.Proofs.Ytikghnbhbehepaa
open Go.RowKit
set_option linter.unusedVariables false
set_option linter.unusedSimpArgs false

/-- A part of a struct: a number, a text, bytes, a truth. -/
inductive Prt where
  | num (k : IntKind) (z : Int)
  | txt (l : List UInt8)
  | byt (l : List UInt8)
  | flag (b : Bool)
/-- The value of a part, its bytes off S. -/
def PrtV (w : World) (S : Nat → Prop) (v : Value) : Prt → Prop
  | .num k z => v = .int k z
  | .txt l => v = .string ⟨l.toArray⟩
  | .byt l => ∃ A n c, v = .slice A n c ∧ BytS w S A n l ∧ (A = none → n = 0 ∧ c = 0) ∧ n ≤ c ∧ c ≤ maxLen
  | .flag b => v = .bool b
/-- Cells that are parts, one behind the other. -/
def PrtsV (w : World) (S : Nat → Prop) : List Value → List Prt → Prop
  | xs, [] => xs = []
  | xs, p :: ps => ∃ v r, xs = v :: r ∧ PrtV w S v p ∧ PrtsV w S r ps
section
variable {w w' W : World} {S S' : Nat → Prop} {v : Value} {p : Prt} {B : Nat}
theorem PrtV.turn (h : PrtV w S v p) (ht : Turn S w w') : PrtV w' S v p := by
  cases p with
  | byt l =>
    obtain ⟨A, n, c, h1, h2, h3⟩ := h
    exact ⟨A, n, c, h1, h2.turn ht, h3⟩
  | _ => exact h
theorem PrtV.less (h : PrtV w S v p) (hs : ∀ k, S' k → S k) : PrtV w S' v p := by
  cases p with
  | byt l =>
    obtain ⟨A, n, c, h1, h2, h3⟩ := h
    exact ⟨A, n, c, h1, h2.less hs, h3⟩
  | _ => exact h
theorem PrtV.more (h : PrtV w S v p) (hs : ∀ k, S' k → k < w.heap.size → S k) : PrtV w S' v p := by
  cases p with
  | byt l =>
    obtain ⟨A, n, c, h1, h2, h3⟩ := h
    exact ⟨A, n, c, h1, h2.more hs, h3⟩
  | _ => exact h
/-- From one world behind W to another one. -/
theorem PrtV.side (h : PrtV w S v p) (hS : ∀ k, B ≤ k → S k) (h1 : Below B W w) (h2 : Below B W w') : PrtV w' S v p := by
  cases p with
  | byt l =>
    obtain ⟨A, n, c, e, hb, h3⟩ := h
    refine ⟨A, n, c, e, ⟨hb.1, fun hn => ?_⟩, h3⟩
    obtain ⟨b, o, e1, hs, hc⟩ := hb.2 hn
    have hlt : b < B := by
      rcases Nat.lt_or_ge b B with h | h
      · exact h
      · exact absurd (hS b h) hs
    exact ⟨b, o, e1, hs, fun j x hx => ((h2.cell (p := ⟨b, o + j, none⟩) hlt).trans (h1.cell (p := ⟨b, o + j, none⟩) hlt).symm).trans (hc j x hx)⟩
  | _ => exact h
theorem PrtV.one (h : PrtV w S v p) : v.oneCell' = true := by
  cases p with
  | byt l =>
    obtain ⟨A, n, c, h1, _⟩ := h
    rw [h1]; rfl
  | num k z => have h' : v = .int k z := h; rw [h']; rfl
  | txt l => have h' : v = .string ⟨l.toArray⟩ := h; rw [h']; rfl
  | flag b => have h' : v = .bool b := h; rw [h']; rfl
end

section
variable {w w' W : World} {S S' : Nat → Prop} {B : Nat}
theorem PrtsV.keep (hv : ∀ v p, PrtV w S v p → PrtV w' S' v p) : ∀ (ps : List Prt) (xs : List Value), PrtsV w S xs ps → PrtsV w' S' xs ps := by
  intro ps
  induction ps with
  | nil => intro xs h; exact h
  | cons p ps ih =>
    intro xs h
    obtain ⟨v, r, rfl, h1, h2⟩ := h
    exact ⟨v, r, rfl, hv _ _ h1, ih r h2⟩
theorem PrtsV.turn {ps : List Prt} {xs : List Value} (h : PrtsV w S xs ps) (ht : Turn S w w') : PrtsV w' S xs ps := PrtsV.keep (fun v p hv => hv.turn ht) ps xs h
theorem PrtsV.less {ps : List Prt} {xs : List Value} (h : PrtsV w S xs ps) (hs : ∀ k, S' k → S k) : PrtsV w S' xs ps := PrtsV.keep (fun v p hv => hv.less hs) ps xs h
theorem PrtsV.more {ps : List Prt} {xs : List Value} (h : PrtsV w S xs ps) (hs : ∀ k, S' k → k < w.heap.size → S k) : PrtsV w S' xs ps := PrtsV.keep (fun v p hv => hv.more hs) ps xs h
theorem PrtsV.side {ps : List Prt} {xs : List Value} (h : PrtsV w S xs ps) (hS : ∀ k, B ≤ k → S k) (h1 : Below B W w) (h2 : Below B W w') : PrtsV w' S xs ps := PrtsV.keep (fun v p hv => hv.side hS h1 h2) ps xs h
theorem PrtsV.len : ∀ (ps : List Prt) (xs : List Value), PrtsV w S xs ps → xs.length = ps.length := by
  intro ps
  induction ps with
  | nil => intro xs h; have h' : xs = [] := h; subst h'; rfl
  | cons p ps ih =>
    intro xs h
    obtain ⟨v, r, rfl, _, h2⟩ := h
    simp [ih r h2]
theorem PrtsV.one : ∀ (ps : List Prt) (xs : List Value), PrtsV w S xs ps → ∀ u ∈ xs, u.oneCell' = true := by
  intro ps
  induction ps with
  | nil => intro xs h u hu; have h' : xs = [] := h; subst h'; cases hu
  | cons p ps ih =>
    intro xs h u hu
    obtain ⟨v, r, rfl, h1, h2⟩ := h
    rcases List.mem_cons.1 hu with rfl | hu
    · exact h1.one
    · exact ih r h2 u hu
theorem PrtsV.append : ∀ (ps : List Prt) (xs : List Value) (qs : List Prt) (ys : List Value), PrtsV w S xs ps → PrtsV w S ys qs → PrtsV w S (xs ++ ys) (ps ++ qs) := by
  intro ps
  induction ps with
  | nil => intro xs qs ys h h2; have h' : xs = [] := h; subst h'; exact h2
  | cons p ps ih =>
    intro xs qs ys h h2
    obtain ⟨v, r, rfl, h1, h3⟩ := h
    exact ⟨v, r ++ ys, rfl, h1, ih r qs ys h3 h2⟩
theorem PrtsV.drop : ∀ (i : Nat) (ps : List Prt) (xs : List Value), PrtsV w S xs ps → PrtsV w S (xs.drop i) (ps.drop i) := by
  intro i
  induction i with
  | zero => intro ps xs h; exact h
  | succ i ih =>
    intro ps xs h
    cases ps with
    | nil => have h' : xs = [] := h; subst h'; exact rfl
    | cons p ps =>
      obtain ⟨v, r, rfl, _, h2⟩ := h
      exact ih ps r h2
theorem PrtsV.take : ∀ (i : Nat) (ps : List Prt) (xs : List Value), PrtsV w S xs ps → PrtsV w S (xs.take i) (ps.take i) := by
  intro i
  induction i with
  | zero => intro ps xs h; exact rfl
  | succ i ih =>
    intro ps xs h
    cases ps with
    | nil => have h' : xs = [] := h; subst h'; exact rfl
    | cons p ps =>
      obtain ⟨v, r, rfl, h1, h2⟩ := h
      exact ⟨v, r.take i, rfl, h1, ih ps r h2⟩
end

/-- Lists of one length, one behind the other: where the j-th one stands. -/
theorem flat_at {α : Type} {k : Nat} : ∀ (fs : List (List α)) (j : Nat) (f : List α), (∀ g ∈ fs, g.length = k) → fs[j]? = some f → (fs.flatten.drop (j * k)).take k = f := by
  intro fs
  induction fs with
  | nil => intro j f _ h; cases h
  | cons g fs ih =>
    intro j f hk h
    have hg := hk g List.mem_cons_self
    cases j with
    | zero =>
      have e : g = f := by simpa using h
      subst e
      simp [List.take_append, hg]
    | succ j =>
      have := ih j f (fun x hx => hk x (List.mem_cons_of_mem _ hx)) (by simpa using h)
      rw [List.flatten_cons, show (j + 1) * k = g.length + j * k by rw [hg, Nat.succ_mul]; omega, List.drop_append]
      simpa [List.drop_eq_nil_of_le] using this
theorem flat_len {α : Type} {k : Nat} : ∀ (fs : List (List α)), (∀ g ∈ fs, g.length = k) → fs.flatten.length = fs.length * k := by
  intro fs
  induction fs with
  | nil => intro _; simp
  | cons g fs ih =>
    intro hk
    have hg := hk g List.mem_cons_self
    have := ih fun x hx => hk x (List.mem_cons_of_mem _ hx)
    rw [List.flatten_cons, List.length_append, this, hg, List.length_cons, Nat.succ_mul]
    omega

/-- The slice value '.slice A n c' reads as the structs fs, k parts each, all of it off S. -/
def Sls (w : World) (S : Nat → Prop) (k : Nat) (A : Option Addr) (n : Nat) (fs : List (List Prt)) : Prop :=
  fs.length = n ∧ (∀ f ∈ fs, f.length = k) ∧ (0 < n → ∃ b o, A = some ⟨b, o, none⟩ ∧ ¬ S b ∧ b < w.heap.size ∧ ∀ (j : Nat) (f : List Prt), fs[j]? = some f → ∃ ys, PrtsV w S ys f ∧ ∀ (i : Nat) (y : Value), ys[i]? = some y → w.cell? ⟨b, o + j * k + i, none⟩ = some y)
section
variable {w w' W : World} {S S' : Nat → Prop} {k n : Nat} {A : Option Addr} {fs : List (List Prt)}
theorem Sls.nil : Sls w S k A 0 [] := ⟨rfl, fun _ h => (by cases h), fun h => absurd h (by omega)⟩
theorem Sls.turn (h : Sls w S k A n fs) (ht : Turn S w w') : Sls w' S k A n fs :=
  ⟨h.1, h.2.1, fun hn => by
    obtain ⟨b, o, e, hb, hl, hf⟩ := h.2.2 hn
    refine ⟨b, o, e, hb, Nat.lt_of_lt_of_le hl ht.size, fun j f hj => ?_⟩
    obtain ⟨ys, h1, h2⟩ := hf j f hj
    exact ⟨ys, h1.turn ht, fun i y hy => ht.at_ (h2 i y hy) hb⟩⟩
theorem Sls.less (h : Sls w S k A n fs) (hs : ∀ k, S' k → S k) : Sls w S' k A n fs :=
  ⟨h.1, h.2.1, fun hn => by
    obtain ⟨b, o, e, hb, hl, hf⟩ := h.2.2 hn
    refine ⟨b, o, e, fun x => hb (hs b x), hl, fun j f hj => ?_⟩
    obtain ⟨ys, h1, h2⟩ := hf j f hj
    exact ⟨ys, h1.less hs, h2⟩⟩
theorem Sls.more (h : Sls w S k A n fs) (hs : ∀ k, S' k → k < w.heap.size → S k) : Sls w S' k A n fs :=
  ⟨h.1, h.2.1, fun hn => by
    obtain ⟨b, o, e, hb, hl, hf⟩ := h.2.2 hn
    refine ⟨b, o, e, fun x => hb (hs b x hl), hl, fun j f hj => ?_⟩
    obtain ⟨ys, h1, h2⟩ := hf j f hj
    exact ⟨ys, h1.more hs, h2⟩⟩
theorem Sls.take (h : Sls w S k A n fs) {m : Nat} (hm : m ≤ n) : Sls w S k A m (fs.take m) := by
  refine ⟨by rw [List.length_take, h.1]; omega, fun f hf => h.2.1 f (List.mem_of_mem_take hf), fun h0 => ?_⟩
  obtain ⟨b, o, e, hb, hl, hf⟩ := h.2.2 (by omega)
  refine ⟨b, o, e, hb, hl, fun j f hj => hf j f ?_⟩
  rw [List.getElem?_take] at hj
  split at hj
  · exact hj
  · cases hj
/-- The j-th struct: where it stands, and its cells. -/
theorem Sls.at_ (h : Sls w S k A n fs) {j : Nat} {f : List Prt} (hj : fs[j]? = some f) : ∃ b o ys, A = some ⟨b, o, none⟩ ∧ ¬ S b ∧ b < w.heap.size ∧ PrtsV w S ys f ∧ f.length = k ∧ ∀ (i : Nat) (y : Value), ys[i]? = some y → w.cell? ⟨b, o + j * k + i, none⟩ = some y := by
  have hl := (List.getElem?_eq_some_iff.1 hj).1
  obtain ⟨b, o, e, hb, hl, hf⟩ := h.2.2 (by have := h.1; omega)
  obtain ⟨ys, h1, h2⟩ := hf j f hj
  exact ⟨b, o, ys, e, hb, hl, h1, h.2.1 f (List.mem_of_getElem? hj), h2⟩
theorem Sls.of_own {base c : Nat} {e : TypeId} {xs : List Value} (h : w.ownsRow base e k (.slice A n c) n xs) (hx : PrtsV w S xs fs.flatten) (hk : ∀ f ∈ fs, f.length = k) (hn : fs.length = n) (hS : ∀ k, S k → k < base ∨ w.heap.size ≤ k) : Sls w S k A n fs := by
  refine ⟨hn, hk, fun h0 => ?_⟩
  have hlt := h.lt
  have h1 : xs.length = n * k := h.1
  rcases h.2 with ⟨_, h0'⟩ | ⟨g, cap, cur, hv, _, hh, _⟩
  · omega
  · injection hv with hA
    subst hA
    refine ⟨g, 0, rfl, fun x => by have h2 := hlt g rfl; have h3 := hS g x; omega, (hlt g rfl).2, fun j f hj => ?_⟩
    have hf := flat_at fs j f hk hj
    have hp := PrtsV.take k _ _ (PrtsV.drop (j * k) _ _ hx)
    rw [hf] at hp
    refine ⟨_, hp, fun i y hy => ?_⟩
    rw [List.getElem?_take] at hy
    split at hy
    · rw [List.getElem?_drop] at hy
      have := h.cells (g := g) rfl _ y hy
      rw [Addr.add_lit] at this
      rw [Nat.add_assoc]
      exact this
    · cases hy
end

/-- One struct appended to a row of the call's own; the walk has just laid it in a block of its own. -/
theorem wpList_append_prt {P : Program} {ops : Array Oper} {rest : List Oper} {o : Oper} {a : Act} {Q : Exit → Act → World → Prop} {wr W0 : World} {B0 : Nat} {S : Nat → Prop} (ob : TypeId) (hgd : o.guard = none) (s x : Operand) (t : TypeId)
    (ho : o.op = .call { callee := .builtin .append, args := #[s, x], argTypes := #[t, t] }) (e : TypeId) (i : TypeInfo) (z : Value) (k nb : Nat) (ht : P.underlying t = some (.slice e)) (hi : P.info? e = some i) (hz : i.zero = some z) (hsize : i.size = k) (hby : i.bytes = nb) (hzs : z.cells.size = k) (hk : 0 < k) (hnb : nb ≤ 1000)
    (v : Value) (gs : List (List Prt)) (xs : List Value) (hs : a.eval s = v) (hown : wr.ownsRow B0 e k v gs.length xs) (hx : PrtsV wr S xs gs.flatten) (hb : Below B0 W0 wr) (hB0 : B0 ≤ wr.heap.size) (hS : ∀ k, B0 ≤ k → S k)
    (cs : List Value) (f : List Prt) (hv : PrtsV wr S cs f) (hf : f.length = k) (hxe : a.eval x = .slice (some ⟨wr.heap.size, 0, none⟩) 1 1) (hn : gs.length ≤ 1000000)
    (h : ∀ v' w', (w'.ownsRow B0 e k v' (gs ++ [f]).length (xs ++ cs) ∧ PrtsV w' S (xs ++ cs) (gs ++ [f]).flatten ∧ Below B0 W0 w' ∧ B0 ≤ w'.heap.size) → wpList P ops Q rest (a.put o.dst v') w') : wpList P ops Q (o :: rest) a (wr.alloc (.cells cs.toArray ob)) := by
  have hcs := PrtsV.len f cs hv
  refine wpList_append_own _ hgd s x t ho B0 e i z k nb ht hi hz hsize hby hzs hk v gs.length xs hs (hown.alloc _) ⟨wr.heap.size, 0, none⟩ 1 1 cs hxe (by rw [hcs, hf, Nat.one_mul]) ?_ ?_ (by unfold maxLen; omega) ?_ (by simp; omega) ?_
  · intro j y hy
    rw [Addr.add_lit, Nat.zero_add, World.cell?_alloc_new]
    simpa using hy
  · exact PrtsV.one f cs hv
  · exact Nat.le_trans (Nat.mul_le_mul_left _ hnb) (by omega)
  · intro v' w' hown' hgrow _
    have hb' : Below B0 W0 w' := (hb.alloc hB0 _).grown hgrow (by simp; omega) (fun q hq => (hown.lt q hq).1)
    refine h v' w' ⟨by rw [List.length_append]; exact hown', ?_, hb', ?_⟩
    · rw [List.flatten_append]
      refine PrtsV.append _ _ _ _ (hx.side hS hb hb') ?_
      simpa using hv.side hS hb hb'
    have h1 := hgrow.size
    simp at h1
    omega

end Go.Proofs.Ytikghnbhbehepaa
