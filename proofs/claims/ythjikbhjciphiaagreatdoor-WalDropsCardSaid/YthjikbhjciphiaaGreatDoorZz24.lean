/-
  Segments of records whose numbers go on, the last one torn. No program stands here.
-/
import Derived.Test.YthjikbhjciphiaaGreatDoorZz23
import Derived.Test.YthjikbhjciphiaaGreatDoorZz3
import Derived.Test.YthjikbhjciphiaaGreatDoorZz21
import Derived.Deep.AppendLies
import Derived.Deep.RegionHeld3
import Derived.Deep.RegionLaw
import Derived.Deep.CutRange
namespace Go.Proofs.YthjikbhjciphiaaGreatDoor
open Go.RowKit
set_option linter.unusedVariables false
set_option linter.unusedSimpArgs false

/-- A record that may be. -/
def okRc (r : Rc) : Prop := checkC r = 0 ∧ r.okay
/-- Numbers that go on. -/
def Chain (l : List Rc) : Prop := ∀ (i : Nat) (a b : Rc), l[i]? = some a → l[i + 1]? = some b → a.seq + 1 < 18446744073709551616 ∧ b.seq = a.seq + 1
/-- The bytes of a segment. -/
def segB (c : List Rc) : List UInt8 := boxesC (c.map encC)

theorem okRc_rec (r : Rc) (h : okRc r) : recOk (encC r) = true ∧ recP (encC r) = r := by
  obtain ⟨h1, h2, h3⟩ := recP_enc r h.2 h.1
  refine ⟨?_, h1⟩
  unfold recOk
  rw [h1, h2]
  exact decide_eq_true ⟨by omega, h3, h.1, rfl⟩
theorem okRc_len (r : Rc) (h : okRc r) : 10 ≤ (encC r).length ∧ (encC r).length ≤ 50 := by
  have h1 := (recP_enc r h.2 h.1).2.2
  have h2 := enc_len r
  have h3 := (ten_len _ (check_parts r h.1).2.1).2
  omega
theorem chain_tail {a : Rc} {l : List Rc} (h : Chain (a :: l)) : Chain l := fun i x y hx hy => h (i + 1) x y (by simpa using hx) (by simpa using hy)
theorem take_chain : ∀ (c out : List Rc), (∀ r ∈ c, okRc r) → Chain (out ++ c) → takeR out (c.map encC) = out ++ c := by
  intro c
  induction c with
  | nil => intro out _ _; rw [List.append_nil]; rfl
  | cons r c ih =>
    intro out hok hch
    obtain ⟨h1, h2⟩ := okRc_rec r (hok r List.mem_cons_self)
    rw [List.map_cons, takeR_yes _ _ _ h1 ?_, h2, ih (out ++ [r]) (fun q hq => hok q (List.mem_cons_of_mem _ hq)) (by simpa using hch)]
    · simp
    · rw [h2]
      unfold awaits
      cases hl : out.getLast? with
      | none => rfl
      | some q =>
        obtain ⟨l', rfl⟩ : ∃ l', out = l' ++ [q] := by
          have hne : out ≠ [] := by rintro rfl; cases hl
          rw [List.getLast?_eq_some_getLast hne] at hl
          exact ⟨out.dropLast, by rw [← Option.some.inj hl]; exact (List.dropLast_concat_getLast hne).symm⟩
        have := hch l'.length q r (by simp) (by simp)
        exact decide_eq_true (by omega)

theorem lenB_take_succ (bs : List (List UInt8)) (m : Nat) (b : List UInt8) (h : bs[m]? = some b) : lenB (bs.take (m + 1)) = lenB (bs.take m) + (b.length + 6) := by
  rw [List.take_add_one, h]
  exact lenB_snoc _ _
/-- Those of boxes that are whole. -/
theorem cutB_take : ∀ (bs : List (List UInt8)) (n m : Nat), m ≤ bs.length → lenB (bs.take m) ≤ n → (m = bs.length ∨ n < lenB (bs.take (m + 1))) → (cutB bs n).1 = bs.take m := by
  intro bs
  induction bs with
  | nil => intro n m _ _ _; simp [cutB]
  | cons b t ih =>
    intro n m hm h1 h2
    cases m with
    | zero =>
      rcases h2 with h2 | h2
      · cases h2
      · have e : lenB ((b :: t).take (0 + 1)) = b.length + 6 := by
          show lenB [b] = _
          rw [lenB_cons]
          rfl
        rw [e] at h2
        unfold cutB
        rw [if_neg (by omega)]
        rfl
    | succ m =>
      rw [List.take_succ_cons, lenB_cons] at h1
      have hm' : m ≤ t.length := by simpa using hm
      unfold cutB
      rw [if_pos (by omega)]
      simp only [List.take_succ_cons]
      rw [ih (n - (b.length + 6)) m hm' (by omega) ?_]
      rcases h2 with h2 | h2
      · exact .inl (by simpa using h2)
      · rw [List.take_succ_cons, lenB_cons] at h2
        exact .inr (by omega)

theorem segs_whole : ∀ (cs : List (List Rc)) (out : List Rc), (∀ r ∈ cs.flatten, okRc r) → Chain (out ++ cs.flatten) → segsR out (cs.map segB) = out ++ cs.flatten := by
  intro cs
  induction cs with
  | nil => intro out _ _; simp [segsR]
  | cons c cs ih =>
    intro out hok hch
    have hc : ∀ r ∈ c, okRc r := fun r hr => hok r (by simp [hr])
    have hv : (validC (segB c)).1 = c.map encC := by
      have h1 := valid_cut (c.map encC) (lenB (c.map encC)) (fun b hb => by
        obtain ⟨r, hr, rfl⟩ := List.mem_map.1 hb
        have := okRc_len r (hc r hr)
        omega)
      rw [show (boxesC (c.map encC)).take (lenB (c.map encC)) = boxesC (c.map encC) from List.take_of_length_le (Nat.le_refl _)] at h1
      unfold segB
      rw [h1, cutB_all _ _ (Nat.le_refl _)]
    show segsR (takeR out (validC (segB c)).1) (cs.map segB) = _
    have hch1 : Chain (out ++ c) := fun i a b ha hb => hch i a b (by
      rw [List.flatten_cons, ← List.append_assoc, List.getElem?_append_left (List.getElem?_eq_some_iff.1 ha).1]; exact ha) (by
      rw [List.flatten_cons, ← List.append_assoc, List.getElem?_append_left (List.getElem?_eq_some_iff.1 hb).1]; exact hb)
    rw [hv, take_chain c out hc hch1, ih (out ++ c) (fun r hr => hok r (by simp at hr ⊢; exact .inr hr)) (by simpa using hch)]
    simp
/-- The last segment torn: a beginning comes back, with all that are whole. -/
theorem torn_math (l : List Rc) (cs : List (List Rc)) (cur : List Rc) (n m : Nat) (hl : l = cs.flatten ++ cur) (hok : ∀ r ∈ l, okRc r) (hch : Chain l) (hm : m ≤ cur.length) (h1 : lenB ((cur.map encC).take m) ≤ n) (h2 : m = cur.length ∨ n < lenB ((cur.map encC).take (m + 1))) :
    segsR [] (cs.map segB ++ [(segB cur).take n]) = l.take (cs.flatten.length + m) := by
  subst hl
  have hokc : ∀ r ∈ cs.flatten, okRc r := fun r hr => hok r (List.mem_append_left _ hr)
  have hoku : ∀ r ∈ cur, okRc r := fun r hr => hok r (List.mem_append_right _ hr)
  have hch0 : Chain cs.flatten := fun i a b ha hb => hch i a b (by rw [List.getElem?_append_left (List.getElem?_eq_some_iff.1 ha).1]; exact ha) (by rw [List.getElem?_append_left (List.getElem?_eq_some_iff.1 hb).1]; exact hb)
  have hch1 : Chain ([] ++ cs.flatten) := by rw [List.nil_append]; exact hch0
  rw [segsR_snoc, segs_whole cs [] hokc hch1]
  have hv := valid_cut (cur.map encC) n (fun b hb => by
    obtain ⟨r, hr, rfl⟩ := List.mem_map.1 hb
    have := okRc_len r (hoku r hr)
    omega)
  unfold segB
  rw [hv, cutB_take _ n m (by simpa using hm) h1 (by simpa using h2), ← List.map_take, List.nil_append, take_chain (cur.take m) cs.flatten (fun r hr => hoku r (List.mem_of_mem_take hr)) ?_, List.take_length_add_append]
  have e : cs.flatten ++ cur.take m = (cs.flatten ++ cur).take (cs.flatten.length + m) := by rw [List.take_length_add_append]
  rw [e]
  intro i a b ha hb
  rw [List.getElem?_take] at ha hb
  split at ha
  · split at hb
    · exact hch i a b ha hb
    · cases hb
  · cases ha

end Go.Proofs.YthjikbhjciphiaaGreatDoor

/-
  A journal's segments on a disk: what a commit leaves, what a crash does. No program stands here.
-/
namespace Go.Proofs.YthjikbhjciphiaaGreatDoor
open Go.RowKit
set_option linter.unusedVariables false
set_option linter.unusedSimpArgs false

/-- A file of a segment, all of it sure. -/
def sgF (p : Nat × List UInt8) : Fl := ⟨nameL p.1, p.2, p.2.length⟩
/-- The disk's files are a journal's segments: those ahead of its own hold R0, its own cur. -/
structure HeldJ (fs : List Fl) (own : Nat) (pre : List (Nat × List UInt8)) (R0 cur : List Rc) : Prop where
  files : fs = pre.map sgF ++ (if cur = [] then [] else [sgF (own, segB cur)])
  rise : (pre.map Prod.fst).Pairwise (· < ·)
  less : ∀ p ∈ pre, 1 ≤ p.1 ∧ p.1 < own
  small : own < 9223372036854775808
  recs : segsR [] (pre.map Prod.snd) = R0
  ok : ∀ r ∈ R0 ++ cur, okRc r
  chain : Chain (R0 ++ cur)

theorem hd_ten : ∀ d : Fin 16, tenR (hd16 d.val).toNat = true ∧ tarR (hd16 d.val).toNat = true := by decide +kernel

theorem valid_seg (c : List Rc) (n : Nat) (h : ∀ r ∈ c, okRc r) : validC ((segB c).take n) = cutB (c.map encC) n :=
  valid_cut (c.map encC) n (fun b hb => by
    obtain ⟨r, hr, rfl⟩ := List.mem_map.1 hb
    have := okRc_len r (h r hr)
    omega)
theorem segB_app (a b : List Rc) : segB (a ++ b) = segB a ++ segB b := by unfold segB boxesC; simp
theorem segB_nil : segB [] = [] := rfl
theorem lenB_seg (c : List Rc) : lenB (c.map encC) = (segB c).length := rfl
theorem lenB_le (c : List Rc) (h : ∀ r ∈ c, okRc r) : (segB c).length ≤ 56 * c.length ∧ 16 * c.length ≤ (segB c).length := by
  induction c with
  | nil => exact ⟨Nat.le_refl _, Nat.le_refl _⟩
  | cons r c ih =>
    have h1 := ih fun q hq => h q (List.mem_cons_of_mem _ hq)
    have h2 := okRc_len r (h r List.mem_cons_self)
    have h3 : (segB (r :: c)).length = (encC r).length + 6 + (segB c).length := lenB_cons _ _
    rw [h3, List.length_cons]
    omega
theorem chain_left {a b : List Rc} (h : Chain (a ++ b)) : Chain a := fun i x y hx hy => h i x y (by rw [List.getElem?_append_left (List.getElem?_eq_some_iff.1 hx).1]; exact hx) (by rw [List.getElem?_append_left (List.getElem?_eq_some_iff.1 hy).1]; exact hy)
theorem chain_take {l : List Rc} (h : Chain l) (k : Nat) : Chain (l.take k) := by
  have := List.take_append_drop k l
  rw [← this] at h
  exact chain_left h

/-- How many boxes are whole within n bytes. -/
theorem cut_find : ∀ (bs : List (List UInt8)) (n : Nat), ∃ m, m ≤ bs.length ∧ lenB (bs.take m) ≤ n ∧ (m = bs.length ∨ n < lenB (bs.take (m + 1))) := by
  intro bs
  induction bs with
  | nil => intro n; exact ⟨0, Nat.le_refl _, Nat.zero_le _, .inl rfl⟩
  | cons b t ih =>
    intro n
    by_cases h : b.length + 6 ≤ n
    · obtain ⟨m, h1, h2, h3⟩ := ih (n - (b.length + 6))
      refine ⟨m + 1, by rw [List.length_cons]; omega, by rw [List.take_succ_cons, lenB_cons]; omega, ?_⟩
      rcases h3 with h3 | h3
      · exact .inl (by rw [List.length_cons, h3])
      · exact .inr (by rw [List.take_succ_cons, lenB_cons]; omega)
    · refine ⟨0, Nat.zero_le _, Nat.zero_le _, .inr ?_⟩
      rw [List.take_succ_cons, lenB_cons, List.take_zero]
      have : lenB [] = 0 := rfl
      omega
theorem lenB_mono (bs : List (List UInt8)) (i j : Nat) (h : i ≤ j) : lenB (bs.take i) ≤ lenB (bs.take j) := by
  have e : bs.take j = bs.take i ++ (bs.take j).drop i := by
    have := List.take_append_drop i (bs.take j)
    rw [List.take_take, Nat.min_eq_left h] at this
    exact this.symm
  rw [e]
  unfold lenB boxesC
  simp
/-- A segment cut off behind j records at least: a beginning of them with those. -/
theorem torn_seg (R0 c : List Rc) (n j : Nat) (hok : ∀ r ∈ c, okRc r) (hch : Chain (R0 ++ c)) (hj : j ≤ c.length) (h : (segB (c.take j)).length ≤ n) : ∃ k, j ≤ k ∧ k ≤ c.length ∧ takeR R0 (validC ((segB c).take n)).1 = R0 ++ c.take k := by
  obtain ⟨m, h1, h2, h3⟩ := cut_find (c.map encC) n
  rw [List.length_map] at h1 h3
  refine ⟨m, ?_, h1, ?_⟩
  · rcases Nat.lt_or_ge m j with hl | hl
    · rcases h3 with h3 | h3
      · omega
      · have h4 := lenB_mono (c.map encC) (m + 1) j hl
        have h5 : lenB ((c.map encC).take j) = (segB (c.take j)).length := by rw [← List.map_take]; rfl
        omega
    · exact hl
  · rw [valid_seg c n hok, cutB_take _ n m (by rw [List.length_map]; exact h1) h2 (by rw [List.length_map]; exact h3), ← List.map_take]
    exact take_chain (c.take m) R0 (fun r hr => hok r (List.mem_of_mem_take hr)) (by
      have e : R0 ++ c.take m = (R0 ++ c).take (R0.length + m) := by rw [List.take_length_add_append]
      rw [e]
      exact chain_take hch _)

/-! The disk's list of files, with a segment's at its end. -/
theorem withF_one (f : Fl) (d : Bool) (g : Fl) (r : List Fl) : withF f d (g :: r) = (if !d && !Op.bytesLess g.name f.name then [f] else []) ++ (if g.name = f.name then [] else [g]) ++ withF f (d || !Op.bytesLess g.name f.name) r := rfl
theorem withF_behind (f : Fl) (t : List Fl) : ∀ (l : List Fl), (∀ g ∈ l, Op.bytesLess g.name f.name = true ∧ g.name ≠ f.name) → withF f false (l ++ t) = l ++ withF f false t := by
  intro l
  induction l with
  | nil => intro _; rfl
  | cons g l ih =>
    intro h
    obtain ⟨h1, h2⟩ := h g List.mem_cons_self
    rw [List.cons_append, withF_one, h1, if_neg h2]
    show ([] ++ [g]) ++ withF f false (l ++ t) = _
    rw [ih fun q hq => h q (List.mem_cons_of_mem _ hq)]
    rfl
theorem withF_last (f g : Fl) (h : g.name = f.name) (hl : Op.bytesLess f.name f.name = false) : withF f false [g] = [f] := by
  rw [withF_one, h, hl, if_pos rfl]
  rfl
theorem lookF_behind (s : List UInt8) (t : List Fl) : ∀ (l : List Fl), (∀ g ∈ l, g.name ≠ s) → lookF s (l ++ t) = lookF s t := by
  intro l
  induction l with
  | nil => intro _; rfl
  | cons g l ih =>
    intro h
    have h1 := h g List.mem_cons_self
    have h2 := ih fun q hq => h q (List.mem_cons_of_mem _ hq)
    unfold lookF at h2 ⊢
    rw [List.cons_append, List.find?_cons, decide_eq_false h1]
    exact h2
theorem less_self (n : Nat) (h : n < 18446744073709551616) : Op.bytesLess (nameL n) (nameL n) = false := by rw [name_less n n h h]; exact decide_eq_false (Nat.lt_irrefl _)
theorem less_ne (a b : Nat) (ha : a < 18446744073709551616) (hb : b < 18446744073709551616) (h : a < b) : Op.bytesLess (nameL a) (nameL b) = true ∧ nameL a ≠ nameL b := by
  have h1 : Op.bytesLess (nameL a) (nameL b) = true := by rw [name_less a b ha hb]; exact decide_eq_true h
  refine ⟨h1, fun e => ?_⟩
  rw [e, less_self b hb] at h1
  cases h1
section
variable {fs : List Fl} {own : Nat} {pre : List (Nat × List UInt8)} {R0 cur : List Rc}
theorem HeldJ.ahead (h : HeldJ fs own pre R0 cur) : ∀ g ∈ pre.map sgF, Op.bytesLess g.name (nameL own) = true ∧ g.name ≠ nameL own := by
  intro g hg
  obtain ⟨p, hp, rfl⟩ := List.mem_map.1 hg
  have h1 := h.less p hp
  have h2 := h.small
  exact less_ne p.1 own (by omega) (by omega) h1.2
/-- Records appended to its own segment, not sure yet. -/
theorem HeldJ.append (h : HeldJ fs own pre R0 cur) (new : List Rc) (s : Nat) : withF ⟨nameL own, (fileF (nameL own) fs).data ++ segB new, s⟩ false fs = pre.map sgF ++ [⟨nameL own, segB (cur ++ new), s⟩] := by
  have hl := less_self own (by have := h.small; omega)
  have h1 := h.ahead
  have h2 : lookF (nameL own) fs = lookF (nameL own) (if cur = [] then [] else [sgF (own, segB cur)]) := by rw [h.files]; exact lookF_behind _ _ _ fun g hg => (h1 g hg).2
  by_cases hc : cur = []
  · rw [if_pos hc] at h2
    have h3 : (fileF (nameL own) fs).data = [] := by unfold fileF; rw [h2]; rfl
    rw [h3, h.files, if_pos hc, withF_behind _ _ _ h1, hc]
    rfl
  · rw [if_neg hc] at h2
    have h3 : (fileF (nameL own) fs).data = segB cur := by
      unfold fileF
      rw [h2]
      unfold lookF
      rw [List.find?_cons, decide_eq_true (show (sgF (own, segB cur)).name = nameL own from rfl)]
      rfl
    rw [h3, h.files, if_neg hc, withF_behind _ _ _ h1, withF_last ⟨nameL own, segB cur ++ segB new, s⟩ (sgF (own, segB cur)) rfl hl, segB_app]
/-- Its own segment's file. -/
theorem HeldJ.own_file (h : HeldJ fs own pre R0 cur) : (fileF (nameL own) fs).data = segB cur := by
  have h1 := h.ahead
  have h2 : lookF (nameL own) fs = lookF (nameL own) (if cur = [] then [] else [sgF (own, segB cur)]) := by rw [h.files]; exact lookF_behind _ _ _ fun g hg => (h1 g hg).2
  unfold fileF
  rw [h2]
  by_cases hc : cur = []
  · rw [if_pos hc, hc]
    rfl
  · rw [if_neg hc]
    unfold lookF
    rw [List.find?_cons, decide_eq_true (show (sgF (own, segB cur)).name = nameL own from rfl)]
    rfl
/-- .. and sure. -/
theorem HeldJ.done (h : HeldJ fs own pre R0 cur) (new : List Rc) (hn : new ≠ []) (hok : ∀ r ∈ new, okRc r) (hch : Chain (R0 ++ (cur ++ new))) : HeldJ (pre.map sgF ++ [sgF (own, segB (cur ++ new))]) own pre R0 (cur ++ new) :=
  ⟨by rw [if_neg (by simp [hn])], h.rise, h.less, h.small, h.recs, fun r hr => by
    rw [← List.append_assoc, List.mem_append] at hr
    rcases hr with hr | hr
    · exact h.ok r hr
    · exact hok r hr, hch⟩
theorem cutF_sg (keep : Int) (p : Nat × List UInt8) : cutF keep (sgF p) = sgF p := by
  have h : leftF keep (sgF p) = p.2.length := by unfold leftF sgF; simp only; omega
  unfold cutF
  rw [h]
  unfold sgF
  simp
theorem cut_pre (keep : Int) (l : List (Nat × List UInt8)) : (l.map sgF).map (cutF keep) = l.map sgF := by
  rw [List.map_map]
  exact List.map_congr_left fun p _ => cutF_sg keep p
/-- A crash touches nothing of what is sure. -/
theorem HeldJ.crash (h : HeldJ fs own pre R0 cur) (keep : Int) : fs.map (cutF keep) = fs := by
  rw [h.files, List.map_append, cut_pre]
  split
  · rfl
  · rw [List.map_singleton, cutF_sg]
/-- Its own segment left for the next one. -/
theorem HeldJ.left (h : HeldJ fs own pre R0 cur) (hc : cur ≠ []) (hs : own + 1 < 9223372036854775808) (h1 : 1 ≤ own) : HeldJ fs (own + 1) (pre ++ [(own, segB cur)]) (R0 ++ cur) [] := by
  refine ⟨by rw [h.files, if_neg hc, if_pos rfl, List.map_append, List.append_nil]; rfl, ?_, fun p hp => ?_, hs, ?_, by rw [List.append_nil]; exact h.ok, by rw [List.append_nil]; exact h.chain⟩
  · rw [List.map_append, List.map_singleton, List.pairwise_append]
    refine ⟨h.rise, List.pairwise_singleton _ _, fun a ha b hb => ?_⟩
    obtain ⟨p, hp, rfl⟩ := List.mem_map.1 ha
    rw [List.mem_singleton.1 hb]
    exact (h.less p hp).2
  · rcases List.mem_append.1 hp with hp | hp
    · have := h.less p hp
      exact ⟨this.1, by omega⟩
    · rw [List.mem_singleton.1 hp]
      exact ⟨h1, Nat.lt_succ_self _⟩
  · rw [List.map_append, List.map_singleton, segsR_snoc, h.recs]
    have hok : ∀ r ∈ cur, okRc r := fun r hr => h.ok r (List.mem_append_right _ hr)
    obtain ⟨k, k1, k2, k3⟩ := torn_seg R0 cur (segB cur).length cur.length hok h.chain (Nat.le_refl _) (by rw [List.take_length]; exact Nat.le_refl _)
    rw [List.take_length] at k3
    rw [k3, List.take_of_length_le (by omega)]
/-- Appended, then a crash ahead of the sync: a beginning of what was appended. -/
theorem HeldJ.torn (h : HeldJ fs own pre R0 cur) (new : List Rc) (hok : ∀ r ∈ new, okRc r) (hch : Chain (R0 ++ (cur ++ new))) (keep : Int) (hs : own + 1 < 9223372036854775808) (h1 : 1 ≤ own) :
    ∃ D k, k ≤ new.length ∧ (pre.map sgF ++ [(⟨nameL own, segB (cur ++ new), (segB cur).length⟩ : Fl)]).map (cutF keep) = (pre ++ [(own, D)]).map sgF ∧ HeldJ ((pre ++ [(own, D)]).map sgF) (own + 1) (pre ++ [(own, D)]) (R0 ++ (cur ++ new.take k)) [] := by
  obtain ⟨n, hn⟩ : ∃ n, leftF keep ⟨nameL own, segB (cur ++ new), (segB cur).length⟩ = n := ⟨_, rfl⟩
  have hle : (segB cur).length ≤ n ∧ n ≤ (segB (cur ++ new)).length := by
    have : (segB cur).length ≤ (segB (cur ++ new)).length := by rw [segB_app, List.length_append]; omega
    unfold leftF at hn
    simp only at hn
    omega
  have hoka : ∀ r ∈ cur ++ new, okRc r := fun r hr => by
    rcases List.mem_append.1 hr with hr | hr
    · exact h.ok r (List.mem_append_right _ hr)
    · exact hok r hr
  obtain ⟨k, k1, k2, k3⟩ := torn_seg R0 (cur ++ new) n cur.length hoka hch (by simp) (by rw [List.take_left]; exact hle.1)
  have e : (cur ++ new).take k = cur ++ new.take (k - cur.length) := by rw [List.take_append, List.take_of_length_le k1]
  rw [e] at k3
  have hlen : ((segB (cur ++ new)).take n).length = n := by rw [List.length_take]; omega
  refine ⟨(segB (cur ++ new)).take n, k - cur.length, by rw [List.length_append] at k2; omega, ?_, ⟨by rw [if_pos rfl, List.append_nil], ?_, fun p hp => ?_, hs, ?_, ?_, ?_⟩⟩
  · rw [List.map_append, cut_pre, List.map_append, List.map_singleton, List.map_singleton]
    unfold cutF
    rw [hn]
    unfold sgF
    simp only
    rw [hlen]
  · rw [List.map_append, List.map_singleton, List.pairwise_append]
    refine ⟨h.rise, List.pairwise_singleton _ _, fun a ha b hb => ?_⟩
    obtain ⟨p, hp, rfl⟩ := List.mem_map.1 ha
    rw [List.mem_singleton.1 hb]
    exact (h.less p hp).2
  · rcases List.mem_append.1 hp with hp | hp
    · have := h.less p hp
      exact ⟨this.1, by omega⟩
    · rw [List.mem_singleton.1 hp]
      exact ⟨h1, Nat.lt_succ_self _⟩
  · rw [List.map_append, List.map_singleton, segsR_snoc, h.recs, k3]
  · rw [List.append_nil]
    intro r hr
    rcases List.mem_append.1 hr with hr | hr
    · exact h.ok r (List.mem_append_left _ hr)
    · rcases List.mem_append.1 hr with hr | hr
      · exact h.ok r (List.mem_append_right _ hr)
      · exact hok r (List.mem_of_mem_take hr)
  · rw [List.append_nil]
    have e2 : R0 ++ (cur ++ new.take (k - cur.length)) = (R0 ++ (cur ++ new)).take (R0.length + k) := by rw [List.take_length_add_append, e]
    rw [e2]
    exact chain_take hch _
/-- The segments' bytes, by rising numbers. -/
def segsD (fs : List Fl) : List (Nat × List UInt8) := fs.filterMap fun f => if (numC f.name).2 then some ((numC f.name).1, f.data) else none
theorem segsD_sg (l : List (Nat × List UInt8)) (h : ∀ p ∈ l, p.1 < 18446744073709551616) : segsD (l.map sgF) = l := by
  induction l with
  | nil => rfl
  | cons p l ih =>
    have h1 := num_name p.1 (h p List.mem_cons_self)
    have h2 := ih fun q hq => h q (List.mem_cons_of_mem _ hq)
    unfold segsD at h2 ⊢
    rw [List.map_cons, List.filterMap_cons, h2]
    have e : (sgF p).name = nameL p.1 := rfl
    rw [e, h1]
    rfl
/-- All its segments. -/
def allJ (own : Nat) (pre : List (Nat × List UInt8)) (cur : List Rc) : List (Nat × List UInt8) := pre ++ (if cur = [] then [] else [(own, segB cur)])
theorem HeldJ.all (h : HeldJ fs own pre R0 cur) : fs = (allJ own pre cur).map sgF ∧ segsD fs = allJ own pre cur ∧ segsR [] ((segsD fs).map Prod.snd) = R0 ++ cur := by
  have e : fs = (allJ own pre cur).map sgF := by
    rw [h.files]
    unfold allJ
    rw [List.map_append]
    split <;> rfl
  have e2 : segsD fs = allJ own pre cur := by
    rw [e]
    refine segsD_sg _ fun p hp => ?_
    have hs := h.small
    unfold allJ at hp
    rcases List.mem_append.1 hp with hp | hp
    · have := h.less p hp; omega
    · split at hp
      · cases hp
      · rw [List.mem_singleton.1 hp]; show own < _; omega
  refine ⟨e, e2, ?_⟩
  rw [e2]
  unfold allJ
  rw [List.map_append, ]
  by_cases hc : cur = []
  · rw [if_pos hc, List.map_nil, List.append_nil, h.recs, hc, List.append_nil]
  · rw [if_neg hc, List.map_singleton, segsR_snoc, h.recs]
    have hok : ∀ r ∈ cur, okRc r := fun r hr => h.ok r (List.mem_append_right _ hr)
    obtain ⟨k, k1, k2, k3⟩ := torn_seg R0 cur (segB cur).length cur.length hok h.chain (Nat.le_refl _) (by rw [List.take_length]; exact Nat.le_refl _)
    rw [List.take_length] at k3
    rw [k3, List.take_of_length_le (by omega)]
end

end Go.Proofs.YthjikbhjciphiaaGreatDoor

/-
  A commit on a disk: what it answers, and what it leaves. No program stands here.
-/
namespace Go.Proofs.YthjikbhjciphiaaGreatDoor
open Go.RowKit
set_option linter.unusedVariables false
set_option linter.unusedSimpArgs false

theorem hex_tar (k n : Nat) : allR tarR (hexL k n) = true := by
  induction k with
  | zero => rfl
  | succ k ih =>
    have h := (hd_ten ⟨n / 16 ^ k % 16, Nat.mod_lt _ (by decide)⟩).2
    unfold allR at ih ⊢
    show (_ && _) = true
    rw [Bool.and_eq_true]
    exact ⟨h, ih⟩
/-- A segment's name may be a file's. -/
theorem target_name (n : Nat) : targetB (nameL n) = true := by
  have h := hex_tar 16 n
  unfold targetB
  rw [nameL_len]
  unfold nameL
  unfold allR at h ⊢
  rw [List.all_cons, h]
  rfl
theorem begin_cases (m : Dk) (h : m.down = false) : (beginD m = (false, crashD m.keep m) ∧ m.armed = true) ∨ ∃ m1 : Dk, beginD m = (true, m1) ∧ m1.files = m.files ∧ m1.cap = m.cap ∧ m1.down = false ∧ m1.armed = m.armed := by
  unfold beginD
  rw [h]
  by_cases hc : (m.armed && decide (m.left = 0)) = true
  · left
    rw [if_neg (by decide), if_pos hc]
    exact ⟨rfl, by rw [Bool.and_eq_true] at hc; exact hc.1⟩
  · right
    rw [if_neg (by decide), if_neg hc]
    exact ⟨_, rfl, rfl, rfl, rfl, rfl⟩
/-- An Append to a disk that is up. -/
theorem do_append (m : Dk) (h : m.down = false) (name data : List UInt8) (ht : targetB name = true) (hf : m.files.length < 1024) :
    (doD m ⟨1, name, [], data, 0, 0⟩ = (19, crashD m.keep m) ∧ m.armed = true) ∨
    (∃ m1 : Dk, doD m ⟨1, name, [], data, 0, 0⟩ = (10, m1) ∧ m1.files = m.files ∧ m1.cap = m.cap ∧ m1.down = false ∧ m1.armed = m.armed ∧ m.cap - sizeF m.files < (data.length : Int)) ∨
    (∃ m1 : Dk, doD m ⟨1, name, [], data, 0, 0⟩ = (0, m1) ∧ m1.files = withF ⟨name, (fileF name m.files).data ++ data, (fileF name m.files).sure⟩ false m.files ∧ m1.cap = m.cap ∧ m1.down = false ∧ m1.armed = m.armed ∧ ¬ m.cap - sizeF m.files < (data.length : Int)) := by
  have e : doD m ⟨1, name, [], data, 0, 0⟩ = if (beginD m).1 then callD (beginD m).2 ⟨1, name, [], data, 0, 0⟩ else (19, (beginD m).2) := by
    unfold doD isCall
    simp
  rw [e]
  rcases begin_cases m h with ⟨hb, harm⟩ | ⟨m1, hb, h1, h2, h3, h4⟩
  · left
    rw [hb]
    exact ⟨rfl, harm⟩
  · right
    rw [hb]
    have e3 : (if (true, m1).1 then callD (true, m1).2 ⟨1, name, [], data, 0, 0⟩ else (19, (true, m1).2)) = callD m1 ⟨1, name, [], data, 0, 0⟩ := rfl
    rw [e3]
    unfold callD
    rw [ht, h1, h2]
    simp only [Bool.not_true, Bool.false_or]
    rw [if_neg (by simp)]
    first | rw [if_pos rfl] | rw [if_pos trivial]
    rw [decide_eq_false (show ¬ 1024 ≤ m.files.length by omega), Bool.and_false, if_neg (by decide)]
    by_cases hr : m.cap - (sizeF m.files : Int) < (data.length : Int)
    · left
      rw [if_pos hr]
      exact ⟨m1, rfl, h1, h2, h3, h4, hr⟩
    · right
      rw [if_neg hr]
      exact ⟨_, rfl, rfl, h2, h3, h4, hr⟩
/-- A Sync of a file that is there. -/
theorem do_sync (m : Dk) (h : m.down = false) (name : List UInt8) (ht : targetB name = true) (hf : (lookF name m.files).isSome = true) :
    (doD m ⟨2, name, [], [], 0, 0⟩ = (19, crashD m.keep m) ∧ m.armed = true) ∨
    ∃ m1 : Dk, doD m ⟨2, name, [], [], 0, 0⟩ = (0, m1) ∧ m1.files = withF ⟨name, (fileF name m.files).data, (fileF name m.files).data.length⟩ false m.files ∧ m1.cap = m.cap ∧ m1.down = false ∧ m1.armed = m.armed := by
  have e : doD m ⟨2, name, [], [], 0, 0⟩ = if (beginD m).1 then callD (beginD m).2 ⟨2, name, [], [], 0, 0⟩ else (19, (beginD m).2) := by
    unfold doD isCall
    simp
  rw [e]
  rcases begin_cases m h with ⟨hb, harm⟩ | ⟨m1, hb, h1, h2, h3, h4⟩
  · left
    rw [hb]
    exact ⟨rfl, harm⟩
  · right
    rw [hb]
    have e3 : (if (true, m1).1 then callD (true, m1).2 ⟨2, name, [], [], 0, 0⟩ else (19, (true, m1).2)) = callD m1 ⟨2, name, [], [], 0, 0⟩ := rfl
    rw [e3]
    unfold callD
    rw [ht, h1, hf]
    simp only [Bool.not_true, Bool.false_or]
    rw [if_neg (by simp), if_neg (by decide), if_neg (by decide)]
    first | rw [if_pos rfl] | rw [if_pos trivial]
    exact ⟨_, rfl, rfl, h2, h3, h4⟩

/-- A commit of records to a segment: the disk's answer, and the disk behind it. -/
def commitD (m : Dk) (own : Nat) (new : List Rc) : Int × Dk :=
  if new = [] then (0, m)
  else if (doD m ⟨1, nameL own, [], segB new, 0, 0⟩).1 ≠ 0 then doD m ⟨1, nameL own, [], segB new, 0, 0⟩
  else doD (doD m ⟨1, nameL own, [], segB new, 0, 0⟩).2 ⟨2, nameL own, [], [], 0, 0⟩

theorem look_last (own : Nat) (h : own < 9223372036854775808) (l : List Fl) (f : Fl) (hl : ∀ g ∈ l, g.name ≠ nameL own) (hf : f.name = nameL own) : lookF (nameL own) (l ++ [f]) = some f := by
  rw [lookF_behind _ _ _ hl]
  unfold lookF
  rw [List.find?_cons, decide_eq_true hf]

/-- How many calls there were, what else stands. -/
def OkX (k : Nat) (m : Dk) : Prop := m.calls ≤ k ∧ m.left < 18446744073709551616 ∧ 0 ≤ m.cap ∧ m.cap < 9223372036854775808
theorem OkX.begins {k : Nat} {m : Dk} (h : OkX k m) : OkX (k + 1) (beginD m).2 := by
  obtain ⟨h1, h2, h3⟩ := h
  unfold beginD
  split
  · exact ⟨by show m.calls ≤ _; omega, h2, h3⟩
  · split
    · exact ⟨by show m.calls ≤ _; omega, h2, h3⟩
    · exact ⟨by show m.calls + 1 ≤ _; omega, by show (if m.armed = true then m.left - 1 else m.left) < _; split <;> omega, h3⟩
theorem OkX.calls {k : Nat} {m : Dk} (s : Sp) (h : OkX k m) : OkX k (callD m s).2 := by
  unfold callD
  split
  · exact h
  split
  · split
    · exact h
    split <;> exact h
  split
  · exact h
  split
  · exact h
  split <;> exact h
theorem OkX.does {k : Nat} {m : Dk} (s : Sp) (h : OkX k m) (hk : isCall s = true) : OkX (k + 1) (doD m s).2 := by
  have e : doD m s = if (beginD m).1 then callD (beginD m).2 s else (19, (beginD m).2) := by
    have h5 : s.kind ≠ 5 ∧ s.kind ≠ 6 ∧ s.kind ≠ 7 := by
      unfold isCall at hk
      rw [Bool.and_eq_true, decide_eq_true_eq, decide_eq_true_eq] at hk
      exact ⟨by omega, by omega, by omega⟩
    unfold doD
    rw [if_neg h5.1, if_neg h5.2.1, if_neg h5.2.2, hk]
    rfl
  rw [e]
  split
  · exact h.begins.calls s
  · exact h.begins
theorem OkX.commit {k : Nat} {m : Dk} (own : Nat) (new : List Rc) (h : OkX k m) : OkX (k + 2) (commitD m own new).2 := by
  have hm : ∀ {a b : Nat} {x : Dk}, OkX a x → a ≤ b → OkX b x := fun hx hab => ⟨Nat.le_trans hx.1 hab, hx.2⟩
  unfold commitD
  split
  · exact hm h (by omega)
  split
  · exact hm (h.does _ rfl) (by omega)
  · exact (h.does _ rfl).does _ rfl

/-- What a commit does. -/
theorem commit_does {m : Dk} {own : Nat} {pre : List (Nat × List UInt8)} {R0 cur : List Rc} (h : HeldJ m.files own pre R0 cur) (hd : m.down = false) (hf : m.files.length < 1024) (new : List Rc) (hn : new ≠ []) :
    ((commitD m own new).1 = 0 ∧ (commitD m own new).2.down = false ∧ (commitD m own new).2.cap = m.cap ∧ (commitD m own new).2.armed = m.armed ∧ (commitD m own new).2.files = pre.map sgF ++ [sgF (own, segB (cur ++ new))] ∧ ¬ m.cap - sizeF m.files < ((segB new).length : Int)) ∨
    ((commitD m own new).1 = 10 ∧ (commitD m own new).2.down = false ∧ (commitD m own new).2.cap = m.cap ∧ (commitD m own new).2.armed = m.armed ∧ (commitD m own new).2.files = m.files ∧ m.cap - sizeF m.files < ((segB new).length : Int)) ∨
    ((commitD m own new).1 = 19 ∧ m.armed = true ∧ (commitD m own new).2.down = true ∧ (commitD m own new).2.cap = m.cap ∧ ((commitD m own new).2.files = m.files ∨ ∃ keep, (commitD m own new).2.files = (pre.map sgF ++ [(⟨nameL own, segB (cur ++ new), (segB cur).length⟩ : Fl)]).map (cutF keep))) := by
  have hsm := h.small
  have hs : (fileF (nameL own) m.files).sure = (segB cur).length := by
    unfold fileF
    rw [h.files, lookF_behind _ _ _ fun g hg => (h.ahead g hg).2]
    by_cases hc : cur = []
    · rw [if_pos hc, hc]; rfl
    · rw [if_neg hc]
      unfold lookF
      rw [List.find?_cons, decide_eq_true (show (sgF (own, segB cur)).name = nameL own from rfl)]
      rfl
  unfold commitD
  rw [if_neg hn]
  rcases do_append m hd (nameL own) (segB new) (target_name own) hf with ⟨ha, harm⟩ | ⟨m1, ha, h1, h2, h3, h5, h4⟩ | ⟨m1, ha, h1, h2, h3, h5, h4⟩
  · right; right
    rw [ha]
    refine ⟨rfl, harm, rfl, rfl, .inl ?_⟩
    show m.files.map (cutF m.keep) = m.files
    exact h.crash m.keep
  · right; left
    rw [ha]
    exact ⟨rfl, h3, h2, h5, h1, h4⟩
  · rw [hs, h.append new] at h1
    rw [ha]
    rw [if_neg (by simp)]
    have hahead : ∀ g ∈ pre.map sgF, Op.bytesLess g.name (nameL own) = true ∧ g.name ≠ nameL own := h.ahead
    have hlk := look_last own hsm (pre.map sgF) ⟨nameL own, segB (cur ++ new), (segB cur).length⟩ (fun g hg => (hahead g hg).2) rfl
    rcases do_sync m1 h3 (nameL own) (target_name own) (by rw [h1, hlk]; rfl) with ⟨hb, harm⟩ | ⟨m2, hb, k1, k2, k3, k4⟩
    · right; right
      rw [hb]
      refine ⟨rfl, h5.symm.trans harm, rfl, h2, .inr ⟨m1.keep, ?_⟩⟩
      show m1.files.map (cutF m1.keep) = _
      rw [h1]
    · left
      rw [hb]
      refine ⟨rfl, k3, k2.trans h2, k4.trans h5, ?_, h4⟩
      show m2.files = _
      rw [k1]
      have e : fileF (nameL own) m1.files = ⟨nameL own, segB (cur ++ new), (segB cur).length⟩ := by
        unfold fileF
        rw [h1, hlk]
        rfl
      rw [e, h1, withF_behind _ _ _ hahead, withF_last ⟨nameL own, segB (cur ++ new), (segB (cur ++ new)).length⟩ ⟨nameL own, segB (cur ++ new), (segB cur).length⟩ rfl (less_self own (by omega))]
      rfl

end Go.Proofs.YthjikbhjciphiaaGreatDoor

/-
  The reference's disk: Append. Made by wip/tools/gendkj.py.
-/
namespace Go.Proofs.YthjikbhjciphiaaGreatDoor
open Go.RowKit
set_option linter.unusedVariables false
set_option linter.unusedSimpArgs false

theorem step_append_byt {P : Program} {w : World} {ops : Array Oper} {o : Oper} {a : Act} {K : Act → World → Prop} {Q : Exit → Act → World → Prop} {E : Prop} (hgd : o.guard = none) (s x : Operand) (t : TypeId)
    (ho : o.op = .call { callee := .builtin .append, args := #[s, x], argTypes := #[t, t] })
    (base : Nat) (e : TypeId) (i : TypeInfo) (z : Value) (ht : P.underlying t = some (.slice e)) (hi : P.info? e = some i) (hz : i.zero = some z)
    (hsize : i.size = 1) (hby : i.bytes = 1) (hzs : z.cells.size = 1)
    (v : Value) (n : Nat) (xs : List Value) (hs : a.eval s = v) (hown : w.ownsRow base e 1 v n xs)
    (B : Nat) (A : Option Addr) (m c : Nat) (l : List UInt8) (hx : a.eval x = .slice A m c) (hr : Byt w B A m l) (hnil : A = none → c = 0)
    (h47 : n + m ≤ 140737488355328) (hbase : base ≤ w.heap.size)
    (h : ∀ v' w', w'.ownsRow base e 1 v' (n + m) (xs ++ l.map bv) → w.grownBy w' v.ownBlock → K (a.put o.dst v') w') :
    if Region.wanted o (yielded ops a.tmps) = true then Oper.wp P o a w K Q else E := by
  have hw : Region.wanted o (yielded ops a.tmps) = true := by simp [Region.wanted, hgd]
  rw [if_pos hw]
  obtain ⟨v', w', hr, h2, h3⟩ := run_append_byt (P := P) w base t o.type e i z ht hi hz hsize hby hzs v n xs hown B A m c l hr hnil h47 hbase
  unfold Oper.wp execOp
  simp only [ho, resolve, invoke, builtin, Sem.run_bind, Sem.run_pure, Result.andThen_ok, List.map_toArray, List.map_cons, List.map_nil, hs, hx, hr]
  exact h v' w' h2 h3

theorem BytS.of_own {w : World} {base : Nat} {e : TypeId} {A : Option Addr} {n c : Nat} {l : List UInt8} {S : Nat → Prop} (h : w.ownsRow base e 1 (.slice A n c) n (l.map bv)) (hS : ∀ k, S k → k < base) : BytS w S A n l := by
  refine ⟨by have := h.1; simpa using this, fun hn => ?_⟩
  rcases h.2 with ⟨_, h0⟩ | ⟨g, cap, cur, hv, hg, hh, _⟩
  · omega
  · injection hv with hA
    subst hA
    refine ⟨g, 0, rfl, fun x => by have := hS g x; omega, fun j x hx => ?_⟩
    have := h.cells (g := g) rfl j (bv x) (by rw [List.getElem?_map, hx]; rfl)
    rw [Addr.add_lit] at this
    exact this

theorem fileF_none (l : List UInt8) (fs : List Fl) (h : lookF l fs = none) : fileF l fs = ⟨l, [], 0⟩ := by unfold fileF; rw [h]; rfl
theorem fileF_some (l : List UInt8) (fs : List Fl) (f : Fl) (h : lookF l fs = some f) : fileF l fs = f := by unfold fileF; rw [h]; rfl
theorem call_app (m : Dk) (s : Sp) (hn : targetB s.name = true) (hK : s.kind = 1) (hf : (!(lookF s.name m.files).isSome && decide (1024 ≤ m.files.length)) = false) (hc : ¬ m.cap - sizeF m.files < (s.data.length : Int)) :
    callD m s = (0, withFs m (withF ⟨s.name, (fileF s.name m.files).data ++ s.data, (fileF s.name m.files).sure⟩ false m.files)) := by
  unfold callD
  rw [hn, hK, hf, if_neg hc]
  simp
theorem call_full (m : Dk) (s : Sp) (hn : targetB s.name = true) (hK : s.kind = 1) (hf : (!(lookF s.name m.files).isSome && decide (1024 ≤ m.files.length)) = false) (hc : m.cap - sizeF m.files < (s.data.length : Int)) :
    callD m s = (10, m) := by
  unfold callD
  rw [hn, hK, hf, if_pos hc]
  simp
theorem call_room (m : Dk) (s : Sp) (hn : targetB s.name = true) (hK : s.kind = 1) (hf : (!(lookF s.name m.files).isSome && decide (1024 ≤ m.files.length)) = true) :
    callD m s = (15, m) := by
  unfold callD
  rw [hn, hK, hf]
  simp

end Go.Proofs.YthjikbhjciphiaaGreatDoor

/-
  The reference's disk: Append to a file that is there. Made by wip/tools/mkk.py.
-/
namespace Go.Proofs.YthjikbhjciphiaaGreatDoor
open Go.RowKit
set_option linter.unusedVariables false
set_option linter.unusedSimpArgs false

end Go.Proofs.YthjikbhjciphiaaGreatDoor

/-
  The reference's disk: Sync, Remove. Made by wip/tools/mkl.py.
-/
namespace Go.Proofs.YthjikbhjciphiaaGreatDoor
open Go.RowKit
set_option linter.unusedVariables false
set_option linter.unusedSimpArgs false

theorem call_sync (m : Dk) (s : Sp) (f : Fl) (hn : targetB s.name = true) (hK : s.kind = 2) (hlo : lookF s.name m.files = some f) :
    callD m s = (0, withFs m (withF ⟨s.name, f.data, f.data.length⟩ false m.files)) := by
  unfold callD fileF
  rw [hn, hK, hlo]
  simp
theorem call_rem (m : Dk) (s : Sp) (f : Fl) (hn : targetB s.name = true) (hK : s.kind = 4) (hlo : lookF s.name m.files = some f) :
    callD m s = (0, withFs m (withoutF s.name m.files)) := by
  unfold callD
  rw [hn, hK, hlo]
  simp
theorem call_ren (m : Dk) (s : Sp) (f : Fl) (hn : targetB s.name = true) (htt : targetB s.to = true) (hK : s.kind = 3) (hlo : lookF s.name m.files = some f) :
    callD m s = (0, withFs m (withF ⟨s.to, f.data, f.sure⟩ false (withoutF s.name m.files))) := by
  unfold callD fileF
  rw [hn, htt, hK, hlo]
  simp

end Go.Proofs.YthjikbhjciphiaaGreatDoor
