/-
  What WalKeeps keeps between two steps. No program stands here.
-/
import Derived.Test.YthjikbhjciphiaaGreatDoorZz30
namespace Go.Proofs.YthjikbhjciphiaaGreatDoor
open Go.RowKit
set_option linter.unusedVariables false
set_option linter.unusedSimpArgs false

theorem size_cut (keep : Int) (l : List Fl) : sizeF (l.map (cutF keep)) ≤ sizeF l := by
  induction l with
  | nil => exact Nat.le_refl _
  | cons f r ih =>
    rw [List.map_cons, sizeF_cons, sizeF_cons]
    have e3 : (cutF keep f).data.length ≤ f.data.length := by
      show (f.data.take _).length ≤ _
      rw [List.length_take]
      omega
    omega
theorem HeldJ.count {fs : List Fl} {own : Nat} {pre : List (Nat × List UInt8)} {R0 cur : List Rc} (h : HeldJ fs own pre R0 cur) (h1 : 1 ≤ own) : fs.length ≤ own := by
  have key : ∀ (l : List Nat) (b : Nat), l.Pairwise (· < ·) → (∀ x ∈ l, b ≤ x ∧ x < own) → l.length + b ≤ max own b := by
    intro l
    induction l with
    | nil => intro b _ _; simp; omega
    | cons x l ih =>
      intro b hp hx
      have h3 := ih (x + 1) (List.pairwise_cons.1 hp).2 fun y hy => ⟨(List.pairwise_cons.1 hp).1 y hy, (hx y (List.mem_cons_of_mem _ hy)).2⟩
      have h4 := hx x List.mem_cons_self
      rw [List.length_cons]
      omega
  have h3 := key (pre.map Prod.fst) 1 h.rise fun x hx => by
    obtain ⟨p, hp, rfl⟩ := List.mem_map.1 hx
    exact h.less p hp
  rw [List.length_map] at h3
  rw [h.files, List.length_append, List.length_map]
  split <;> simp <;> omega
theorem commit_size {m : Dk} {own : Nat} {pre : List (Nat × List UInt8)} {R0 cur : List Rc} (h : HeldJ m.files own pre R0 cur) (hd : m.down = false) (hf : m.files.length < 1024) (new : List Rc) : sizeF (commitD m own new).2.files ≤ sizeF m.files + (segB new).length := by
  by_cases hn : new = []
  · unfold commitD
    rw [if_pos hn]
    exact Nat.le_add_right _ _
  have hsz : ∀ s, sizeF (pre.map sgF ++ [(⟨nameL own, segB (cur ++ new), s⟩ : Fl)]) ≤ sizeF m.files + (segB new).length := by
    intro s
    rw [h.files]
    unfold sizeF
    rw [List.map_append, List.map_append, List.sum_append, List.sum_append, segB_app]
    split
    · next hc => rw [hc]; simp [segB_nil]
    · simp [sgF]; omega
  rcases commit_does h hd hf new hn with ⟨_, _, _, _, k4, _⟩ | ⟨_, _, _, _, k4, _⟩ | ⟨_, _, _, _, k4⟩
  · rw [k4]
    exact hsz _
  · rw [k4]
    exact Nat.le_add_right _ _
  · rcases k4 with k4 | ⟨keep, k4⟩
    · rw [k4]
      exact Nat.le_add_right _ _
    · rw [k4]
      exact Nat.le_trans (size_cut _ _) (hsz _)
/-- A disk behind a crash, or that is to crash: what is asked of it. -/
theorem Left.okJ {m : Dk} {f sure b : Nat} {put : List Rc} (h : Left m f put sure b) (hb : b ≤ 190) (hx : OkX 180 m) (hs : sizeF m.files ≤ 20000) : OkJ m := by
  obtain ⟨own, pre, k, h1, h2, h3⟩ := h
  refine ⟨hx, ?_, hs, _, _, _, _, h1⟩
  by_cases h0 : 1 ≤ own
  · have := h1.count h0
    omega
  · have hp : pre = [] := by
      cases pre with
      | nil => rfl
      | cons p t => have := h1.less p List.mem_cons_self; omega
    rw [h1.files, hp]
    simp

/-- What stands of the disk and the journal behind i steps: sizes. -/
structure Meas (m : Dk) (bl i : Nat) : Prop where
  cap : m.cap = 1048576
  size : sizeF m.files + bl ≤ 56 * i
  x : OkX (2 * i) m
theorem Meas.mono {m : Dk} {bl i j : Nat} (h : Meas m bl i) (hj : i ≤ j) : Meas m bl j := ⟨h.cap, by have := h.size; omega, ⟨by have := h.x.1; omega, h.x.2⟩⟩
theorem Meas.less {m : Dk} {bl bl' i : Nat} (h : Meas m bl i) (hb : bl' ≤ bl) : Meas m bl' i := ⟨h.cap, by have := h.size; omega, h.x⟩
theorem Meas.crash {m : Dk} {bl i : Nat} (h : Meas m bl i) (keep : Int) : Meas (crashD keep m) bl i := by
  refine ⟨h.cap, ?_, ⟨h.x.1, h.x.2.1, h.x.2.2⟩⟩
  have h1 := size_cut keep m.files
  have h2 := h.size
  show sizeF (m.files.map (cutF keep)) + bl ≤ _
  omega
theorem Meas.okx {m : Dk} {bl i : Nat} (h : Meas m bl i) (hi : i ≤ 90) : OkX 180 m := ⟨by have := h.x.1; omega, h.x.2⟩
theorem Meas.okJ {m : Dk} {j : Jn} {f sure i bl : Nat} {put : List Rc} (h : Meas m bl i) (hJ : JS m j f put sure) (hi : i ≤ 90) (ho : j.own ≤ 190) : OkJ m := hJ.okJ ho (h.okx hi) (by have := h.size; omega)

section
variable {m : Dk} {j : Jn} {f sure i : Nat} {put : List Rc}
/-- A commit, with room. -/
theorem keep_commit (hJ : JS m j f put sure) (hM : Meas m (segB j.buf).length i) (hi : i ≤ 80) (ho : j.own ≤ 100) :
    ((commitJ m j).1 = 0 ∧ JS (commitJ m j).2.1 (commitJ m j).2.2 f put put.length ∧ Meas (commitJ m j).2.1 (segB (commitJ m j).2.2.buf).length (i + 1) ∧ (commitJ m j).2.2.own ≤ j.own + 1) ∨
    ((commitJ m j).1 = 19 ∧ (commitJ m j).2.1.down = true ∧ Left (commitJ m j).2.1 f put sure (j.own + 1) ∧ Meas (commitJ m j).2.1 0 (i + 1)) := by
  by_cases hn : j.buf = []
  · left
    have e : commitJ m j = (0, m, j) := by
      unfold commitJ commitD
      rw [if_pos hn]
      simp [hn]
    have hbl := hJ.blen
    rw [hn] at hbl
    have hle := hJ.le
    have hs : sure = put.length := by simp at hbl; omega
    rw [e]
    exact ⟨rfl, by rw [← hs]; exact hJ, hM.mono (by omega), by show j.own ≤ _; omega⟩
  · have hx2 : OkX (2 * (i + 1)) (commitJ m j).2.1 := by
      have := OkX.commit j.own j.buf hM.x
      exact this
    obtain ⟨pre, R0, cur, hH, _⟩ := hJ.held
    have hfl := hJ.files (by omega)
    have hsz := commit_size hH hJ.up (by omega) j.buf
    have hms := hM.size
    have hcap := hM.cap
    rcases hJ.commit (by omega) hn with ⟨c0, hJ5, ha5, hcap5, ho5, hs5, hr5⟩ | ⟨c0, hJ5, hj5, ha5, hcap5, hf5, hr⟩ | ⟨c19, harm, hdn⟩
    · left
      refine ⟨c0, hJ5, ⟨hcap5.trans hcap, ?_, hx2⟩, ho5⟩
      have hbl := hJ5.blen
      rw [Nat.sub_self] at hbl
      rw [List.eq_nil_of_length_eq_zero hbl, segB_nil, hs5]
      simp
      omega
    · omega
    · right
      have k3 : (commitD m j.own j.buf).2.cap = m.cap := by
        rcases commit_does hH hJ.up (by omega) j.buf hn with h1 | h1 | h1
        · exact h1.2.2.1
        · exact h1.2.2.1
        · exact h1.2.2.2.1
      exact ⟨c19, hdn, hJ.torn (by omega) hn c19, ⟨k3.trans hcap, by show sizeF (commitD m j.own j.buf).2.files + 0 ≤ _; omega, hx2⟩⟩
end

theorem JS.start2 (next : Nat) (h : next ≤ 4611686018427387904) : JS (newDk 1048576) ⟨1, max next 1, max next 1 - 1, [], 0⟩ (max next 1) [] 0 :=
  ⟨⟨[], [], [], ⟨rfl, List.Pairwise.nil, fun _ h => (by cases h), (show (1 : Nat) < 9223372036854775808 by decide), rfl, fun _ h => (by cases h), fun i a b h => by simp at h⟩, rfl⟩, rfl, rfl, rfl, Nat.le_refl _, fun _ h => (by cases h), by omega, by show max next 1 + 0 < _; omega, Nat.le_refl _, rfl, rfl⟩
theorem meas_start : Meas (newDk 1048576) 0 0 := ⟨rfl, Nat.le_refl _, Nat.le_refl _, by decide, by decide, by decide⟩

end Go.Proofs.YthjikbhjciphiaaGreatDoor

/-
  What a drop leaves of a journal's records. No program stands here.
-/
namespace Go.Proofs.YthjikbhjciphiaaGreatDoor
open Go.RowKit
set_option linter.unusedVariables false
set_option linter.unusedSimpArgs false

def segP (x : Nat × List Rc) : Nat × List UInt8 := (x.1, segB x.2)
def flatP (parts : List (Nat × List Rc)) : List Rc := (parts.map Prod.snd).flatten
theorem flatP_cons (x : Nat × List Rc) (t : List (Nat × List Rc)) : flatP (x :: t) = x.2 ++ flatP t := by unfold flatP; simp
/-- A journal on a disk whose records were committed one by one: all its segments are whole. -/
structure DpJ (m : Dk) (j : Jn) (put : List Rc) (parts : List (Nat × List Rc)) (cur : List Rc) : Prop where
  held : HeldJ m.files j.own (parts.map segP) (flatP parts) cur
  all : flatP parts ++ cur = numR put 1
  full : ∀ x ∈ parts, x.2 ≠ []
  js : JS m j 1 put put.length
  arm : m.armed = false

theorem chain_pair : ∀ (l : List Rc), Chain l → l.Pairwise fun a b => a.seq < b.seq := by
  intro l
  induction l with
  | nil => intro _; exact List.Pairwise.nil
  | cons a t ih =>
    intro h
    have ht := ih (chain_tail h)
    refine List.pairwise_cons.2 ⟨fun y hy => ?_, ht⟩
    cases t with
    | nil => cases hy
    | cons b u =>
      have h1 := h 0 a b rfl rfl
      rcases List.mem_cons.1 hy with rfl | hy
      · omega
      · have := (List.pairwise_cons.1 ht).1 y hy
        omega
theorem take_seg (c : List Rc) (hok : ∀ r ∈ c, okRc r) (hch : Chain c) : takeR [] (validC (segB c)).1 = c := by
  obtain ⟨k, k1, k2, k3⟩ := torn_seg [] c (segB c).length c.length hok (by rw [List.nil_append]; exact hch) (Nat.le_refl _) (by rw [List.take_length]; exact Nat.le_refl _)
  rw [List.take_length, List.nil_append] at k3
  rw [k3, List.take_of_length_le (by omega)]
theorem dropK_seg (s : Nat) (x : Nat × List Rc) (hok : ∀ r ∈ x.2, okRc r) (hch : Chain x.2) (z : Rc) (hz : x.2.getLast? = some z) : dropK s (segP x) = decide (s < z.seq) := by
  unfold dropK
  show (match (takeR [] (validC (segB x.2)).1).getLast? with | some r => decide (s < r.seq) | none => false) = _
  rw [take_seg x.2 hok hch, hz]
theorem last_of (c : List Rc) (h : c ≠ []) : ∃ z, c.getLast? = some z ∧ z ∈ c := by
  cases hz : c.getLast? with
  | none => exact absurd (List.getLast?_eq_none_iff.1 hz) h
  | some z => exact ⟨z, rfl, List.mem_of_getLast? hz⟩
theorem last_ge (c : List Rc) (hp : c.Pairwise fun a b => a.seq < b.seq) (z : Rc) (hz : c.getLast? = some z) : ∀ r ∈ c, r.seq ≤ z.seq := by
  intro r hr
  obtain ⟨i, hi⟩ := List.mem_iff_getElem?.1 hr
  have hil := (List.getElem?_eq_some_iff.1 hi).1
  rw [List.getLast?_eq_getElem?] at hz
  by_cases e : i = c.length - 1
  · rw [e, hz] at hi
    rw [Option.some.inj hi]
    exact Nat.le_refl _
  · rw [List.pairwise_iff_getElem] at hp
    have h1 := hp i (c.length - 1) hil (by omega) (by omega)
    obtain ⟨_, e1⟩ := List.getElem?_eq_some_iff.1 hi
    obtain ⟨_, e2⟩ := List.getElem?_eq_some_iff.1 hz
    rw [e1, e2] at h1
    omega
theorem chain_right {a b : List Rc} (h : Chain (a ++ b)) : Chain b := by
  induction a with
  | nil => exact h
  | cons x t ih => exact ih (chain_tail h)
theorem parts_drop (s : Nat) : ∀ (parts : List (Nat × List Rc)), (∀ r ∈ flatP parts, okRc r) → Chain (flatP parts) → (∀ x ∈ parts, x.2 ≠ []) →
    ∃ d, d ≤ parts.length ∧ (parts.map segP).filter (dropK s) = (parts.drop d).map segP ∧ ∀ r ∈ flatP (parts.take d), r.seq ≤ s := by
  intro parts
  induction parts with
  | nil => intro _ _ _; exact ⟨0, Nat.le_refl _, rfl, fun r hr => by cases hr⟩
  | cons x t ih =>
    intro hok hch hne
    rw [flatP_cons] at hok hch
    have hokx : ∀ r ∈ x.2, okRc r := fun r hr => hok r (List.mem_append_left _ hr)
    have hchx : Chain x.2 := chain_left hch
    obtain ⟨z, hz, hzm⟩ := last_of x.2 (hne x List.mem_cons_self)
    have hpx := chain_pair x.2 hchx
    have hpall := chain_pair _ hch
    have hok' : ∀ r ∈ flatP t, okRc r := fun r hr => hok r (List.mem_append_right _ hr)
    have hch' := chain_right hch
    have hne' : ∀ y ∈ t, y.2 ≠ [] := fun y hy => hne y (List.mem_cons_of_mem _ hy)
    have hdx := dropK_seg s x hokx hchx z hz
    by_cases hsz : s < z.seq
    · refine ⟨0, Nat.zero_le _, ?_, fun r hr => by rw [List.take_zero] at hr; cases hr⟩
      rw [List.drop_zero]
      refine List.filter_eq_self.2 fun y hy => ?_
      obtain ⟨w, hw, rfl⟩ := List.mem_map.1 hy
      rcases List.mem_cons.1 hw with rfl | hw
      · rw [hdx]; exact decide_eq_true hsz
      · obtain ⟨z2, hz2, hz2m⟩ := last_of w.2 (hne' w hw)
        have hsub : ∀ r ∈ w.2, r ∈ flatP t := fun r hr => by
          unfold flatP
          exact List.mem_flatten.2 ⟨w.2, List.mem_map_of_mem hw, hr⟩
        have hchw : Chain w.2 := by
          obtain ⟨t1, t2, rfl⟩ := List.append_of_mem hw
          have e : flatP (t1 ++ w :: t2) = flatP t1 ++ (w.2 ++ flatP t2) := by unfold flatP; simp
          rw [e] at hch'
          exact chain_left (chain_right hch')
        rw [dropK_seg s w (fun r hr => hok' r (hsub r hr)) hchw z2 hz2]
        refine decide_eq_true ?_
        have := (List.pairwise_append.1 hpall).2.2 z hzm z2 (hsub z2 hz2m)
        omega
    · obtain ⟨d, h1, h2, h3⟩ := ih hok' hch' hne'
      refine ⟨d + 1, by rw [List.length_cons]; omega, ?_, fun r hr => ?_⟩
      · rw [List.map_cons, List.filter_cons, hdx, decide_eq_false hsz, if_neg (by decide), h2, List.drop_succ_cons]
      · rw [List.take_succ_cons, flatP_cons] at hr
        rcases List.mem_append.1 hr with hr | hr
        · have := last_ge x.2 hpx z hz r hr
          omega
        · exact h3 r hr

/-- A drop's disk, opened again. -/
theorem drops_math {m m' : Dk} {j : Jn} {put : List Rc} {parts : List (Nat × List Rc)} {cur : List Rc} (h : DpJ m j put parts cur) (s : Nat) (hf : m'.files = ((parts.map segP).filter (dropK s)).map sgF ++ (if cur = [] then [] else [sgF (j.own, segB cur)])) (hn : put.length ≤ 1000) :
    ∃ k, k ≤ put.length ∧ (openJ m' (put.length + 1)).2 = (numR put 1).drop k ∧ (openJ m' (put.length + 1)).1.next = put.length + 1 ∧ (k = 0 ∨ ∃ r, (numR put 1)[k - 1]? = some r ∧ r.seq ≤ s) ∧ ∃ pre R0, HeldJ m'.files j.own pre R0 cur := by
  have hH := h.held
  have hokf : ∀ r ∈ flatP parts, okRc r := fun r hr => hH.ok r (List.mem_append_left _ hr)
  obtain ⟨d, d1, d2, d3⟩ := parts_drop s parts hokf (chain_left hH.chain) h.full
  have hsplit : flatP parts = flatP (parts.take d) ++ flatP (parts.drop d) := by
    unfold flatP
    rw [← List.flatten_append, ← List.map_append, List.take_append_drop]
  have hall := h.all
  rw [hsplit, List.append_assoc] at hall
  have hok2 : ∀ r ∈ flatP (parts.drop d) ++ cur, okRc r := fun r hr => by
    rcases List.mem_append.1 hr with hr | hr
    · exact hokf r (by rw [hsplit]; exact List.mem_append_right _ hr)
    · exact hH.ok r (List.mem_append_right _ hr)
  have hch2 : Chain (flatP (parts.drop d) ++ cur) := by
    have h1 := hH.chain
    rw [hsplit, List.append_assoc] at h1
    exact chain_right h1
  have hnew : HeldJ m'.files j.own ((parts.drop d).map segP) (flatP (parts.drop d)) cur := by
    have hsub : ((parts.drop d).map segP).Sublist (parts.map segP) := (List.drop_sublist d parts).map _
    refine ⟨by rw [hf, d2], hH.rise.sublist (hsub.map _), fun p hp => hH.less p (hsub.subset hp), hH.small, ?_, hok2, hch2⟩
    have h1 := segs_whole ((parts.drop d).map Prod.snd) [] (fun r hr => hok2 r (List.mem_append_left _ hr)) (by rw [List.nil_append]; exact chain_left hch2)
    rw [List.nil_append] at h1
    rw [List.map_map] at h1 ⊢
    exact h1
  have ha := hnew.all.2.2
  obtain ⟨k, hk⟩ : ∃ k, (flatP (parts.take d)).length = k := ⟨_, rfl⟩
  have hdr : (numR put 1).drop k = flatP (parts.drop d) ++ cur := by rw [← hall, ← hk, List.drop_left]
  have hkl : k ≤ put.length := by
    have h1 := congrArg List.length hall
    rw [numR_len, List.length_append, hk] at h1
    omega
  have hnl := numR_len put 1
  refine ⟨k, hkl, by rw [hdr]; exact ha, ?_, ?_, _, _, hnew⟩
  · show nextJ (segsR [] ((segsD m'.files).map Prod.snd)) (put.length + 1) = _
    rw [ha, ← hdr]
    unfold nextJ
    cases hx : ((numR put 1).drop k).getLast? with
    | none => show max (put.length + 1) 1 = _; omega
    | some r =>
      rw [List.getLast?_drop] at hx
      split at hx
      · cases hx
      · rw [List.getLast?_eq_getElem?] at hx
        have h1 := numR_at put 1 _ (by omega) r hx
        rw [hnl] at h1
        show r.seq + 1 = _
        omega
  · by_cases h0 : k = 0
    · exact .inl h0
    · right
      have hlt : k - 1 < (flatP (parts.take d)).length := by omega
      refine ⟨(flatP (parts.take d))[k - 1], ?_, d3 _ (List.getElem_mem hlt)⟩
      rw [← hall, List.getElem?_append_left hlt, List.getElem?_eq_getElem hlt]

end Go.Proofs.YthjikbhjciphiaaGreatDoor
