/-
  What WalKeeps keeps between two steps. No program stands here.
-/
import Derived.Test.YthjikbhjciphiaaGreatDoorZz32
namespace Go.Proofs.YthjikbhjciphiaaGreatDoor
open Go.RowKit
set_option linter.unusedVariables false
set_option linter.unusedSimpArgs false

theorem size_cut (keep : Int) (l : List Fl) : sizeF (l.map (cutF keep)) ≤ sizeF l := by
  induction l with
  | nil => exact Nat.le_refl _
  | cons f r ih =>
    rw [List.map_cons, sizeF_cons, sizeF_cons]
    have e3 : (cutF keep f).data.length ≤ f.data.length := by
      show (f.data.take _).length ≤ _
      rw [List.length_take]
      omega
    omega
theorem HeldJ.count {fs : List Fl} {own : Nat} {pre : List (Nat × List UInt8)} {R0 cur : List Rc} (h : HeldJ fs own pre R0 cur) (h1 : 1 ≤ own) : fs.length ≤ own := by
  have key : ∀ (l : List Nat) (b : Nat), l.Pairwise (· < ·) → (∀ x ∈ l, b ≤ x ∧ x < own) → l.length + b ≤ max own b := by
    intro l
    induction l with
    | nil => intro b _ _; simp; omega
    | cons x l ih =>
      intro b hp hx
      have h3 := ih (x + 1) (List.pairwise_cons.1 hp).2 fun y hy => ⟨(List.pairwise_cons.1 hp).1 y hy, (hx y (List.mem_cons_of_mem _ hy)).2⟩
      have h4 := hx x List.mem_cons_self
      rw [List.length_cons]
      omega
  have h3 := key (pre.map Prod.fst) 1 h.rise fun x hx => by
    obtain ⟨p, hp, rfl⟩ := List.mem_map.1 hx
    exact h.less p hp
  rw [List.length_map] at h3
  rw [h.files, List.length_append, List.length_map]
  split <;> simp <;> omega
theorem commit_size {m : Dk} {own : Nat} {pre : List (Nat × List UInt8)} {R0 cur : List Rc} (h : HeldJ m.files own pre R0 cur) (hd : m.down = false) (hf : m.files.length < 1024) (new : List Rc) : sizeF (commitD m own new).2.files ≤ sizeF m.files + (segB new).length := by
  by_cases hn : new = []
  · unfold commitD
    rw [if_pos hn]
    exact Nat.le_add_right _ _
  have hsz : ∀ s, sizeF (pre.map sgF ++ [(⟨nameL own, segB (cur ++ new), s⟩ : Fl)]) ≤ sizeF m.files + (segB new).length := by
    intro s
    rw [h.files]
    unfold sizeF
    rw [List.map_append, List.map_append, List.sum_append, List.sum_append, segB_app]
    split
    · next hc => rw [hc]; simp [segB_nil]
    · simp [sgF]; omega
  rcases commit_does h hd hf new hn with ⟨_, _, _, _, k4, _⟩ | ⟨_, _, _, _, k4, _⟩ | ⟨_, _, _, _, k4⟩
  · rw [k4]
    exact hsz _
  · rw [k4]
    exact Nat.le_add_right _ _
  · rcases k4 with k4 | ⟨keep, k4⟩
    · rw [k4]
      exact Nat.le_add_right _ _
    · rw [k4]
      exact Nat.le_trans (size_cut _ _) (hsz _)
/-- A disk behind a crash, or that is to crash: what is asked of it. -/
theorem Left.okJ {m : Dk} {f sure b : Nat} {put : List Rc} (h : Left m f put sure b) (hb : b ≤ 190) (hx : OkX 180 m) (hs : sizeF m.files ≤ 20000) : OkJ m := by
  obtain ⟨own, pre, k, h1, h2, h3⟩ := h
  refine ⟨hx, ?_, hs, _, _, _, _, h1⟩
  by_cases h0 : 1 ≤ own
  · have := h1.count h0
    omega
  · have hp : pre = [] := by
      cases pre with
      | nil => rfl
      | cons p t => have := h1.less p List.mem_cons_self; omega
    rw [h1.files, hp]
    simp

/-- What stands of the disk and the journal behind i steps: sizes. -/
structure Meas (m : Dk) (bl i : Nat) : Prop where
  cap : m.cap = 1048576
  size : sizeF m.files + bl ≤ 56 * i
  x : OkX (2 * i) m
theorem Meas.mono {m : Dk} {bl i j : Nat} (h : Meas m bl i) (hj : i ≤ j) : Meas m bl j := ⟨h.cap, by have := h.size; omega, ⟨by have := h.x.1; omega, h.x.2⟩⟩
theorem Meas.less {m : Dk} {bl bl' i : Nat} (h : Meas m bl i) (hb : bl' ≤ bl) : Meas m bl' i := ⟨h.cap, by have := h.size; omega, h.x⟩
theorem Meas.crash {m : Dk} {bl i : Nat} (h : Meas m bl i) (keep : Int) : Meas (crashD keep m) bl i := by
  refine ⟨h.cap, ?_, ⟨h.x.1, h.x.2.1, h.x.2.2⟩⟩
  have h1 := size_cut keep m.files
  have h2 := h.size
  show sizeF (m.files.map (cutF keep)) + bl ≤ _
  omega
theorem Meas.okx {m : Dk} {bl i : Nat} (h : Meas m bl i) (hi : i ≤ 90) : OkX 180 m := ⟨by have := h.x.1; omega, h.x.2⟩
theorem Meas.okJ {m : Dk} {j : Jn} {f sure i bl : Nat} {put : List Rc} (h : Meas m bl i) (hJ : JS m j f put sure) (hi : i ≤ 90) (ho : j.own ≤ 190) : OkJ m := hJ.okJ ho (h.okx hi) (by have := h.size; omega)

section
variable {m : Dk} {j : Jn} {f sure i : Nat} {put : List Rc}
/-- A commit, with room. -/
theorem keep_commit (hJ : JS m j f put sure) (hM : Meas m (segB j.buf).length i) (hi : i ≤ 80) (ho : j.own ≤ 100) :
    ((commitJ m j).1 = 0 ∧ JS (commitJ m j).2.1 (commitJ m j).2.2 f put put.length ∧ Meas (commitJ m j).2.1 (segB (commitJ m j).2.2.buf).length (i + 1) ∧ (commitJ m j).2.2.own ≤ j.own + 1) ∨
    ((commitJ m j).1 = 19 ∧ (commitJ m j).2.1.down = true ∧ Left (commitJ m j).2.1 f put sure (j.own + 1) ∧ Meas (commitJ m j).2.1 0 (i + 1)) := by
  by_cases hn : j.buf = []
  · left
    have e : commitJ m j = (0, m, j) := by
      unfold commitJ commitD
      rw [if_pos hn]
      simp [hn]
    have hbl := hJ.blen
    rw [hn] at hbl
    have hle := hJ.le
    have hs : sure = put.length := by simp at hbl; omega
    rw [e]
    exact ⟨rfl, by rw [← hs]; exact hJ, hM.mono (by omega), by show j.own ≤ _; omega⟩
  · have hx2 : OkX (2 * (i + 1)) (commitJ m j).2.1 := by
      have := OkX.commit j.own j.buf hM.x
      exact this
    obtain ⟨pre, R0, cur, hH, _⟩ := hJ.held
    have hfl := hJ.files (by omega)
    have hsz := commit_size hH hJ.up (by omega) j.buf
    have hms := hM.size
    have hcap := hM.cap
    rcases hJ.commit (by omega) hn with ⟨c0, hJ5, ha5, hcap5, ho5, hs5, hr5⟩ | ⟨c0, hJ5, hj5, ha5, hcap5, hf5, hr⟩ | ⟨c19, harm, hdn⟩
    · left
      refine ⟨c0, hJ5, ⟨hcap5.trans hcap, ?_, hx2⟩, ho5⟩
      have hbl := hJ5.blen
      rw [Nat.sub_self] at hbl
      rw [List.eq_nil_of_length_eq_zero hbl, segB_nil, hs5]
      simp
      omega
    · omega
    · right
      have k3 : (commitD m j.own j.buf).2.cap = m.cap := by
        rcases commit_does hH hJ.up (by omega) j.buf hn with h1 | h1 | h1
        · exact h1.2.2.1
        · exact h1.2.2.1
        · exact h1.2.2.2.1
      exact ⟨c19, hdn, hJ.torn (by omega) hn c19, ⟨k3.trans hcap, by show sizeF (commitD m j.own j.buf).2.files + 0 ≤ _; omega, hx2⟩⟩
end

theorem JS.start2 (next : Nat) (h : next ≤ 4611686018427387904) : JS (newDk 1048576) ⟨1, max next 1, max next 1 - 1, [], 0⟩ (max next 1) [] 0 :=
  ⟨⟨[], [], [], ⟨rfl, List.Pairwise.nil, fun _ h => (by cases h), (show (1 : Nat) < 9223372036854775808 by decide), rfl, fun _ h => (by cases h), fun i a b h => by simp at h⟩, rfl⟩, rfl, rfl, rfl, Nat.le_refl _, fun _ h => (by cases h), by omega, by show max next 1 + 0 < _; omega, Nat.le_refl _, rfl, rfl⟩
theorem meas_start : Meas (newDk 1048576) 0 0 := ⟨rfl, Nat.le_refl _, Nat.le_refl _, by decide, by decide, by decide⟩

end Go.Proofs.YthjikbhjciphiaaGreatDoor
