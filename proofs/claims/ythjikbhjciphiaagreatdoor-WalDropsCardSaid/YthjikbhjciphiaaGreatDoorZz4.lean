/-
  Lists of numbers that are sorted by swaps. No program stands here.
-/
import Derived.Test.YthjikbhjciphiaaGreatDoorZz2
import Derived.Laws.BitsAllLaws
namespace Go.Proofs.YthjikbhjciphiaaGreatDoor
open Go.RowKit
set_option linter.unusedVariables false
set_option linter.unusedSimpArgs false

abbrev atN (ys : List Nat) (t : Nat) : Nat := ys.getD t 0
theorem atN_some {ys : List Nat} {t : Nat} (h : t < ys.length) : ys[t]? = some (atN ys t) := by unfold atN; rw [List.getD_eq_getElem?_getD, List.getElem?_eq_getElem h]; rfl
/-- Two elements swapped. -/
def swp (ys : List Nat) (i j : Nat) : List Nat := (ys.set i (atN ys j)).set j (atN ys i)
theorem sw_len (ys : List Nat) (i j : Nat) : (swp ys i j).length = ys.length := by unfold swp; rw [List.length_set, List.length_set]
theorem at_sw (ys : List Nat) (i j t : Nat) (hi : i < ys.length) (hj : j < ys.length) : atN (swp ys i j) t = if t = j then atN ys i else if t = i then atN ys j else atN ys t := by
  unfold swp atN
  simp only [List.getD_eq_getElem?_getD]
  rw [List.getElem?_set, List.length_set, List.getElem?_set]
  by_cases h1 : t = j
  · subst h1
    rw [if_pos rfl, if_pos hj, if_pos rfl]
    rfl
  · rw [if_neg (fun e => h1 e.symm), if_neg h1]
    by_cases h2 : t = i
    · subst h2
      rw [if_pos rfl, if_pos hi, if_pos rfl]
      rfl
    · rw [if_neg (fun e => h2 e.symm), if_neg h2]
theorem sw_perm (ys : List Nat) (i j : Nat) (hi : i < ys.length) (hj : j < ys.length) : (swp ys i j).Perm ys := by
  unfold swp atN
  rw [List.getD_eq_getElem?_getD, List.getD_eq_getElem?_getD, List.getElem?_eq_getElem hi, List.getElem?_eq_getElem hj]
  exact List.set_set_perm hi hj
/-- What swaps within a range make of a list. -/
inductive Sws (a b : Nat) : List Nat → List Nat → Prop
  | refl (xs : List Nat) : Sws a b xs xs
  | step {xs ys : List Nat} (i j : Nat) : Sws a b xs ys → a ≤ i → i < b → a ≤ j → j < b → b ≤ ys.length → Sws a b xs (swp ys i j)
section
variable {a b : Nat} {xs ys zs : List Nat}
theorem Sws.len (h : Sws a b xs ys) : ys.length = xs.length := by
  induction h with
  | refl => rfl
  | step i j _ _ _ _ _ _ ih => rw [sw_len]; exact ih
theorem Sws.trans (h : Sws a b xs ys) (k : Sws a b ys zs) : Sws a b xs zs := by
  induction k with
  | refl => exact h
  | step i j _ h1 h2 h3 h4 h5 ih => exact Sws.step i j ih h1 h2 h3 h4 h5
theorem Sws.mono {a' b' : Nat} (h : Sws a b xs ys) (ha : a' ≤ a) (hb : b ≤ b') (hl : b' ≤ xs.length) : Sws a' b' xs ys := by
  induction h with
  | refl => exact .refl _
  | step i j hs h1 h2 h3 h4 h5 ih => exact Sws.step i j ih (by omega) (by omega) (by omega) (by omega) (by rw [hs.len]; exact hl)
theorem Sws.out (h : Sws a b xs ys) (t : Nat) (ht : t < a ∨ b ≤ t) : atN ys t = atN xs t := by
  induction h with
  | refl => rfl
  | step i j _ h1 h2 h3 h4 h5 ih =>
    rw [at_sw _ _ _ _ (by omega) (by omega), if_neg (by omega), if_neg (by omega)]
    exact ih
theorem Sws.src (h : Sws a b xs ys) (t : Nat) (h1 : a ≤ t) (h2 : t < b) : ∃ s, a ≤ s ∧ s < b ∧ atN ys t = atN xs s := by
  induction h generalizing t with
  | refl => exact ⟨t, h1, h2, rfl⟩
  | step i j _ k1 k2 k3 k4 k5 ih =>
    rw [at_sw _ _ _ _ (by omega) (by omega)]
    split
    · exact ih i k1 k2
    · split
      · exact ih j k3 k4
      · exact ih t h1 h2
theorem Sws.perm (h : Sws a b xs ys) : ys.Perm xs := by
  induction h with
  | refl => exact List.Perm.refl _
  | step i j _ h1 h2 h3 h4 h5 ih => exact (sw_perm _ i j (by omega) (by omega)).trans ih
end
/-- Rising between two places. -/
def Srt (a b : Nat) (ys : List Nat) : Prop := ∀ i j, a ≤ i → i < j → j < b → atN ys i ≤ atN ys j
theorem srt_short {a b : Nat} (ys : List Nat) (h : b ≤ a + 1) : Srt a b ys := fun i j h1 h2 h3 => by omega
/-- All of [a, b) is not below its neighbour ahead. -/
def Low (a b : Nat) (ys : List Nat) : Prop := 0 < a → ∀ t, a ≤ t → t < b → atN ys (a - 1) ≤ atN ys t
theorem Low.sws {a b : Nat} {xs ys : List Nat} (h : Low a b xs) (hs : Sws a b xs ys) : Low a b ys := by
  intro h0 t h1 h2
  obtain ⟨s, k1, k2, k3⟩ := hs.src t h1 h2
  rw [hs.out (a - 1) (by omega), k3]
  exact h h0 s k1 k2

/-! Insertion. -/
/-- Rising up to i, but for what stands at j ahead of it. -/
def InsI (a i j : Nat) (ys : List Nat) : Prop := ∀ p q, a ≤ p → p < q → q ≤ i → q ≠ j → atN ys p ≤ atN ys q
theorem ins_start {a i : Nat} {ys : List Nat} (h : Srt a i ys) : InsI a i i ys := fun p q h1 h2 h3 h4 => h p q h1 h2 (by omega)
theorem ins_step {a i j : Nat} {ys : List Nat} (h : InsI a i j ys) (haj : a < j) (hji : j ≤ i) (hil : i < ys.length) (hlt : atN ys j < atN ys (j - 1)) : InsI a i (j - 1) (swp ys j (j - 1)) := by
  intro p q h1 h2 h3 h4
  rw [at_sw _ _ _ _ (by omega) (by omega), at_sw _ _ _ _ (by omega) (by omega), if_neg h4]
  by_cases e : q = j
  · rw [if_pos e]
    by_cases e2 : p = j - 1
    · rw [if_pos e2]; omega
    · rw [if_neg e2, if_neg (by omega)]
      exact h p (j - 1) h1 (by omega) (by omega) (by omega)
  · rw [if_neg e]
    by_cases e2 : p = j - 1
    · rw [if_pos e2]; exact h j q (by omega) (by omega) h3 e
    · rw [if_neg e2]
      by_cases e3 : p = j
      · rw [if_pos e3]; exact h (j - 1) q (by omega) (by omega) h3 e
      · rw [if_neg e3]; exact h p q h1 h2 h3 e
theorem ins_stop {a i j : Nat} {ys : List Nat} (h : InsI a i j ys) (hji : j ≤ i) (hs : j ≤ a ∨ atN ys (j - 1) ≤ atN ys j) : Srt a (i + 1) ys := by
  intro p q h1 h2 h3
  by_cases e : q = j
  · subst e
    rcases hs with hs | hs
    · omega
    · by_cases e2 : p = q - 1
      · subst e2; exact hs
      · exact Nat.le_trans (h p (q - 1) h1 (by omega) (by omega) (by omega)) hs
  · exact h p q h1 h2 (by omega) e

/-! Heaps. -/
def Kid (i c : Nat) : Prop := c = 2 * i + 1 ∨ c = 2 * i + 2
def Hp (f lo hi : Nat) (ys : List Nat) : Prop := ∀ i c, lo ≤ i → Kid i c → c < hi → atN ys (f + c) ≤ atN ys (f + i)
/-- A heap but at its root's place r. -/
def HpX (f lo hi r : Nat) (ys : List Nat) : Prop := (∀ i c, lo ≤ i → i ≠ r → Kid i c → c < hi → atN ys (f + c) ≤ atN ys (f + i)) ∧ (∀ p c, lo ≤ p → Kid p r → Kid r c → c < hi → atN ys (f + c) ≤ atN ys (f + p))
theorem hpx_start {f lo hi : Nat} {ys : List Nat} (h : Hp f (lo + 1) hi ys) : HpX f lo hi lo ys :=
  ⟨fun i c h1 h2 h3 h4 => h i c (by omega) h3 h4, fun p c h1 h2 h3 h4 => by unfold Kid at h2; omega⟩
theorem hpx_stop {f lo hi r : Nat} {ys : List Nat} (h : HpX f lo hi r ys) (hk : ∀ c, Kid r c → c < hi → atN ys (f + c) ≤ atN ys (f + r)) : Hp f lo hi ys := by
  intro i c h1 h2 h3
  by_cases e : i = r
  · subst e; exact hk c h2 h3
  · exact h.1 i c h1 e h2 h3
theorem hpx_step {f lo hi r k : Nat} {ys : List Nat} (h : HpX f lo hi r ys) (hlo : lo ≤ r) (hk : Kid r k) (hkh : k < hi) (hl : f + hi ≤ ys.length) (hmax : ∀ c, Kid r c → c < hi → atN ys (f + c) ≤ atN ys (f + k)) (hlt : atN ys (f + r) < atN ys (f + k)) : HpX f lo hi k (swp ys (f + r) (f + k)) := by
  have hrk : r < k := by unfold Kid at hk; omega
  refine ⟨fun i c h1 h2 h3 h4 => ?_, fun p c h1 h2 h3 h4 => ?_⟩
  · rw [at_sw _ _ _ _ (by omega) (by omega), at_sw _ _ _ _ (by omega) (by omega)]
    by_cases e : i = r
    · subst e
      rw [if_neg (show ¬ f + i = f + k by omega), if_pos rfl]
      by_cases e2 : c = k
      · rw [if_pos (by omega)]; omega
      · rw [if_neg (by omega), if_neg (by unfold Kid at h3; omega)]
        exact hmax c h3 h4
    · rw [if_neg (show ¬ f + i = f + k by omega), if_neg (show ¬ f + i = f + r by omega)]
      by_cases e2 : c = k
      · exfalso; unfold Kid at hk h3; omega
      · rw [if_neg (by omega)]
        by_cases e3 : c = r
        · subst e3
          rw [if_pos rfl]
          exact h.2 i k h1 h3 hk hkh
        · rw [if_neg (by omega)]
          exact h.1 i c h1 e h3 h4
  · have hpr : p = r := by unfold Kid at h2 hk; omega
    subst hpr
    rw [at_sw _ _ _ _ (by omega) (by omega), at_sw _ _ _ _ (by omega) (by omega)]
    have hck : k < c := by unfold Kid at h3; omega
    rw [if_neg (show ¬ f + c = f + k by omega), if_neg (show ¬ f + c = f + p by omega), if_neg (show ¬ f + p = f + k by omega), if_pos rfl]
    exact h.1 k c (by omega) (by omega) h3 h4
theorem hp_top {f hi : Nat} {ys : List Nat} (h : Hp f 0 hi ys) : ∀ c, c < hi → atN ys (f + c) ≤ atN ys f := by
  intro c
  induction c using Nat.strongRecOn with
  | ind c ih =>
    intro hc
    by_cases h0 : c = 0
    · subst h0; exact Nat.le_refl _
    · have h1 := h ((c - 1) / 2) c (Nat.zero_le _) (by unfold Kid; omega) hc
      exact Nat.le_trans h1 (ih ((c - 1) / 2) (by omega) (by omega))
/-- The heap ahead of i, all behind it in order. -/
def HeapI (f hi n : Nat) (ys : List Nat) : Prop := Hp f 0 n ys ∧ ∀ p q, p < q → q < hi → n ≤ q → atN ys (f + p) ≤ atN ys (f + q)
theorem heapI_swap {f hi n : Nat} {ys : List Nat} (h : HeapI f hi (n + 1) ys) (hn : n < hi) (hl : f + hi ≤ ys.length) : Hp f 1 n (swp ys f (f + n)) ∧ ∀ p q, p < q → q < hi → n ≤ q → atN (swp ys f (f + n)) (f + p) ≤ atN (swp ys f (f + n)) (f + q) := by
  refine ⟨fun i c h1 h2 h3 => ?_, fun p q h1 h2 h3 => ?_⟩
  · rw [at_sw _ _ _ _ (by omega) (by omega), at_sw _ _ _ _ (by omega) (by omega)]
    have hic : i < c := by unfold Kid at h2; omega
    rw [if_neg (show ¬ f + c = f + n by omega), if_neg (show ¬ f + c = f by omega), if_neg (show ¬ f + i = f + n by omega), if_neg (show ¬ f + i = f by omega)]
    exact h.1 i c (Nat.zero_le _) h2 (by omega)
  · rw [at_sw _ _ _ _ (by omega) (by omega), at_sw _ _ _ _ (by omega) (by omega)]
    by_cases e : q = n
    · subst e
      rw [if_pos (show f + q = f + q from rfl), if_neg (show ¬ f + p = f + q by omega)]
      by_cases e2 : p = 0
      · subst e2
        rw [if_pos (by omega)]
        exact hp_top h.1 q (by omega)
      · rw [if_neg (by omega)]
        exact hp_top h.1 p (by omega)
    · rw [if_neg (show ¬ f + q = f + n by omega), if_neg (show ¬ f + q = f by omega)]
      by_cases e2 : p = n
      · subst e2
        rw [if_pos rfl]
        have := h.2 0 q (by omega) h2 (by omega)
        rw [Nat.add_zero] at this
        exact this
      · rw [if_neg (show ¬ f + p = f + n by omega)]
        by_cases e3 : p = 0
        · subst e3
          rw [if_pos (by omega)]
          exact h.2 n q (by omega) h2 (by omega)
        · rw [if_neg (by omega)]
          exact h.2 p q h1 h2 (by omega)
/-- The tail stays in order where the front alone is swapped. -/
theorem tail_sws {f hi n : Nat} {ys zs : List Nat} (h : ∀ p q, p < q → q < hi → n ≤ q → atN ys (f + p) ≤ atN ys (f + q)) (hs : Sws f (f + n) ys zs) : ∀ p q, p < q → q < hi → n ≤ q → atN zs (f + p) ≤ atN zs (f + q) := by
  intro p q h1 h2 h3
  rw [hs.out (f + q) (by omega)]
  by_cases hp : p < n
  · obtain ⟨s, k1, k2, k3⟩ := hs.src (f + p) (by omega) (by omega)
    rw [k3]
    have := h (s - f) q (by omega) h2 h3
    rw [show f + (s - f) = s by omega] at this
    exact this
  · rw [hs.out (f + p) (by omega)]
    exact h p q h1 h2 h3

/-! The quick sort's places. -/
/-- Outside of [a, b) all stands in order. -/
def PartI (a0 b0 a b : Nat) (ys : List Nat) : Prop := ∀ i j, a0 ≤ i → i < j → j < b0 → (i < a ∨ b ≤ j) → atN ys i ≤ atN ys j
theorem partI_start (a0 b0 : Nat) (ys : List Nat) : PartI a0 b0 a0 b0 ys := fun i j h1 h2 h3 h4 => by omega
theorem PartI.sws {a0 b0 a b : Nat} {ys zs : List Nat} (h : PartI a0 b0 a b ys) (hs : Sws a b ys zs) (ha : a0 ≤ a) (hb : b ≤ b0) : PartI a0 b0 a b zs := by
  intro i j h1 h2 h3 h4
  have key : ∀ t, ∃ s, atN zs t = atN ys s ∧ ((a ≤ t ∧ t < b) → (a ≤ s ∧ s < b)) ∧ ((t < a ∨ b ≤ t) → s = t) := by
    intro t
    by_cases ht : a ≤ t ∧ t < b
    · obtain ⟨s, k1, k2, k3⟩ := hs.src t ht.1 ht.2
      exact ⟨s, k3, fun _ => ⟨k1, k2⟩, fun h => by omega⟩
    · exact ⟨t, hs.out t (by omega), fun h => absurd h ht, fun _ => rfl⟩
  obtain ⟨s1, e1, p1, q1⟩ := key i
  obtain ⟨s2, e2, p2, q2⟩ := key j
  rw [e1, e2]
  refine h s1 s2 ?_ ?_ ?_ ?_ <;> omega
theorem PartI.low {a0 b0 a b : Nat} {ys : List Nat} (h : PartI a0 b0 a b ys) (h0 : 0 < a0 → ∀ t, a0 ≤ t → t < b0 → atN ys (a0 - 1) ≤ atN ys t) (ha : a0 ≤ a) (hb : b ≤ b0) : Low a b ys := by
  intro hp t h1 h2
  by_cases e : a = a0
  · subst e; exact h0 hp t h1 (by omega)
  · exact h (a - 1) t (by omega) (by omega) (by omega) (.inl (by omega))
theorem PartI.done {a0 b0 a b : Nat} {ys : List Nat} (h : PartI a0 b0 a b ys) (hs : Srt a b ys) : Srt a0 b0 ys := by
  intro i j h1 h2 h3
  by_cases e : i < a ∨ b ≤ j
  · exact h i j h1 h2 h3 e
  · exact hs i j (by omega) h2 (by omega)
/-- All ahead of m is at most what stands there, all behind it at least. -/
def Cut (a b m : Nat) (ys : List Nat) : Prop := (∀ t, a ≤ t → t < m → atN ys t ≤ atN ys m) ∧ ∀ t, m < t → t < b → atN ys m ≤ atN ys t
/-- The left part sorted: go on behind m. -/
theorem PartI.left {a0 b0 a b m : Nat} {ys zs : List Nat} (h : PartI a0 b0 a b ys) (hc : Cut a b m ys) (hs : Sws a m ys zs) (hz : Srt a m zs) (ha : a0 ≤ a) (hb : b ≤ b0) (h1 : a ≤ m) (h2 : m < b) (hl : b ≤ ys.length) : PartI a0 b0 (m + 1) b zs := by
  have hp := h.sws (hs.mono (Nat.le_refl _) (by omega) hl) ha hb
  intro i j k1 k2 k3 k4
  by_cases e : i < a ∨ b ≤ j
  · exact hp i j k1 k2 k3 e
  · have him : i ≤ m := by omega
    by_cases e2 : j < m
    · exact hz i j (by omega) k2 e2
    · rw [hs.out j (by omega)]
      by_cases e3 : i = m
      · subst e3
        rw [hs.out i (by omega)]
        exact hc.2 j (by omega) (by omega)
      · obtain ⟨s, q1, q2, q3⟩ := hs.src i (by omega) (by omega)
        rw [q3]
        refine Nat.le_trans (hc.1 s q1 q2) ?_
        by_cases e4 : j = m
        · subst e4; exact Nat.le_refl _
        · exact hc.2 j (by omega) (by omega)
theorem PartI.right {a0 b0 a b m : Nat} {ys zs : List Nat} (h : PartI a0 b0 a b ys) (hc : Cut a b m ys) (hs : Sws (m + 1) b ys zs) (hz : Srt (m + 1) b zs) (ha : a0 ≤ a) (hb : b ≤ b0) (h1 : a ≤ m) (h2 : m < b) (hl : b ≤ ys.length) : PartI a0 b0 a m zs := by
  have hp := h.sws (hs.mono (by omega) (Nat.le_refl _) hl) ha hb
  intro i j k1 k2 k3 k4
  by_cases e : i < a ∨ b ≤ j
  · exact hp i j k1 k2 k3 e
  · have hjm : m ≤ j := by omega
    by_cases e2 : m < i
    · exact hz i j (by omega) k2 (by omega)
    · rw [hs.out i (by omega)]
      have hi : atN ys i ≤ atN ys m := by
        by_cases e4 : i = m
        · subst e4; exact Nat.le_refl _
        · exact hc.1 i (by omega) (by omega)
      by_cases e3 : j = m
      · subst e3
        rw [hs.out j (by omega)]
        exact hi
      · obtain ⟨s, q1, q2, q3⟩ := hs.src j (by omega) (by omega)
        rw [q3]
        exact Nat.le_trans hi (hc.2 s (by omega) q2)
/-- What is equal stands ahead: go on behind it. -/
theorem PartI.equal {a0 b0 a b m x : Nat} {ys : List Nat} (h : PartI a0 b0 a b ys) (h1 : ∀ t, a ≤ t → t < m → atN ys t = x) (h2 : ∀ t, m ≤ t → t < b → x ≤ atN ys t) : PartI a0 b0 m b ys := by
  intro i j k1 k2 k3 k4
  by_cases e : i < a ∨ b ≤ j
  · exact h i j k1 k2 k3 e
  · have him : i < m := by omega
    rw [h1 i (by omega) him]
    by_cases e2 : j < m
    · rw [h1 j (by omega) e2]; exact Nat.le_refl _
    · exact h2 j (by omega) (by omega)
/-- Neighbours that rise: all does. -/
theorem srt_adj {a b : Nat} {ys : List Nat} (h : ∀ t, a < t → t < b → atN ys (t - 1) ≤ atN ys t) : Srt a b ys := by
  intro i j h1 h2 h3
  induction j with
  | zero => omega
  | succ j ih =>
    have h4 := h (j + 1) (by omega) h3
    rw [show j + 1 - 1 = j by omega] at h4
    by_cases e : i = j
    · subst e; exact h4
    · exact Nat.le_trans (ih (by omega) (by omega)) h4

end Go.Proofs.YthjikbhjciphiaaGreatDoor

/-
  Walks over package octet: the cursor.
-/
namespace Go.Proofs.YthjikbhjciphiaaGreatDoor
open Go.RowKit
set_option linter.unusedVariables false
set_option linter.unusedSimpArgs false

/-- The cursor in block g: what is left to read, and the first error. -/
def Cur (w : World) (g : Nat) (l : List UInt8) (e : Int) : Prop :=
  ∃ A n c, w.heap[g]? = some (.cells #[.slice A n c, .int .i64 e] 203 (0, 0)) ∧ Byt w g A n l ∧ (A = none → c = 0) ∧ n ≤ c ∧ c ≤ maxLen

theorem Cur.lt {w : World} {g : Nat} {l : List UInt8} {e : Int} (h : Cur w g l e) : g < w.heap.size := by
  obtain ⟨A, n, c, hh, _⟩ := h
  exact (Array.getElem?_eq_some_iff.1 hh).1
theorem Cur.keep {w w' : World} {g : Nat} {l : List UInt8} {e : Int} (h : Cur w g l e) (hk : ∀ k, k ≤ g → w'.heap[k]? = w.heap[k]?) : Cur w' g l e := by
  obtain ⟨A, n, c, hh, hl, r⟩ := h
  exact ⟨A, n, c, (hk g (Nat.le_refl _)).trans hh, hl.keep fun p hp => World.cell?_of_block (w := w) (hk _ (by omega)), r⟩
theorem Cur.below {w w' : World} {g : Nat} {l : List UInt8} {e : Int} (h : Cur w g l e) (hb : Below w.heap.size w w') : Cur w' g l e :=
  h.keep fun k hk => hb.block k (by have := h.lt; omega)
theorem Cur.drewN {w : World} {g : Nat} {l : List UInt8} {e : Int} (h : Cur w g l e) (k : Nat) : Cur (w.drewN k) g l e := h

theorem Cur.fields {w : World} {g : Nat} {l : List UInt8} {e : Int} (h : Cur w g l e) : ∃ A n c, Hid (w.heap[g]? = some (.cells #[.slice A n c, .int .i64 e] 203 (0, 0))) ∧ w.cell? ⟨g, 0, none⟩ = some (.slice A n c) ∧ w.cell? ⟨g, 1, none⟩ = some (.int .i64 e) ∧
    w.frozen? ⟨g, 0, none⟩ = false ∧ w.frozen? ⟨g, 1, none⟩ = false ∧ Byt w g A n l ∧ (A = none → c = 0) ∧ n ≤ c ∧ c ≤ maxLen := by
  obtain ⟨A, n, c, hh, r⟩ := h
  refine ⟨A, n, c, hh, ?_, ?_, by simp [World.frozen?, hh], by simp [World.frozen?, hh], r⟩
  · rw [cell_of_row w g 0 _ _ _ hh]; rfl
  · rw [cell_of_row w g 1 _ _ _ hh]; rfl
/-- The error is set. -/
theorem Cur.setErr {w : World} {g : Nat} {l : List UInt8} {e : Int} (h : Cur w g l e) (e' : Int) : Cur (w.setCell ⟨g, 1, none⟩ (.int .i64 e')) g l e' := by
  have hlt := h.lt
  obtain ⟨A, n, c, hh, hl, r⟩ := h
  refine ⟨A, n, c, ?_, hl.keep fun p hp => World.cell?_of_block (w := w) (Below.heap_setCell _ _ _ _ (by simp; omega)), r⟩
  simp [World.setCell, Array.getElem?_modify, hh]

/-- What taking k bytes gives, what it leaves, and the error behind it. -/
def tk (l : List UInt8) (e : Int) (k : Int) : List UInt8 × List UInt8 × Int :=
  if e ≠ 0 ∨ k < 0 then ([], l, e) else if l.length < k.toNat then ([], l, 1) else (l.take k.toNat, l.drop k.toNat, e)

/-- Only block g and newer ones turned. -/
def Only (g : Nat) (w w' : World) : Prop := w.grownBy w' (some g)
theorem Only.below {B g : Nat} {a w w' : World} (h : Below B a w) (ho : Only g w w') (hB : B ≤ w.heap.size) (hg : B ≤ g) : Below B a w' :=
  h.grown ho hB (fun k e => by cases e; exact hg)
theorem Only.refl (g : Nat) (w : World) : Only g w w := World.grownBy.refl w _
theorem Only.set (g i : Nat) (w : World) (u : Value) : Only g w (w.setCell ⟨g, i, none⟩ u) :=
  ⟨rfl, rfl, rfl, by simp [World.setCell], fun k _ hk => Below.heap_setCell _ _ _ _ (fun e => hk (by simp at e; simp [e]))⟩
theorem Only.trans {g : Nat} {a b c : World} (h : Only g a b) (k : Only g b c) : Only g a c :=
  ⟨k.os.trans h.os, k.tape.trans h.tape, k.output.trans h.output, Nat.le_trans h.size k.size, fun i hi hne => (k.block i (Nat.lt_of_lt_of_le hi h.size) hne).trans (h.block i hi hne)⟩
theorem Only.of_below {g : Nat} {a b : World} (h : Below a.heap.size a b) : Only g a b := ⟨h.os, h.tape, h.output, h.size, fun k hk _ => h.block k hk⟩
theorem Byt.only {w w' : World} {g B n : Nat} {A : Option Addr} {l : List UInt8} (h : Byt w B A n l) (ho : Only g w w') (hB : B ≤ g) (hw : B ≤ w.heap.size) : Byt w' B A n l :=
  h.keep fun p hp => World.cell?_of_block (w := w) (ho.block _ (by omega) (by intro e; cases e; omega))

theorem heap_set {w : World} {g i : Nat} {cs : Array Value} {t : TypeId} (h : w.heap[g]? = some (.cells cs t (0, 0))) (u : Value) :
    (w.setCell ⟨g, i, none⟩ u).heap[g]? = some (.cells (cs.setIfInBounds i u) t (0, 0)) := by
  simp [World.setCell, Array.getElem?_modify, h]

/-- A cut's end. -/
theorem Byt.cut {w : World} {B n c : Nat} {A : Option Addr} {l : List UInt8} (h : Byt w B A n l) {k : Nat} (hk : k ≤ n) (hc : n ≤ c) :
    Byt w B (if c = k then A else A.map (·.add k)) (n - k) (l.drop k) := by
  refine ⟨by rw [List.length_drop, h.1], fun hn => ?_⟩
  obtain ⟨b, o, rfl, hb, hcell⟩ := h.2 (by omega)
  rw [if_neg (by omega)]
  refine ⟨b, o + k, by simp [Addr.add_lit], hb, fun j x hx => ?_⟩
  rw [List.getElem?_drop] at hx
  have := hcell _ x hx
  rwa [← Nat.add_assoc] at this
theorem Byt.take {w : World} {B n : Nat} {A : Option Addr} {l : List UInt8} (h : Byt w B A n l) {k : Nat} (hk : k ≤ n) : Byt w B A k (l.take k) := by
  refine ⟨by rw [List.length_take, h.1]; omega, fun hn => ?_⟩
  obtain ⟨b, o, e, hb, hcell⟩ := h.2 (by omega)
  refine ⟨b, o, e, hb, fun j x hx => ?_⟩
  rw [List.getElem?_take] at hx
  split at hx
  · exact hcell j x hx
  · cases hx

set_option maxHeartbeats 1000000 in
theorem take_any (g : Nat) (l : List UInt8) (e k : Int) (hk2 : k ≤ 9223372036854775807) (W : World) (hC : Cur W g l e) :
    Calls Tryz.prog 167 #[.pointer (some ⟨g, 0, none⟩), .int .i64 k] W fun r W' => ∃ A n c, r = .returned (.slice A n c) ∧ Byt W' g A n (tk l e k).1 ∧ (A = none → c = 0) ∧ n ≤ c ∧ c ≤ maxLen ∧
      Cur W' g (tk l e k).2.1 (tk l e k).2.2 ∧ Only g W W' ∧ W'.heap.size = W.heap.size := by
  have hC' := hC
  obtain ⟨A, n, c, hh, hl, hnil, hnc, hm⟩ := hC'
  unfold maxLen at hm
  have c0 := cell_of_row W g 0 _ _ _ hh
  have c1 := cell_of_row W g 1 _ _ _ hh
  simp at c0 c1
  have f0 : W.frozen? ⟨g, 0, none⟩ = false := by simp [World.frozen?, hh]
  have f1 : W.frozen? ⟨g, 1, none⟩ = false := by simp [World.frozen?, hh]
  have hln := hl.1
  by_cases he : e = 0
  · subst he
    by_cases hk : k < 0
    · have HT := Lib.hid (show tk l 0 k = ([], l, 0) by simp [tk, hk])
      clear hh
      go_enter Tryz.func167, Tryz.ntmps167
      go_wp2
      go_ret
      rw [HT.out]
      exact ⟨none, 0, 0, rfl, Byt.nil, fun _ => rfl, Nat.le_refl _, Nat.zero_le _, hC, Only.refl _ _, rfl⟩
    · by_cases hs : (n : Int) < k
      · have HT := Lib.hid (show tk l 0 k = ([], l, 1) by unfold tk; rw [if_neg (by simp; omega), if_pos (by omega)])
        have HH := Lib.hid hh
        clear hh
        go_enter Tryz.func167, Tryz.ntmps167
        go_wp2
        go_ret
        rw [HT.out]
        refine ⟨none, 0, 0, rfl, Byt.nil, fun _ => rfl, Nat.le_refl _, Nat.zero_le _, ⟨A, n, c, ?_, hl.only (Only.set _ _ _ _) (Nat.le_refl _) (Nat.le_of_lt hC.lt), hnil, hnc, hm⟩, Only.set _ _ _ _, by simp [World.setCell]⟩
        rw [heap_set HH.out]
        rfl
      · obtain ⟨j, rfl⟩ := Int.eq_ofNat_of_zero_le (show 0 ≤ k by omega)
        have HT := Lib.hid (show tk l 0 (j : Int) = (l.take j, l.drop j, 0) by unfold tk; rw [if_neg (by simp), if_neg (by simp; omega)]; rfl)
        have HH := Lib.hid hh
        clear hh hln
        go_enter Tryz.func167, Tryz.ntmps167
        go_wp2
        all_goals
          go_ret
          rw [HT.out]
          have hg := Nat.le_of_lt hC.lt
        · have hcj : c = j := by assumption
          subst hcj
          have hcut := hl.cut (k := c) (c := c) (by omega) hnc
          rw [if_pos rfl] at hcut
          refine ⟨A, _, _, rfl, (hl.take (by omega)).only (Only.set _ _ _ _) (Nat.le_refl _) hg, hnil, by omega, hm, ⟨A, n - c, 0, ?_, hcut.only (Only.set _ _ _ _) (Nat.le_refl _) hg, fun _ => rfl, by omega, Nat.zero_le _⟩, Only.set _ _ _ _, by simp [World.setCell]⟩
          rw [heap_set HH.out]
          rfl
        · have hcut := hl.cut (k := j) (c := c) (by omega) hnc
          rw [if_neg ‹¬ c = j›] at hcut
          refine ⟨A, _, _, rfl, (hl.take (by omega)).only (Only.set _ _ _ _) (Nat.le_refl _) hg, hnil, by omega, hm, ⟨A.map (·.add j), n - j, c - j, ?_, hcut.only (Only.set _ _ _ _) (Nat.le_refl _) hg, ?_, by omega, by unfold maxLen; omega⟩, Only.set _ _ _ _, by simp [World.setCell]⟩
          · rw [heap_set HH.out]
            rfl
          · intro h
            have := hnil (by simpa using h)
            omega
  · have HT := Lib.hid (show tk l e k = ([], l, e) by simp [tk, he])
    have he' : (e != 0) = true := by rw [bne_iff_ne]; exact he
    clear hh he
    go_enter Tryz.func167, Tryz.ntmps167
    go_wp2
    go_ret
    rw [HT.out]
    exact ⟨none, 0, 0, rfl, Byt.nil, fun _ => rfl, Nat.le_refl _, Nat.zero_le _, hC, Only.refl _ _, rfl⟩

theorem tk_len (l : List UInt8) (e k : Int) : (tk l e k).1.length ≤ k.toNat := by
  unfold tk
  split
  · simp
  · split
    · simp
    · simp [List.length_take]; omega

theorem or_step (o : List UInt8) (k : Nat) (x : UInt8) (hk : k < 8) (hx : o[k]? = some x) :
    bits .or .u64 ((num (o.take k) : Nat) : Int) (IntKind.u64.wrap (IntKind.u64.wrap ((x.toNat : Nat) : Int) * 2 ^ (8 * k))) = ((num (o.take (k + 1)) : Nat) : Int) := by
  have hx2 : x.toNat < 256 := x.toNat_lt
  obtain ⟨hko, _⟩ := List.getElem?_eq_some_iff.1 hx
  have hl : (o.take k).length = k := by rw [List.length_take]; omega
  have hlt := num_lt (o.take k)
  rw [hl] at hlt
  have h256 : (256 : Nat) ^ k = 2 ^ (8 * k) := by rw [Nat.pow_mul]
  have hp : (2 : Nat) ^ (8 * k) ≤ 2 ^ 56 := Nat.pow_le_pow_right (by decide) (by omega)
  have h56 : (2 : Nat) ^ 56 = 72057594037927936 := by decide
  have hmul : x.toNat * 2 ^ (8 * k) ≤ 255 * 72057594037927936 := by
    have := Nat.mul_le_mul (show x.toNat ≤ 255 by omega) (show (2 : Nat) ^ (8 * k) ≤ 72057594037927936 by omega)
    exact this
  have e1 : IntKind.u64.wrap ((x.toNat : Nat) : Int) = ((x.toNat : Nat) : Int) := by rw [IntKind.wrap_u64]; omega
  have e2 : ((x.toNat : Nat) : Int) * 2 ^ (8 * k) = ((x.toNat * 2 ^ (8 * k) : Nat) : Int) := by simp
  rw [e1, e2, IntKind.wrap_u64]
  rw [show ((x.toNat * 2 ^ (8 * k) : Nat) : Int) % 18446744073709551616 = ((x.toNat * 2 ^ (8 * k) : Nat) : Int) by omega]
  rw [u64_or_nat _ _ (by omega) (by omega)]
  have hs : num (o.take (k + 1)) = num (o.take k) + 256 ^ k * x.toNat := by
    rw [List.take_add_one, hx]
    show num (o.take k ++ [x]) = _
    rw [num_snoc, hl]
  rw [hs, Nat.or_comm, nat_join (8 * k) _ _ (Nat.mul_mod_left _ _) (by omega), h256, Nat.mul_comm, Nat.add_comm]

set_option maxHeartbeats 1000000 in
theorem number_q (g : Nat) (l : List UInt8) (e w : Int) (j : Nat) (hj : j ≤ 8) (HQ : Hid (bitsW w = 8 * j)) (W : World) (hC : Cur W g l e) :
    Calls Tryz.prog 116 #[.pointer (some ⟨g, 0, none⟩), .int .i64 w] W fun r W' => r = .returned (.int .u64 ((num (tk l e j).1 : Nat) : Int)) ∧
      Cur W' g (tk l e j).2.1 (tk l e j).2.2 ∧ Only g W W' ∧ W'.heap.size = W.heap.size := by
  have hlen := tk_len l e j
  rw [Int.toNat_natCast] at hlen
  go_enter Tryz.func116, Tryz.ntmps116
  go_wp2_with (first
    | (go_at_call 168; refine (bitsOf_q _ _ HQ.out _).mono ?_; rintro e w' ⟨rfl, rfl⟩)
    | (go_at_call 167; refine (take_any g l e _ (by omega) _ hC).mono ?_; rintro r w1 ⟨A, n, c, rfl, hl1, hnil1, hnc1, hm1, hC1, ho1, hz1⟩))
  generalize hT : (tk l e j).1 = o at hl1 hlen
  have HT := Lib.hid hT
  clear hT
  have hn8 : n ≤ 8 := by have := hl1.1; omega
  clear hlen
  go_loop [5, 6, 7, 14] (fun xs ii xx i => ∃ k : Nat, k ≤ n ∧ i = .int .i64 k ∧ xs = .int .u64 ((num (o.take k) : Nat) : Int))
    (fun _ _ _ i => n - (intOf i).toNat)
  case atStart => exact ⟨0, by omega, rfl, by simp [num]⟩
  case round =>
    obtain ⟨k, hk, rfl, rfl⟩ := hrel
    by_cases hlt : k < n
    · obtain ⟨b, off, x, rfl, hb, hx, hc⟩ := hl1.at_ hlt
      have hs := Lib.hid (or_step o k x (by omega) hx)
      go_wp2
      go_round
      case rel => exact ⟨k + 1, by omega, by go_num, by rw [hs.out]⟩
      case measure => simp [intOf]; omega
    · go_wp2
      go_ret
      have hkn : k = n := by omega
      have ho : o.take k = o := List.take_of_length_le (by rw [hl1.1]; omega)
      rw [ho] at *
      exact ⟨by rw [HT.out]; rfl, hC1, ho1, hz1⟩

set_option maxHeartbeats 1000000 in
theorem err_any (g : Nat) (l : List UInt8) (e : Int) (W : World) (hC : Cur W g l e) :
    Calls Tryz.prog 117 #[.pointer (some ⟨g, 0, none⟩)] W fun r W' => r = .returned (.int .i64 e) ∧ W = W' := by
  obtain ⟨A, n, c, hh, hl, hnil, hnc, hm⟩ := hC
  have c1 := cell_of_row W g 1 _ _ _ hh
  simp at c1
  clear hh
  go_enter Tryz.func117, Tryz.ntmps117
  go_wp2
  go_ret
  exact ⟨rfl, rfl⟩

set_option maxHeartbeats 1000000 in
theorem left_any (g : Nat) (l : List UInt8) (e : Int) (W : World) (hC : Cur W g l e) :
    Calls Tryz.prog 169 #[.pointer (some ⟨g, 0, none⟩)] W fun r W' => r = .returned (.int .i64 (l.length : Nat)) ∧ W = W' := by
  obtain ⟨A, n, c, hh, hl, hnil, hnc, hm⟩ := hC
  have c0 := cell_of_row W g 0 _ _ _ hh
  simp at c0
  clear hh
  have HL := Lib.hid hl.1
  go_enter Tryz.func169, Tryz.ntmps169
  go_wp2
  go_ret
  exact ⟨by rw [HL.out]; rfl, rfl⟩

/-- What Done answers. -/
def doneE (l : List UInt8) (e : Int) : Int := if e = 0 ∧ l ≠ [] then 2 else e

set_option maxHeartbeats 1000000 in
theorem done_any (g : Nat) (l : List UInt8) (e : Int) (W : World) (hC : Cur W g l e) :
    Calls Tryz.prog 121 #[.pointer (some ⟨g, 0, none⟩)] W fun r W' => r = .returned (.int .i64 (doneE l e)) ∧ W = W' := by
  by_cases he : e = 0
  · subst he
    by_cases hl : l = []
    · subst hl
      have HD := Lib.hid (show doneE [] 0 = 0 from rfl)
      go_enter Tryz.func121, Tryz.ntmps121
      go_wp2_with (first
        | (go_at_call 117; refine (err_any g _ _ _ hC).mono ?_; rintro r w' ⟨rfl, rfl⟩)
        | (go_at_call 169; refine (left_any g _ _ _ hC).mono ?_; rintro r w' ⟨rfl, rfl⟩))
      go_ret
      exact ⟨rfl, rfl⟩
    · have HD := Lib.hid (show doneE l 0 = 2 by simp [doneE, hl])
      have hpos : 0 < l.length := List.length_pos_iff.2 hl
      clear hl
      go_enter Tryz.func121, Tryz.ntmps121
      go_wp2_with (first
        | (go_at_call 117; refine (err_any g _ _ _ hC).mono ?_; rintro r w' ⟨rfl, rfl⟩)
        | (go_at_call 169; refine (left_any g _ _ _ hC).mono ?_; rintro r w' ⟨rfl, rfl⟩))
      go_ret
      exact ⟨by rw [HD.out]; rfl, rfl⟩
  · have HD := Lib.hid (show doneE l e = e by simp [doneE, he])
    have he' : (e == 0) = false := beq_eq_false_iff_ne.2 he
    clear he
    go_enter Tryz.func121, Tryz.ntmps121
    go_wp2_with (first
      | (go_at_call 117; refine (err_any g _ _ _ hC).mono ?_; rintro r w' ⟨rfl, rfl⟩)
      | (go_at_call 169; refine (left_any g _ _ _ hC).mono ?_; rintro r w' ⟨rfl, rfl⟩))
    go_ret
    exact ⟨by rw [HD.out]; rfl, rfl⟩

set_option maxHeartbeats 1000000 in
/-- slices.Clone of bytes. -/
theorem clone_any (B : Nat) (A : Option Addr) (n c : Nat) (l : List UInt8) (W : World) (hl : Byt W B A n l) (hB : B ≤ W.heap.size) (hnil : A = none → c = 0) (hn : n ≤ 140737488355328) :
    Calls Tryz.prog 166 #[.slice A n c] W fun r W' => ∃ v, r = .returned v ∧ W'.ownsRow W.heap.size 5 1 v n (l.map bv) ∧ Below W.heap.size W W' := by
  obtain ⟨i0, hi, hz0, hz1, hz2⟩ := info_parts Tryz.info5
  rcases A with _ | ad
  · have hl0 : n = 0 ∧ l = [] := by
      by_cases h0 : n = 0
      · subst h0; exact ⟨rfl, List.eq_nil_of_length_eq_zero hl.1⟩
      · obtain ⟨b, o, h, _⟩ := hl.2 (by omega)
        cases h
    obtain ⟨rfl, rfl⟩ := hl0
    obtain rfl := hnil rfl
    have hne := fun w => Lib.run_eql_slice_nil (P := Tryz.prog) w 70 5 none 0 0 0 0 Tryz.underlying70
    go_enter Tryz.func166, Tryz.ntmps166
    go_wp2
    go_ret
    exact ⟨_, rfl, World.ownsRow_nil _ _ _ _, Below.refl _ _⟩
  · have hne := fun w => Lib.run_eql_slice_nil (P := Tryz.prog) w 70 5 (some ad) n c 0 0 Tryz.underlying70
    go_enter Tryz.func166, Tryz.ntmps166
    go_wp2_with (at_builtin; refine wpList_append_byt _ rfl (.tmp 5) (.tmp 6) 70 rfl W.heap.size 5 i0 (.int .u8 0) Tryz.underlying70 hi hz0 hz1 hz2 rfl _ 0 [] rfl (World.ownsRow_made W #[] 0 (Nat.le_refl _) (Nat.zero_le _) rfl) B (some ad) n c l rfl (hl.alloc hB _) hnil (by omega) (by simp) ?_)
    intro v1 w1 hown1 hg1
    have hb1 : Below W.heap.size W w1 := ((Below.refl W.heap.size W).alloc (Nat.le_refl _) _).grown hg1 (by simp) (fun k h => by cases h; exact Nat.le_refl _)
    clear hg1
    go_wp2
    go_ret
    exact ⟨v1, rfl, by simpa using hown1, hb1⟩

set_option maxHeartbeats 1000000 in
theorem newCursor_any (B : Nat) (A : Option Addr) (n c : Nat) (l : List UInt8) (W : World) (hl : Byt W B A n l) (hB : B ≤ W.heap.size) (hnil : A = none → c = 0) (hn : n ≤ 140737488355328) :
    Calls Tryz.prog 115 #[.slice A n c] W fun r W' => ∃ g, r = .returned (.pointer (some ⟨g, 0, none⟩)) ∧ W.heap.size ≤ g ∧ Cur W' g l 0 ∧ Below W.heap.size W W' := by
  go_enter Tryz.func115, Tryz.ntmps115
  go_wp2_with (first
    | (go_at_call 166; refine (clone_any B A n c l _ hl hB hnil hn).mono ?_; rintro r w1 ⟨v, rfl, hown, hb⟩; obtain ⟨A1, c1, rfl, hnil1, hnc1, hm1⟩ := own_form hown))
  go_ret
  refine ⟨w1.heap.size, rfl, hb.size, ⟨A1, n, c1, heap_alloc_new _ _, (Byt.of_own hown).alloc (Nat.le_refl _) _, fun h => (hnil1 h).2, hnc1, hm1⟩, hb.alloc hb.size _⟩

theorem tk_le (l : List UInt8) (e k : Int) : (tk l e k).1.length ≤ l.length := by
  unfold tk
  split
  · simp
  · split
    · simp
    · simp [List.length_take]; omega

/-- Text: what it gives, what is left, the error. -/
def tx (l : List UInt8) (e : Int) (j : Nat) (most : Int) : List UInt8 × List UInt8 × Int :=
  let n := num (tk l e j).1
  let l1 := (tk l e j).2.1
  let e1 := (tk l e j).2.2
  if e1 ≠ 0 then ([], l1, e1) else if most < 0 ∨ most < (n : Int) then ([], l1, 2) else tk l1 e1 n

set_option maxHeartbeats 2000000 in
theorem text_q (g : Nat) (l : List UInt8) (e w most : Int) (hmost : most ≤ 9223372036854775807) (j : Nat) (hj : j ≤ 8) (HQ : Hid (bitsW w = 8 * j)) (W : World) (hC : Cur W g l e) :
    Calls Tryz.prog 118 #[.pointer (some ⟨g, 0, none⟩), .int .i64 w, .int .i64 most] W fun r W' => r = .returned (.string ⟨(tx l e j most).1.toArray⟩) ∧
      Cur W' g (tx l e j most).2.1 (tx l e j most).2.2 ∧ Only g W W' ∧ W'.heap.size = W.heap.size := by
  have hnm := num_max (tk l e j).1 (by have := tk_len l e j; rw [Int.toNat_natCast] at this; omega)
  have HX := Lib.hid (show tx l e j most = (if (tk l e j).2.2 ≠ 0 then ([], (tk l e j).2.1, (tk l e j).2.2) else if most < 0 ∨ most < ((num (tk l e j).1 : Nat) : Int) then ([], (tk l e j).2.1, 2) else tk (tk l e j).2.1 (tk l e j).2.2 ((num (tk l e j).1 : Nat) : Int)) from rfl)
  have H1 := Lib.hid (number_q g l e w j hj HQ W hC)
  generalize num (tk l e j).1 = n at hnm HX H1
  generalize (tk l e j).2.1 = l1 at HX H1
  generalize (tk l e j).2.2 = e1 at HX H1
  generalize tx l e j most = X at HX ⊢
  by_cases he : e1 = 0
  · subst he
    by_cases hm0 : most < 0
    · have HY := Lib.hid (show X = ([], l1, 2) by rw [HX.out, if_neg (by simp), if_pos (Or.inl hm0)])
      clear HX
      go_enter Tryz.func118, Tryz.ntmps118
      go_wp2_with (first
        | (go_at_call 116; refine H1.out.mono ?_; rintro r w1 ⟨rfl, hC1, ho1, hz1⟩; obtain ⟨A, q, c, HH, c0, c1, f0, f1, hb1⟩ := hC1.fields)
        | (go_at_call 117; refine (err_any g _ _ _ hC1).mono ?_; rintro r w' ⟨rfl, rfl⟩))
      go_ret
      rw [HY.out]
      exact ⟨rfl, hC1.setErr 2, ho1.trans (Only.set _ _ _ _), by simpa [World.setCell] using hz1⟩
    · by_cases hm1 : most < (n : Int)
      · have HY := Lib.hid (show X = ([], l1, 2) by rw [HX.out, if_neg (by simp), if_pos (Or.inr hm1)])
        clear HX
        go_enter Tryz.func118, Tryz.ntmps118
        go_wp2_with (first
          | (go_at_call 116; refine H1.out.mono ?_; rintro r w1 ⟨rfl, hC1, ho1, hz1⟩; obtain ⟨A, q, c, HH, c0, c1, f0, f1, hb1⟩ := hC1.fields)
          | (go_at_call 117; refine (err_any g _ _ _ hC1).mono ?_; rintro r w' ⟨rfl, rfl⟩))
        go_ret
        rw [HY.out]
        exact ⟨rfl, hC1.setErr 2, ho1.trans (Only.set _ _ _ _), by simpa [World.setCell] using hz1⟩
      · have HY := Lib.hid (show X = tk l1 0 (n : Int) by rw [HX.out, if_neg (by simp), if_neg (by omega)])
        clear HX
        go_enter Tryz.func118, Tryz.ntmps118
        go_wp2_with (first
          | (go_at_call 116; refine H1.out.mono ?_; rintro r w1 ⟨rfl, hC1, ho1, hz1⟩)
          | (go_at_call 117; refine (err_any g _ _ _ hC1).mono ?_; rintro r w' ⟨rfl, rfl⟩)
          | (go_at_call 167; refine (take_any g l1 0 _ (by omega) _ hC1).mono ?_; rintro r w2 ⟨A, q, c, rfl, hl2, hnil2, hnc2, hm2, hC2, ho2, hz2⟩; have hcv := run_string_byt (P := Tryz.prog) 70 9 5 (c := c) Tryz.underlying70 Tryz.underlying5 Tryz.underlying9 hl2))
        go_ret
        rw [HY.out]
        exact ⟨rfl, hC2, ho1.trans ho2, hz2.trans hz1⟩
  · have HY := Lib.hid (show X = ([], l1, e1) by rw [HX.out, if_pos he])
    have he' : (e1 != 0) = true := by rw [bne_iff_ne]; exact he
    clear HX he
    go_enter Tryz.func118, Tryz.ntmps118
    go_wp2_with (first
      | (go_at_call 116; refine H1.out.mono ?_; rintro r w1 ⟨rfl, hC1, ho1, hz1⟩)
      | (go_at_call 117; refine (err_any g _ _ _ hC1).mono ?_; rintro r w' ⟨rfl, rfl⟩))
    go_ret
    rw [HY.out]
    exact ⟨rfl, hC1, ho1, hz1⟩

end Go.Proofs.YthjikbhjciphiaaGreatDoor
