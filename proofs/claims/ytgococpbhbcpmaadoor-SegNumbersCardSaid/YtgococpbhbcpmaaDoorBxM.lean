/-
  Boxes: the box at the beginning of bytes, all boxes from the beginning on, boxes that are cut off, a box that is spoilt. No program stands here.
-/
import Derived.Test.YtgococpbhbcpmaaDoorCrcSp
namespace Go.Proofs.YtgococpbhbcpmaaDoor
open Go.RowKit
set_option linter.unusedVariables false
set_option linter.unusedSimpArgs false

/-- The box of bytes. -/
def boxC (b : List UInt8) : List UInt8 := sealC (le 2 b.length ++ b)
theorem boxC_len (b : List UInt8) : (boxC b).length = b.length + 6 := by
  unfold boxC
  rw [sealC_len, List.length_append, le_len]
  omega
/-- The number that a box begins with. -/
def nB (r : List UInt8) : Nat := num (r.take 2)
/-- The box at the beginning: its bytes, its size, what is wrong. -/
def headC (r : List UInt8) : List UInt8 × Nat × Int :=
  if r.length < 2 then ([], 0, 1) else if nB r = 0 then ([], 0, 2) else if 4096 < nB r then ([], 0, 3) else if r.length < nB r + 6 then ([], 0, 1)
  else if boxC ((r.drop 2).take (nB r)) = r.take (nB r + 6) then ((r.drop 2).take (nB r), nB r + 6, 0) else ([], 0, 4)
/-- The box at a place: its bytes, the place behind it, what is wrong. -/
def nextC (l : List UInt8) (a : Int) : List UInt8 × Nat × Int :=
  if a < 0 ∨ (l.length : Int) < a then ([], 0, 6) else if (headC (l.drop a.toNat)).2.2 = 0 then ((headC (l.drop a.toNat)).1, a.toNat + (headC (l.drop a.toNat)).2.1, 0) else ([], 0, (headC (l.drop a.toNat)).2.2)
/-- All boxes from the beginning on, and where they end. -/
def validF : Nat → List UInt8 → List (List UInt8) × Nat
  | 0, _ => ([], 0)
  | f + 1, r => if (headC r).2.2 = 0 then ((headC r).1 :: (validF f (r.drop (headC r).2.1)).1, (headC r).2.1 + (validF f (r.drop (headC r).2.1)).2) else ([], 0)
def validC (r : List UInt8) : List (List UInt8) × Nat := validF r.length r

theorem nB_le (r : List UInt8) : nB r < 65536 := by
  have h := num_lt (r.take 2)
  have h2 : (r.take 2).length ≤ 2 := by rw [List.length_take]; omega
  exact Nat.lt_of_lt_of_le h (Nat.le_trans (Nat.pow_le_pow_right (by decide) h2) (by decide))
/-- What a head is. -/
theorem head_cases (r : List UInt8) : ((headC r).2.2 = 0 ∧ 1 ≤ nB r ∧ nB r ≤ 4096 ∧ nB r + 6 ≤ r.length ∧ (headC r).1 = (r.drop 2).take (nB r) ∧ (headC r).2.1 = nB r + 6 ∧ boxC (headC r).1 = r.take (nB r + 6)) ∨ ((headC r).2.2 ≠ 0 ∧ (headC r).1 = [] ∧ (headC r).2.1 = 0) := by
  unfold headC
  split
  · exact .inr ⟨by decide, rfl, rfl⟩
  · split
    · exact .inr ⟨by decide, rfl, rfl⟩
    · split
      · exact .inr ⟨by decide, rfl, rfl⟩
      · split
        · exact .inr ⟨by decide, rfl, rfl⟩
        · split
          · rename_i h
            exact .inl ⟨rfl, by omega, by omega, by omega, rfl, rfl, h⟩
          · exact .inr ⟨by decide, rfl, rfl⟩
theorem head_size (r : List UInt8) (h : (headC r).2.2 = 0) : 7 ≤ (headC r).2.1 ∧ (headC r).2.1 ≤ r.length ∧ (headC r).1.length + 6 = (headC r).2.1 ∧ (headC r).2.1 ≤ 4102 := by
  rcases head_cases r with ⟨_, h1, h2, h3, h4, h5, _⟩ | ⟨h0, _⟩
  · rw [h4, h5, List.length_take, List.length_drop]
    omega
  · exact absurd h h0
theorem boxC_head (b r : List UInt8) : (boxC b ++ r).take 2 = le 2 b.length ∧ ((boxC b ++ r).drop 2).take b.length = b := by
  have h2 := le_len 2 b.length
  have e : boxC b ++ r = le 2 b.length ++ (b ++ (le 4 (crcSum (le 2 b.length ++ b)) ++ r)) := by
    unfold boxC sealC
    simp [List.append_assoc]
  rw [e, List.take_left' h2, List.drop_left' h2, List.take_left' rfl]
  exact ⟨rfl, rfl⟩
/-- A box at the beginning is found. -/
theorem head_box (b r : List UInt8) (h1 : 1 ≤ b.length) (h2 : b.length ≤ 4096) : headC (boxC b ++ r) = (b, b.length + 6, 0) := by
  obtain ⟨e1, e2⟩ := boxC_head b r
  have hl := boxC_len b
  have hn : nB (boxC b ++ r) = b.length := by
    unfold nB
    rw [e1, num_le]
    exact Nat.mod_eq_of_lt (by omega)
  have ht : (boxC b ++ r).take (b.length + 6) = boxC b := List.take_left' hl
  unfold headC
  rw [hn, if_neg (by rw [List.length_append, hl]; omega), if_neg (by omega), if_neg (by omega), if_neg (by rw [List.length_append, hl]; omega), e2, ht, if_pos rfl]
/-- A box that is cut off is none. -/
theorem head_torn (b : List UInt8) (m : Nat) (h1 : 1 ≤ b.length) (h2 : b.length ≤ 4096) (hm : m < b.length + 6) : (headC ((boxC b).take m)).2.2 = 1 := by
  have hl := boxC_len b
  have hlen : ((boxC b).take m).length = m := by rw [List.length_take]; omega
  unfold headC
  by_cases h0 : m < 2
  · rw [if_pos (by omega)]
  · have e1 := (boxC_head b []).1
    rw [List.append_nil] at e1
    have hn : nB ((boxC b).take m) = b.length := by
      unfold nB
      rw [List.take_take, Nat.min_eq_left (by omega), e1, num_le]
      exact Nat.mod_eq_of_lt (by omega)
    rw [hn, if_neg (by omega), if_neg (by omega), if_neg (by omega), if_pos (by omega)]

theorem validF_more : ∀ (f : Nat) (r : List UInt8), r.length ≤ f → validF f r = validF r.length r := by
  intro f
  induction f using Nat.strongRecOn with
  | ind f ih =>
    intro r hr
    cases f with
    | zero => rw [show r.length = 0 by omega]
    | succ f =>
      by_cases h0 : (headC r).2.2 = 0
      · obtain ⟨h1, h2, _⟩ := head_size r h0
        obtain ⟨k, hk⟩ : ∃ k, r.length = k + 1 := ⟨r.length - 1, by omega⟩
        have hd : (r.drop (headC r).2.1).length ≤ k := by rw [List.length_drop]; omega
        have hd2 : (r.drop (headC r).2.1).length ≤ f := by omega
        rw [hk]
        unfold validF
        rw [if_pos h0, if_pos h0, ih f (by omega) _ hd2]
        by_cases hkf : k = f
        · rw [hkf, ih f (by omega) _ hd2]
        · rw [ih k (by omega) _ hd]
      · have e1 : validF (f + 1) r = ([], 0) := by unfold validF; rw [if_neg h0]
        rw [e1]
        cases hl : r.length with
        | zero => rfl
        | succ k => unfold validF; rw [if_neg h0]
theorem valid_go (r : List UInt8) (h : (headC r).2.2 = 0) : validC r = ((headC r).1 :: (validC (r.drop (headC r).2.1)).1, (headC r).2.1 + (validC (r.drop (headC r).2.1)).2) := by
  obtain ⟨h1, h2, _⟩ := head_size r h
  obtain ⟨k, hk⟩ : ∃ k, r.length = k + 1 := ⟨r.length - 1, by omega⟩
  have hd : (r.drop (headC r).2.1).length ≤ k := by rw [List.length_drop]; omega
  have e := validF_more k (r.drop (headC r).2.1) hd
  unfold validC
  rw [hk]
  conv => lhs; unfold validF
  rw [if_pos h, e]
theorem valid_stop (r : List UInt8) (h : (headC r).2.2 ≠ 0) : validC r = ([], 0) := by
  unfold validC
  cases r.length with
  | zero => rfl
  | succ k => unfold validF; rw [if_neg h]
theorem valid_end (r : List UInt8) : (validC r).2 ≤ r.length ∧ (validC r).1.length ≤ r.length := by
  suffices h : ∀ n (r : List UInt8), r.length = n → (validC r).2 ≤ r.length ∧ (validC r).1.length ≤ r.length from h r.length r rfl
  intro n
  induction n using Nat.strongRecOn with
  | ind n ih =>
    intro r hr
    by_cases h0 : (headC r).2.2 = 0
    · obtain ⟨h1, h2, _⟩ := head_size r h0
      have hd : (r.drop (headC r).2.1).length = r.length - (headC r).2.1 := List.length_drop
      obtain ⟨i1, i2⟩ := ih _ (by omega) (r.drop (headC r).2.1) hd
      rw [valid_go r h0]
      simp only [List.length_cons]
      omega
    · rw [valid_stop r h0]
      exact ⟨Nat.zero_le _, Nat.zero_le _⟩

/-- Boxes, one behind the other. -/
def boxesC (l : List (List UInt8)) : List UInt8 := (l.map boxC).flatten
/-- Those of them that are whole within n bytes, and where they end. -/
def cutB : List (List UInt8) → Nat → List (List UInt8) × Nat
  | [], _ => ([], 0)
  | b :: t, n => if b.length + 6 ≤ n then (b :: (cutB t (n - (b.length + 6))).1, b.length + 6 + (cutB t (n - (b.length + 6))).2) else ([], 0)
theorem boxesC_cons (b : List UInt8) (t : List (List UInt8)) : boxesC (b :: t) = boxC b ++ boxesC t := by
  unfold boxesC; rw [List.map_cons, List.flatten_cons]
theorem boxesC_snoc (t : List (List UInt8)) (b : List UInt8) : boxesC (t ++ [b]) = boxesC t ++ boxC b := by
  unfold boxesC; simp
/-- Cut off anywhere: just those are valid that are whole. -/
theorem valid_cut : ∀ (l : List (List UInt8)) (n : Nat), (∀ b ∈ l, 1 ≤ b.length ∧ b.length ≤ 4096) → validC ((boxesC l).take n) = cutB l n := by
  intro l
  induction l with
  | nil =>
    intro n _
    show validC ((boxesC []).take n) = ([], 0)
    rw [show boxesC [] = [] from rfl, List.take_nil]
    rfl
  | cons b t ih =>
    intro n h
    obtain ⟨h1, h2⟩ := h b List.mem_cons_self
    have hl := boxC_len b
    unfold cutB
    rw [boxesC_cons, List.take_append, hl]
    by_cases hn : b.length + 6 ≤ n
    · rw [if_pos hn, List.take_of_length_le (by omega)]
      have hh := head_box b ((boxesC t).take (n - (b.length + 6))) h1 h2
      rw [valid_go _ (by rw [hh]), hh]
      simp only
      rw [List.drop_left' hl, ih _ (fun x hx => h x (List.mem_cons_of_mem _ hx))]
    · rw [if_neg hn, show n - (b.length + 6) = 0 by omega, List.take_zero, List.append_nil]
      exact valid_stop _ (by rw [head_torn b n h1 h2 (by omega)]; decide)
/-- All bytes of boxes. -/
def lenB (l : List (List UInt8)) : Nat := (boxesC l).length
theorem lenB_cons (b : List UInt8) (t : List (List UInt8)) : lenB (b :: t) = b.length + 6 + lenB t := by
  unfold lenB; rw [boxesC_cons, List.length_append, boxC_len]
theorem lenB_snoc (t : List (List UInt8)) (b : List UInt8) : lenB (t ++ [b]) = lenB t + (b.length + 6) := by
  unfold lenB; rw [boxesC_snoc, List.length_append, boxC_len]
theorem cutB_all : ∀ (l : List (List UInt8)) (n : Nat), lenB l ≤ n → cutB l n = (l, lenB l) := by
  intro l
  induction l with
  | nil => intro n _; rfl
  | cons b t ih =>
    intro n h
    rw [lenB_cons] at h ⊢
    unfold cutB
    rw [if_pos (by omega), ih _ (by omega)]
theorem cutB_snoc : ∀ (l : List (List UInt8)) (b : List UInt8) (n : Nat), n < lenB (l ++ [b]) → cutB (l ++ [b]) n = cutB l n := by
  intro l
  induction l with
  | nil =>
    intro b n h
    rw [List.nil_append, lenB_cons] at h
    have : lenB [] = 0 := rfl
    show cutB [b] n = ([], 0)
    unfold cutB
    rw [if_neg (by omega)]
  | cons a t ih =>
    intro b n h
    rw [List.cons_append, lenB_cons] at h
    show cutB (a :: (t ++ [b])) n = cutB (a :: t) n
    unfold cutB
    by_cases hn : a.length + 6 ≤ n
    · rw [if_pos hn, if_pos hn, ih b _ (by omega)]
    · rw [if_neg hn, if_neg hn]

/-- A box that is spoilt behind its number is none. -/
theorem head_spoilt (b : List UInt8) (a : Nat) (x : List UInt8) (h1 : 1 ≤ b.length) (h2 : b.length ≤ 4096) (ha : a ≤ b.length) (hx : x.length = 4) (h0 : num x ≠ 0) :
    headC (xorL (boxC b) (List.replicate (2 + a) 0 ++ x ++ List.replicate (b.length - a) 0)) = ([], 0, 4) := by
  have hl := boxC_len b
  have h2l := le_len 2 b.length
  have hs := spoilt (le 2 b.length ++ b) (b.length + 2) (2 + a) x (by rw [List.length_append, h2l]; omega) (by omega) hx h0
  rw [show b.length + 2 - (2 + a) = b.length - a by omega] at hs
  change isSeal (xorL (boxC b) (List.replicate (2 + a) 0 ++ x ++ List.replicate (b.length - a) 0)) = false at hs
  have hd : (List.replicate (2 + a) (0 : UInt8) ++ x ++ List.replicate (b.length - a) 0).length = b.length + 6 := by simp [hx]; omega
  have ht2 : (xorL (boxC b) (List.replicate (2 + a) 0 ++ x ++ List.replicate (b.length - a) 0)).take 2 = le 2 b.length := by
    have e1 := (boxC_head b []).1
    rw [List.append_nil] at e1
    unfold xorL
    rw [List.take_zipWith, e1, List.append_assoc, ← List.replicate_append_replicate, List.append_assoc, List.take_left' (by simp)]
    have := xorL_zeros (le 2 b.length)
    unfold xorL at this
    rw [h2l] at this
    exact this
  have hlen : (xorL (boxC b) (List.replicate (2 + a) 0 ++ x ++ List.replicate (b.length - a) 0)).length = b.length + 6 := by rw [xorL_len _ _ (by rw [hl, hd]), hl]
  generalize xorL (boxC b) (List.replicate (2 + a) 0 ++ x ++ List.replicate (b.length - a) 0) = s at hs ht2 hlen
  have hn : nB s = b.length := by
    unfold nB
    rw [ht2, num_le]
    exact Nat.mod_eq_of_lt (by omega)
  unfold headC
  rw [hn, if_neg (by omega), if_neg (by omega), if_neg (by omega), if_neg (by omega), if_neg]
  intro e
  have e2 : s.take (b.length + 6) = s := List.take_of_length_le (by omega)
  rw [e2] at e
  have := isSeal_sealC (le 2 ((s.drop 2).take b.length).length ++ (s.drop 2).take b.length)
  change isSeal (boxC ((s.drop 2).take b.length)) = true at this
  rw [e, hs] at this
  cases this

end Go.Proofs.YtgococpbhbcpmaaDoor
