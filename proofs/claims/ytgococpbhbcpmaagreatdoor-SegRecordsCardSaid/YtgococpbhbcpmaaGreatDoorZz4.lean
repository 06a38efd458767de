/-
  The walk of the law CrcSeals.
-/
import Derived.Test.YtgococpbhbcpmaaGreatDoorZz3
import Derived.Test.YtgococpbhbcpmaaGreatDoorZz1
import Derived.Laws.Rows
import Derived.Laws.Tables
namespace Go.Proofs.YtgococpbhbcpmaaGreatDoor
open Go.RowKit
set_option linter.unusedVariables false
set_option linter.unusedSimpArgs false

theorem num_inj (l : List UInt8) : ∀ (m : List UInt8), l.length = m.length → num l = num m → l = m := by
  induction l with
  | nil => intro m h _; exact (List.eq_nil_of_length_eq_zero h.symm).symm
  | cons b l ih =>
    intro m h e
    rcases m with _ | ⟨c, m⟩
    · simp at h
    · have hb := b.toNat_lt
      have hc := c.toNat_lt
      have e' : b.toNat + 256 * num l = c.toNat + 256 * num m := e
      have h1 : b = c := UInt8.toNat_inj.1 (by omega)
      rw [h1, ih m (by simpa using h) (by omega)]
theorem sealC_len (l : List UInt8) : (sealC l).length = l.length + 4 := by unfold sealC; rw [List.length_append, le_len]
theorem num_le4 (x : Nat) (h : x ≤ 4294967295) : num (le 4 x) = x := by rw [num_le, show (256 : Nat) ^ 4 = 4294967296 by decide]; omega
theorem sealC_take (l : List UInt8) : (sealC l).take l.length = l := by unfold sealC; simp
theorem sealC_drop (l : List UInt8) : (sealC l).drop l.length = le 4 (crcSum l) := by unfold sealC; simp
theorem isSeal_sealC (l : List UInt8) : isSeal (sealC l) = true := by
  unfold isSeal
  rw [sealC_len, show l.length + 4 - 4 = l.length by omega, sealC_take, sealC_drop, num_le4 _ (crcSum_le l)]
  simp
theorem openB_sealC (l : List UInt8) : openB (sealC l) = l := by
  unfold openB
  rw [isSeal_sealC, if_pos rfl, sealC_len, show l.length + 4 - 4 = l.length by omega, sealC_take]
theorem isSeal_eq (l : List UInt8) (m : Nat) (h : l.length = m + 4) : decide (sealC (l.take m) = l) = isSeal l := by
  have hd : (l.drop m).length = 4 := by rw [List.length_drop, h]; omega
  have hs := crcSum_le (l.take m)
  unfold isSeal
  rw [h, show m + 4 - 4 = m by omega]
  rw [Bool.eq_iff_iff]
  simp only [decide_eq_true_eq, Bool.and_eq_true]
  constructor
  · intro e
    refine ⟨by omega, ?_⟩
    have h1 : (sealC (l.take m)).drop m = l.drop m := by rw [e]
    have h2 := sealC_drop (l.take m)
    rw [List.length_take, h, Nat.min_eq_left (by omega), h1] at h2
    rw [h2, num_le4 _ hs]
  · rintro ⟨_, e⟩
    have h1 : l.drop m = le 4 (crcSum (l.take m)) := num_inj _ _ (by rw [hd, le_len]) (by rw [e, num_le4 _ hs])
    unfold sealC
    rw [← h1, List.take_append_drop]
theorem isSeal_short (l : List UInt8) (h : l.length < 4) : isSeal l = false := by unfold isSeal; simp; omega
theorem openB_not (l : List UInt8) (h : isSeal l = false) : openB l = [] := by unfold openB; rw [h]; rfl
theorem openB_is (l : List UInt8) (m : Nat) (hm : l.length = m + 4) (h : isSeal l = true) : openB l = l.take m := by unfold openB; rw [h, hm]; rfl

end Go.Proofs.YtgococpbhbcpmaaGreatDoor

/-
  What is spoilt is no seal. No program stands here.
-/
namespace Go.Proofs.YtgococpbhbcpmaaGreatDoor
open Go.RowKit
set_option linter.unusedVariables false
set_option linter.unusedSimpArgs false

theorem xor_cancel {p a b : Nat} (h : p ^^^ a = p ^^^ b) : a = b := by
  have h2 : p ^^^ (p ^^^ a) = p ^^^ (p ^^^ b) := by rw [h]
  simpa [← Nat.xor_assoc] using h2
theorem isSeal_any (e : List UInt8) (n : Nat) (h : e.length = n + 4) : isSeal e = decide (num (e.drop n) = crcSum (e.take n)) := by
  unfold isSeal
  rw [h, show n + 4 - 4 = n by omega, decide_eq_true (show 4 ≤ n + 4 by omega), Bool.true_and]
theorem crcSum_xor (l : List UInt8) : crcSum l = crcReg 4294967295 l ^^^ 4294967295 := by
  unfold crcSum
  rw [sub_xor _ (crcReg_lt l (by decide))]
theorem xorL_len (s d : List UInt8) (h : s.length = d.length) : (xorL s d).length = s.length := by unfold xorL; rw [List.length_zipWith, ← h, Nat.min_self]
theorem spoilt (l : List UInt8) (n a : Nat) (x : List UInt8) (hn : l.length = n) (ha : a ≤ n) (hx : x.length = 4) (h0 : num x ≠ 0) :
    isSeal (xorL (sealC l) (List.replicate a 0 ++ x ++ List.replicate (n - a) 0)) = false := by
  have hd : (List.replicate a (0 : UInt8) ++ x ++ List.replicate (n - a) 0).length = n + 4 := by simp [hx]; omega
  have hb := burst a n x hx h0 ha _ rfl
  generalize List.replicate a (0 : UInt8) ++ x ++ List.replicate (n - a) 0 = d at hd hb ⊢
  have hs : (sealC l).length = n + 4 := by rw [sealC_len, hn]
  have he : (xorL (sealC l) d).length = n + 4 := by rw [xorL_len _ _ (by rw [hs, hd]), hs]
  rw [isSeal_any _ n he]
  have h1 : (xorL (sealC l) d).take n = xorL l (d.take n) := by
    unfold xorL
    rw [List.take_zipWith]
    congr 1
    have := sealC_take l
    rwa [hn] at this
  have h2 : (xorL (sealC l) d).drop n = xorL (le 4 (crcSum l)) (d.drop n) := by
    unfold xorL
    rw [List.drop_zipWith]
    congr 1
    have := sealC_drop l
    rwa [hn] at this
  have hdt : (d.take n).length = n := by rw [List.length_take, hd]; omega
  have hdd : (d.drop n).length = 4 := by rw [List.length_drop, hd]; omega
  rw [h1, h2, num_xor _ _ (by rw [le_len, hdd]), num_le4 _ (crcSum_le l), decide_eq_false_iff_not]
  intro e
  apply hb
  have hc := crcReg_xor l (d.take n) 4294967295 0 (by rw [hn, hdt])
  rw [Nat.xor_zero] at hc
  rw [crcSum_xor, crcSum_xor, hc] at e
  have e2 : (crcReg 4294967295 l ^^^ 4294967295) ^^^ num (d.drop n) = (crcReg 4294967295 l ^^^ 4294967295) ^^^ crcReg 0 (d.take n) := by
    rw [e, Nat.xor_assoc, Nat.xor_assoc, Nat.xor_comm 4294967295]
  exact (xor_cancel e2).symm

/-- The loop's steps. -/
def sp (s : List UInt8) (a : Nat) (x : List UInt8) : Nat → List UInt8
  | 0 => s
  | k + 1 => (sp s a x k).set (a + k) ((sp s a x k).getD (a + k) 0 ^^^ x.getD k 0)
theorem sp_len (s : List UInt8) (a : Nat) (x : List UInt8) (k : Nat) : (sp s a x k).length = s.length := by
  induction k with
  | zero => rfl
  | succ k ih => simp [sp, ih]
theorem xorL_zeros (p : List UInt8) : xorL p (List.replicate p.length 0) = p := by
  unfold xorL
  induction p with
  | nil => rfl
  | cons b p ih => rw [List.length_cons, List.replicate_succ, List.zipWith_cons_cons, ih]; simp
theorem list4u (l : List UInt8) (h : l.length = 4) : ∃ a b c d, l = [a, b, c, d] := by
  match l, h with
  | [a, b, c, d], _ => exact ⟨a, b, c, d, rfl⟩
theorem sp_four (s : List UInt8) (a n : Nat) (x : List UInt8) (hs : s.length = n + 4) (ha : a ≤ n) (hx : x.length = 4) :
    sp s a x 4 = xorL s (List.replicate a 0 ++ x ++ List.replicate (n - a) 0) := by
  obtain ⟨x0, x1, x2, x3, rfl⟩ := list4u x hx
  have h1 : s = s.take a ++ (s.drop a).take 4 ++ (s.drop a).drop 4 := by rw [List.append_assoc, List.take_append_drop, List.take_append_drop]
  obtain ⟨y0, y1, y2, y3, hy⟩ := list4u ((s.drop a).take 4) (by rw [List.length_take, List.length_drop, hs]; omega)
  have hp : (s.take a).length = a := by rw [List.length_take, hs]; omega
  have hq : ((s.drop a).drop 4).length = n - a := by rw [List.length_drop, List.length_drop, hs]; omega
  rw [hy] at h1
  generalize s.take a = p at h1 hp
  generalize (s.drop a).drop 4 = q at h1 hq
  clear hy
  subst h1
  subst hp
  have hz : xorL (p ++ [y0, y1, y2, y3] ++ q) (List.replicate p.length 0 ++ [x0, x1, x2, x3] ++ List.replicate (n - p.length) 0) = p ++ [y0 ^^^ x0, y1 ^^^ x1, y2 ^^^ x2, y3 ^^^ x3] ++ q := by
    unfold xorL
    rw [List.zipWith_append (by simp), List.zipWith_append (by simp)]
    have e1 := xorL_zeros p
    have e2 := xorL_zeros q
    unfold xorL at e1 e2
    rw [hq] at e2
    rw [e1, e2]
    rfl
  rw [hz]
  simp [sp, List.getD_eq_getElem?_getD, List.set_append]

end Go.Proofs.YtgococpbhbcpmaaGreatDoor

/-
  Boxes: the box at the beginning of bytes, all boxes from the beginning on, boxes that are cut off, a box that is spoilt. No program stands here.
-/
namespace Go.Proofs.YtgococpbhbcpmaaGreatDoor
open Go.RowKit
set_option linter.unusedVariables false
set_option linter.unusedSimpArgs false

/-- The box of bytes. -/
def boxC (b : List UInt8) : List UInt8 := sealC (le 2 b.length ++ b)
theorem boxC_len (b : List UInt8) : (boxC b).length = b.length + 6 := by
  unfold boxC
  rw [sealC_len, List.length_append, le_len]
  omega
/-- The number that a box begins with. -/
def nB (r : List UInt8) : Nat := num (r.take 2)
/-- The box at the beginning: its bytes, its size, what is wrong. -/
def headC (r : List UInt8) : List UInt8 × Nat × Int :=
  if r.length < 2 then ([], 0, 1) else if nB r = 0 then ([], 0, 2) else if 4096 < nB r then ([], 0, 3) else if r.length < nB r + 6 then ([], 0, 1)
  else if boxC ((r.drop 2).take (nB r)) = r.take (nB r + 6) then ((r.drop 2).take (nB r), nB r + 6, 0) else ([], 0, 4)
/-- The box at a place: its bytes, the place behind it, what is wrong. -/
def nextC (l : List UInt8) (a : Int) : List UInt8 × Nat × Int :=
  if a < 0 ∨ (l.length : Int) < a then ([], 0, 6) else if (headC (l.drop a.toNat)).2.2 = 0 then ((headC (l.drop a.toNat)).1, a.toNat + (headC (l.drop a.toNat)).2.1, 0) else ([], 0, (headC (l.drop a.toNat)).2.2)
/-- All boxes from the beginning on, and where they end. -/
def validF : Nat → List UInt8 → List (List UInt8) × Nat
  | 0, _ => ([], 0)
  | f + 1, r => if (headC r).2.2 = 0 then ((headC r).1 :: (validF f (r.drop (headC r).2.1)).1, (headC r).2.1 + (validF f (r.drop (headC r).2.1)).2) else ([], 0)
def validC (r : List UInt8) : List (List UInt8) × Nat := validF r.length r

theorem nB_le (r : List UInt8) : nB r < 65536 := by
  have h := num_lt (r.take 2)
  have h2 : (r.take 2).length ≤ 2 := by rw [List.length_take]; omega
  exact Nat.lt_of_lt_of_le h (Nat.le_trans (Nat.pow_le_pow_right (by decide) h2) (by decide))
/-- What a head is. -/
theorem head_cases (r : List UInt8) : ((headC r).2.2 = 0 ∧ 1 ≤ nB r ∧ nB r ≤ 4096 ∧ nB r + 6 ≤ r.length ∧ (headC r).1 = (r.drop 2).take (nB r) ∧ (headC r).2.1 = nB r + 6 ∧ boxC (headC r).1 = r.take (nB r + 6)) ∨ ((headC r).2.2 ≠ 0 ∧ (headC r).1 = [] ∧ (headC r).2.1 = 0) := by
  unfold headC
  split
  · exact .inr ⟨by decide, rfl, rfl⟩
  · split
    · exact .inr ⟨by decide, rfl, rfl⟩
    · split
      · exact .inr ⟨by decide, rfl, rfl⟩
      · split
        · exact .inr ⟨by decide, rfl, rfl⟩
        · split
          · rename_i h
            exact .inl ⟨rfl, by omega, by omega, by omega, rfl, rfl, h⟩
          · exact .inr ⟨by decide, rfl, rfl⟩
theorem head_size (r : List UInt8) (h : (headC r).2.2 = 0) : 7 ≤ (headC r).2.1 ∧ (headC r).2.1 ≤ r.length ∧ (headC r).1.length + 6 = (headC r).2.1 ∧ (headC r).2.1 ≤ 4102 := by
  rcases head_cases r with ⟨_, h1, h2, h3, h4, h5, _⟩ | ⟨h0, _⟩
  · rw [h4, h5, List.length_take, List.length_drop]
    omega
  · exact absurd h h0
theorem boxC_head (b r : List UInt8) : (boxC b ++ r).take 2 = le 2 b.length ∧ ((boxC b ++ r).drop 2).take b.length = b := by
  have h2 := le_len 2 b.length
  have e : boxC b ++ r = le 2 b.length ++ (b ++ (le 4 (crcSum (le 2 b.length ++ b)) ++ r)) := by
    unfold boxC sealC
    simp [List.append_assoc]
  rw [e, List.take_left' h2, List.drop_left' h2, List.take_left' rfl]
  exact ⟨rfl, rfl⟩
/-- A box at the beginning is found. -/
theorem head_box (b r : List UInt8) (h1 : 1 ≤ b.length) (h2 : b.length ≤ 4096) : headC (boxC b ++ r) = (b, b.length + 6, 0) := by
  obtain ⟨e1, e2⟩ := boxC_head b r
  have hl := boxC_len b
  have hn : nB (boxC b ++ r) = b.length := by
    unfold nB
    rw [e1, num_le]
    exact Nat.mod_eq_of_lt (by omega)
  have ht : (boxC b ++ r).take (b.length + 6) = boxC b := List.take_left' hl
  unfold headC
  rw [hn, if_neg (by rw [List.length_append, hl]; omega), if_neg (by omega), if_neg (by omega), if_neg (by rw [List.length_append, hl]; omega), e2, ht, if_pos rfl]
/-- A box that is cut off is none. -/
theorem head_torn (b : List UInt8) (m : Nat) (h1 : 1 ≤ b.length) (h2 : b.length ≤ 4096) (hm : m < b.length + 6) : (headC ((boxC b).take m)).2.2 = 1 := by
  have hl := boxC_len b
  have hlen : ((boxC b).take m).length = m := by rw [List.length_take]; omega
  unfold headC
  by_cases h0 : m < 2
  · rw [if_pos (by omega)]
  · have e1 := (boxC_head b []).1
    rw [List.append_nil] at e1
    have hn : nB ((boxC b).take m) = b.length := by
      unfold nB
      rw [List.take_take, Nat.min_eq_left (by omega), e1, num_le]
      exact Nat.mod_eq_of_lt (by omega)
    rw [hn, if_neg (by omega), if_neg (by omega), if_neg (by omega), if_pos (by omega)]

theorem validF_more : ∀ (f : Nat) (r : List UInt8), r.length ≤ f → validF f r = validF r.length r := by
  intro f
  induction f using Nat.strongRecOn with
  | ind f ih =>
    intro r hr
    cases f with
    | zero => rw [show r.length = 0 by omega]
    | succ f =>
      by_cases h0 : (headC r).2.2 = 0
      · obtain ⟨h1, h2, _⟩ := head_size r h0
        obtain ⟨k, hk⟩ : ∃ k, r.length = k + 1 := ⟨r.length - 1, by omega⟩
        have hd : (r.drop (headC r).2.1).length ≤ k := by rw [List.length_drop]; omega
        have hd2 : (r.drop (headC r).2.1).length ≤ f := by omega
        rw [hk]
        unfold validF
        rw [if_pos h0, if_pos h0, ih f (by omega) _ hd2]
        by_cases hkf : k = f
        · rw [hkf, ih f (by omega) _ hd2]
        · rw [ih k (by omega) _ hd]
      · have e1 : validF (f + 1) r = ([], 0) := by unfold validF; rw [if_neg h0]
        rw [e1]
        cases hl : r.length with
        | zero => rfl
        | succ k => unfold validF; rw [if_neg h0]
theorem valid_go (r : List UInt8) (h : (headC r).2.2 = 0) : validC r = ((headC r).1 :: (validC (r.drop (headC r).2.1)).1, (headC r).2.1 + (validC (r.drop (headC r).2.1)).2) := by
  obtain ⟨h1, h2, _⟩ := head_size r h
  obtain ⟨k, hk⟩ : ∃ k, r.length = k + 1 := ⟨r.length - 1, by omega⟩
  have hd : (r.drop (headC r).2.1).length ≤ k := by rw [List.length_drop]; omega
  have e := validF_more k (r.drop (headC r).2.1) hd
  unfold validC
  rw [hk]
  conv => lhs; unfold validF
  rw [if_pos h, e]
theorem valid_stop (r : List UInt8) (h : (headC r).2.2 ≠ 0) : validC r = ([], 0) := by
  unfold validC
  cases r.length with
  | zero => rfl
  | succ k => unfold validF; rw [if_neg h]
theorem valid_end (r : List UInt8) : (validC r).2 ≤ r.length ∧ (validC r).1.length ≤ r.length := by
  suffices h : ∀ n (r : List UInt8), r.length = n → (validC r).2 ≤ r.length ∧ (validC r).1.length ≤ r.length from h r.length r rfl
  intro n
  induction n using Nat.strongRecOn with
  | ind n ih =>
    intro r hr
    by_cases h0 : (headC r).2.2 = 0
    · obtain ⟨h1, h2, _⟩ := head_size r h0
      have hd : (r.drop (headC r).2.1).length = r.length - (headC r).2.1 := List.length_drop
      obtain ⟨i1, i2⟩ := ih _ (by omega) (r.drop (headC r).2.1) hd
      rw [valid_go r h0]
      simp only [List.length_cons]
      omega
    · rw [valid_stop r h0]
      exact ⟨Nat.zero_le _, Nat.zero_le _⟩

/-- Boxes, one behind the other. -/
def boxesC (l : List (List UInt8)) : List UInt8 := (l.map boxC).flatten
/-- Those of them that are whole within n bytes, and where they end. -/
def cutB : List (List UInt8) → Nat → List (List UInt8) × Nat
  | [], _ => ([], 0)
  | b :: t, n => if b.length + 6 ≤ n then (b :: (cutB t (n - (b.length + 6))).1, b.length + 6 + (cutB t (n - (b.length + 6))).2) else ([], 0)
theorem boxesC_cons (b : List UInt8) (t : List (List UInt8)) : boxesC (b :: t) = boxC b ++ boxesC t := by
  unfold boxesC; rw [List.map_cons, List.flatten_cons]
theorem boxesC_snoc (t : List (List UInt8)) (b : List UInt8) : boxesC (t ++ [b]) = boxesC t ++ boxC b := by
  unfold boxesC; simp
/-- Cut off anywhere: just those are valid that are whole. -/
theorem valid_cut : ∀ (l : List (List UInt8)) (n : Nat), (∀ b ∈ l, 1 ≤ b.length ∧ b.length ≤ 4096) → validC ((boxesC l).take n) = cutB l n := by
  intro l
  induction l with
  | nil =>
    intro n _
    show validC ((boxesC []).take n) = ([], 0)
    rw [show boxesC [] = [] from rfl, List.take_nil]
    rfl
  | cons b t ih =>
    intro n h
    obtain ⟨h1, h2⟩ := h b List.mem_cons_self
    have hl := boxC_len b
    unfold cutB
    rw [boxesC_cons, List.take_append, hl]
    by_cases hn : b.length + 6 ≤ n
    · rw [if_pos hn, List.take_of_length_le (by omega)]
      have hh := head_box b ((boxesC t).take (n - (b.length + 6))) h1 h2
      rw [valid_go _ (by rw [hh]), hh]
      simp only
      rw [List.drop_left' hl, ih _ (fun x hx => h x (List.mem_cons_of_mem _ hx))]
    · rw [if_neg hn, show n - (b.length + 6) = 0 by omega, List.take_zero, List.append_nil]
      exact valid_stop _ (by rw [head_torn b n h1 h2 (by omega)]; decide)
/-- All bytes of boxes. -/
def lenB (l : List (List UInt8)) : Nat := (boxesC l).length
theorem lenB_cons (b : List UInt8) (t : List (List UInt8)) : lenB (b :: t) = b.length + 6 + lenB t := by
  unfold lenB; rw [boxesC_cons, List.length_append, boxC_len]
theorem lenB_snoc (t : List (List UInt8)) (b : List UInt8) : lenB (t ++ [b]) = lenB t + (b.length + 6) := by
  unfold lenB; rw [boxesC_snoc, List.length_append, boxC_len]
theorem cutB_all : ∀ (l : List (List UInt8)) (n : Nat), lenB l ≤ n → cutB l n = (l, lenB l) := by
  intro l
  induction l with
  | nil => intro n _; rfl
  | cons b t ih =>
    intro n h
    rw [lenB_cons] at h ⊢
    unfold cutB
    rw [if_pos (by omega), ih _ (by omega)]
theorem cutB_snoc : ∀ (l : List (List UInt8)) (b : List UInt8) (n : Nat), n < lenB (l ++ [b]) → cutB (l ++ [b]) n = cutB l n := by
  intro l
  induction l with
  | nil =>
    intro b n h
    rw [List.nil_append, lenB_cons] at h
    have : lenB [] = 0 := rfl
    show cutB [b] n = ([], 0)
    unfold cutB
    rw [if_neg (by omega)]
  | cons a t ih =>
    intro b n h
    rw [List.cons_append, lenB_cons] at h
    show cutB (a :: (t ++ [b])) n = cutB (a :: t) n
    unfold cutB
    by_cases hn : a.length + 6 ≤ n
    · rw [if_pos hn, if_pos hn, ih b _ (by omega)]
    · rw [if_neg hn, if_neg hn]

/-- A box that is spoilt behind its number is none. -/
theorem head_spoilt (b : List UInt8) (a : Nat) (x : List UInt8) (h1 : 1 ≤ b.length) (h2 : b.length ≤ 4096) (ha : a ≤ b.length) (hx : x.length = 4) (h0 : num x ≠ 0) :
    headC (xorL (boxC b) (List.replicate (2 + a) 0 ++ x ++ List.replicate (b.length - a) 0)) = ([], 0, 4) := by
  have hl := boxC_len b
  have h2l := le_len 2 b.length
  have hs := spoilt (le 2 b.length ++ b) (b.length + 2) (2 + a) x (by rw [List.length_append, h2l]; omega) (by omega) hx h0
  rw [show b.length + 2 - (2 + a) = b.length - a by omega] at hs
  change isSeal (xorL (boxC b) (List.replicate (2 + a) 0 ++ x ++ List.replicate (b.length - a) 0)) = false at hs
  have hd : (List.replicate (2 + a) (0 : UInt8) ++ x ++ List.replicate (b.length - a) 0).length = b.length + 6 := by simp [hx]; omega
  have ht2 : (xorL (boxC b) (List.replicate (2 + a) 0 ++ x ++ List.replicate (b.length - a) 0)).take 2 = le 2 b.length := by
    have e1 := (boxC_head b []).1
    rw [List.append_nil] at e1
    unfold xorL
    rw [List.take_zipWith, e1, List.append_assoc, ← List.replicate_append_replicate, List.append_assoc, List.take_left' (by simp)]
    have := xorL_zeros (le 2 b.length)
    unfold xorL at this
    rw [h2l] at this
    exact this
  have hlen : (xorL (boxC b) (List.replicate (2 + a) 0 ++ x ++ List.replicate (b.length - a) 0)).length = b.length + 6 := by rw [xorL_len _ _ (by rw [hl, hd]), hl]
  generalize xorL (boxC b) (List.replicate (2 + a) 0 ++ x ++ List.replicate (b.length - a) 0) = s at hs ht2 hlen
  have hn : nB s = b.length := by
    unfold nB
    rw [ht2, num_le]
    exact Nat.mod_eq_of_lt (by omega)
  unfold headC
  rw [hn, if_neg (by omega), if_neg (by omega), if_neg (by omega), if_neg (by omega), if_neg]
  intro e
  have e2 : s.take (b.length + 6) = s := List.take_of_length_le (by omega)
  rw [e2] at e
  have := isSeal_sealC (le 2 ((s.drop 2).take b.length).length ++ (s.drop 2).take b.length)
  change isSeal (boxC ((s.drop 2).take b.length)) = true at this
  rw [e, hs] at this
  cases this

end Go.Proofs.YtgococpbhbcpmaaGreatDoor

/-
  A block known whole: its cells, loads and stores of whole arrays, results that lie in a cell. No program stands here.
-/
namespace Go.Proofs.YtgococpbhbcpmaaGreatDoor
open Go.RowKit
set_option linter.unusedVariables false
set_option linter.unusedSimpArgs false

/-- Block g holds exactly these cells, and may be written. -/
def Blk (w : World) (g : Nat) (t : TypeId) (cs : List Value) : Prop := w.heap[g]? = some (.cells cs.toArray t (0, 0))

section
variable {w w' : World} {g : Nat} {t : TypeId} {cs : List Value}
theorem Blk.cell (h : Blk w g t cs) (i : Nat) : w.cell? ⟨g, i, none⟩ = cs[i]? := by
  rw [cell_of_row w g i _ t (0, 0) h]; simp
theorem Blk.frozen (h : Blk w g t cs) (i : Nat) : w.frozen? ⟨g, i, none⟩ = false := frozen_of_row w g i _ t h
theorem Blk.lt (h : Blk w g t cs) : g < w.heap.size := (Array.getElem?_eq_some_iff.1 h).1
theorem Blk.below {B : Nat} (h : Blk w g t cs) (hb : Below B w w') (hg : g < B) : Blk w' g t cs := (hb.block g hg).trans h
theorem Blk.drew (h : Blk w g t cs) : Blk w.drew g t cs := h
theorem Blk.drewN (h : Blk w g t cs) (k : Nat) : Blk (w.drewN k) g t cs := h
theorem Blk.alloc (h : Blk w g t cs) (o : Obj) : Blk (w.alloc o) g t cs := (heap_alloc_old w o h.lt).trans h
theorem Blk.new (w : World) (t : TypeId) (C : Array Value) (hC : C = cs.toArray) : Blk (w.alloc (.cells C t)) w.heap.size t cs := by
  subst hC; exact heap_alloc_new w _
theorem Blk.set (h : Blk w g t cs) (i : Nat) (v : Value) : Blk (w.setCell ⟨g, i, none⟩ v) g t (cs.set i v) := by
  have := heap_setCell_same w g i _ t v h
  unfold Blk
  rw [this]; simp
theorem Blk.other (h : Blk w g t cs) (a : Addr) (v : Value) (hg : g ≠ a.block) : Blk (w.setCell a v) g t cs := (heap_setCell_other w a g v hg).trans h
theorem setCell_row (h : Blk w g t cs) (i : Nat) (v : Value) : w.setCell ⟨g, i, none⟩ v = w.setRow g (cs.set i v).toArray := by
  rw [setCell_eq_setRow w g i _ t (0, 0) v h]; simp
theorem Blk.row (h : Blk w g t cs) (ds : List Value) : Blk (w.setRow g ds.toArray) g t ds := setRow_heap w g cs.toArray ds.toArray t _ h
theorem Blk.row_other (h : Blk w g t cs) (k : Nat) (C : Array Value) (hk : g ≠ k) : Blk (w.setRow k C) g t cs := by
  unfold Blk World.setRow
  show (w.heap.modify k _)[g]? = _
  rw [Array.getElem?_modify, if_neg (fun e => hk e.symm)]
  exact h
end

theorem below_row {B : Nat} {a w : World} (h : Below B a w) {g : Nat} (hg : B ≤ g) (C : Array Value) : Below B a (w.setRow g C) :=
  h.trans ⟨rfl, rfl, rfl, by simp [World.setRow], fun k hk => by
    show (w.heap.modify g _)[k]? = _
    rw [Array.getElem?_modify, if_neg (by omega)]⟩

theorem Blk.byte {w : World} {g : Nat} {t : TypeId} {b : List UInt8} (h : Blk w g t (b.map bv)) {i : Nat} (hi : i < b.length) : w.cell? ⟨g, i, none⟩ = some (.int .u8 (((b.getD i 0).toNat : Nat) : Int)) := by
  rw [h.cell, List.getElem?_map, List.getElem?_eq_getElem hi, List.getD_eq_getElem?_getD, List.getElem?_eq_getElem hi]
  rfl

/-- A result that is an array in a cell. -/
theorem ret_cell {P : Program} {fn : Func} {R : Ending → World → Prop} {a : Act} {w : World} {p : Tmp} {ty : TypeId} (h : fn.results = #[.cell p ty]) (g : Nat) (t : TypeId) (cs : List Value)
    (hp : a.tmps.getD p undef = .pointer (some ⟨g, 0, none⟩)) (hg : Blk w g t cs) (n : Nat) (e : TypeId)
    (hu : P.underlying ty = some (.array n e)) (hi : (P.info? ty).map (·.size) = some cs.length) (hd : a.defers = []) (hR : R (.returned (.agg cs.toArray)) w) : bodyPost P fn R .ret a w :=
  bodyPost_ret (results_cell_row h _ w g t cs.toArray (0, 0) _ hp hg hu rfl (by simpa using hi)) hd hR

/-- A whole array out of its block; into its block. -/
theorem ld_blk {P : Program} {ops : Array Oper} {rest : List Oper} {o : Oper} {a : Act} {w : World} {Q : Exit → Act → World → Prop} (hgd : o.guard = none) (ty : TypeId) (x : Operand) (ho : o.op = .load ty x)
    (g : Nat) (hx : a.eval x = .pointer (some ⟨g, 0, none⟩)) (t : TypeId) (cs : List Value) (hb : Blk w g t cs) (n : Nat) (e : TypeId)
    (hu : P.underlying ty = some (.array n e)) (hi : (P.info? ty).map (·.size) = some cs.length)
    (h : wpList P ops Q rest (a.put o.dst (.agg cs.toArray)) w) : wpList P ops Q (o :: rest) a w :=
  wpList_load_row hgd ty x ho g hx t cs.toArray (0, 0) _ hb hu rfl (by simpa using hi) h
theorem st_blk {P : Program} {ops : Array Oper} {rest : List Oper} {o : Oper} {a : Act} {w : World} {Q : Exit → Act → World → Prop} (hgd : o.guard = none) (ty : TypeId) (x y : Operand) (ho : o.op = .store ty x y)
    (g : Nat) (ds : List Value) (hx : a.eval x = .pointer (some ⟨g, 0, none⟩)) (hy : a.eval y = .agg ds.toArray)
    (t : TypeId) (cs : List Value) (hb : Blk w g t cs) (hi : (P.info? ty).map (·.size) = some ds.length) (hl : cs.length = ds.length) (h1 : ∀ v ∈ ds, v.oneCell' = true)
    (h : wpList P ops Q rest (a.put o.dst undef) (w.setRow g ds.toArray)) : wpList P ops Q (o :: rest) a w :=
  wpList_store_row hgd ty x y ho g ds.toArray hx hy t cs.toArray hb (by simpa using hi) (by simpa using hl) (Array.all_eq_true_iff_forall_mem.2 fun v hv => h1 v (by simpa using hv)) h

/-- An element of an array value whose elements take one cell. -/
theorem index_agg {P : Program} (w : World) (t e : TypeId) (n : Nat) (cs : List Value) (hu : P.underlying t = some (.array n e)) (ha : (isAgg e).run P w = .ok false w) (hz : (sizeOf e).run P w = .ok 1 w)
    (k : Nat) (kk : IntKind) (hk : k < n) (v : Value) (hv : cs[k]? = some v) :
    (Instr.index t (.agg cs.toArray) (.int kk ((k : Nat) : Int))).run P w = .ok v w := by
  unfold Instr.index
  simp only [asIntOf, Sem.run_bind, Sem.run_pure, Result.andThen_ok, run_underlying hu]
  rw [if_pos ⟨by omega, by omega⟩]
  simp only [Sem.run_bind, hz, Result.andThen_ok, part, ha, Int.toNat_natCast, Nat.mul_one]
  simp [hv]

/-- Eight stores in a row. -/
theorem blk8 {w : World} {g : Nat} {t : TypeId} {B : Nat} {w0 : World} {cs : List Value} (h : Blk w g t cs) (hl : cs.length = 8) (hb : Below B w0 w) (hg : B ≤ g) (v0 v1 v2 v3 v4 v5 v6 v7 : Value) :
    Blk ((((((((w.setCell ⟨g, 0, none⟩ v0).setCell ⟨g, 1, none⟩ v1).setCell ⟨g, 2, none⟩ v2).setCell ⟨g, 3, none⟩ v3).setCell ⟨g, 4, none⟩ v4).setCell ⟨g, 5, none⟩ v5).setCell ⟨g, 6, none⟩ v6).setCell ⟨g, 7, none⟩ v7) g t [v0, v1, v2, v3, v4, v5, v6, v7] ∧
    Below B w0 ((((((((w.setCell ⟨g, 0, none⟩ v0).setCell ⟨g, 1, none⟩ v1).setCell ⟨g, 2, none⟩ v2).setCell ⟨g, 3, none⟩ v3).setCell ⟨g, 4, none⟩ v4).setCell ⟨g, 5, none⟩ v5).setCell ⟨g, 6, none⟩ v6).setCell ⟨g, 7, none⟩ v7) := by
  refine ⟨?_, ?_⟩
  · have := (((((((h.set 0 v0).set 1 v1).set 2 v2).set 3 v3).set 4 v4).set 5 v5).set 6 v6).set 7 v7
    match cs, hl with
    | [c0, c1, c2, c3, c4, c5, c6, c7], _ => exact this
  · exact (((((((hb.setCell (p := ⟨g, 0, none⟩) hg _).setCell (p := ⟨g, 1, none⟩) hg _).setCell (p := ⟨g, 2, none⟩) hg _).setCell (p := ⟨g, 3, none⟩) hg _).setCell (p := ⟨g, 4, none⟩) hg _).setCell (p := ⟨g, 5, none⟩) hg _).setCell (p := ⟨g, 6, none⟩) hg _).setCell (p := ⟨g, 7, none⟩) hg _

/-- Eight stores into another block. -/
theorem keep8 {w : World} {g k : Nat} {t : TypeId} {cs : List Value} (h : Blk w k t cs) (hk : k ≠ g) (v0 v1 v2 v3 v4 v5 v6 v7 : Value) :
    Blk ((((((((w.setCell ⟨g, 0, none⟩ v0).setCell ⟨g, 1, none⟩ v1).setCell ⟨g, 2, none⟩ v2).setCell ⟨g, 3, none⟩ v3).setCell ⟨g, 4, none⟩ v4).setCell ⟨g, 5, none⟩ v5).setCell ⟨g, 6, none⟩ v6).setCell ⟨g, 7, none⟩ v7) k t cs :=
  (((((((h.other ⟨g, 0, none⟩ v0 hk).other ⟨g, 1, none⟩ v1 hk).other ⟨g, 2, none⟩ v2 hk).other ⟨g, 3, none⟩ v3 hk).other ⟨g, 4, none⟩ v4 hk).other ⟨g, 5, none⟩ v5 hk).other ⟨g, 6, none⟩ v6 hk).other ⟨g, 7, none⟩ v7 hk

end Go.Proofs.YtgococpbhbcpmaaGreatDoor
