/-
  Numbers as lists of bits, the lowest one first; products of such; cut sums of them. Plain arithmetic. No program stands here.
-/
import Derived.Test.YtjegnbpkmhkeoaaDoorPrM
namespace Go.Proofs.YtjegnbpkmhkeoaaDoor
set_option linter.unusedVariables false
set_option linter.unusedSimpArgs false

/-- What a list of places stands for, the lowest first. -/
def val : List Nat → Nat
  | [] => 0
  | x :: l => x + 2 * val l

/-- The lowest k bits. -/
def bitsTo (n k : Nat) : List Nat := (List.range k).map fun j => n / 2 ^ j % 2

theorem bitsTo_len (n k : Nat) : (bitsTo n k).length = k := by unfold bitsTo; simp
theorem bitsTo_succ (n k : Nat) : bitsTo n (k + 1) = bitsTo n k ++ [n / 2 ^ k % 2] := by unfold bitsTo; rw [List.range_succ, List.map_append]; rfl
theorem bitsTo_at (n k j : Nat) (h : j < k) : (bitsTo n k).getD j 0 = n / 2 ^ j % 2 := by
  rw [List.getD_eq_getElem?_getD]
  unfold bitsTo
  rw [List.getElem?_map, List.getElem?_range h]
  rfl

theorem val_set (l : List Nat) (i y : Nat) (h : i < l.length) : val (l.set i y) + 2 ^ i * l.getD i 0 = val l + 2 ^ i * y := by
  induction l generalizing i with
  | nil => exact absurd h (by simp)
  | cons x l ih =>
    cases i with
    | zero => simp [val]; omega
    | succ i =>
      have := ih i (by simpa using h)
      simp only [List.set_cons_succ, val, List.getD_cons_succ, Nat.pow_succ]
      rw [Nat.mul_comm (2 ^ i) 2, Nat.mul_assoc, Nat.mul_assoc]
      omega

theorem val_ge (l : List Nat) (i : Nat) (h : i < l.length) : 2 ^ i * l.getD i 0 ≤ val l := by
  have := val_set l i 0 h
  rw [Nat.mul_zero] at this
  omega

theorem val_rep (k : Nat) : val (List.replicate k 0) = 0 := by
  induction k with
  | zero => rfl
  | succ k ih => rw [List.replicate_succ, val, ih]

theorem mod_next (n k : Nat) : n % 2 ^ (k + 1) = n % 2 ^ k + 2 ^ k * (n / 2 ^ k % 2) := by
  rw [Nat.pow_succ, Nat.mod_mul]

/-- The state of the long product: rows 0 to I, of the row I the places up to K. -/
def PInv (n m k1 k2 I K : Nat) (out : List Nat) : Prop :=
  out.length = k1 + k2 + 1 ∧ val out = n % 2 ^ I * m + 2 ^ I * (n / 2 ^ I % 2) * (m % 2 ^ K) ∧ ∀ x ∈ out, x ≤ I * 64 + K

theorem PInv.start (n m k1 k2 : Nat) : PInv n m k1 k2 0 0 (List.replicate (k1 + k2 + 1) 0) := by
  refine ⟨by simp, ?_, ?_⟩
  · rw [val_rep, Nat.pow_zero, Nat.mod_one, Nat.mod_one, Nat.zero_mul, Nat.mul_zero]
  · intro x hx
    rw [List.eq_of_mem_replicate hx]
    exact Nat.zero_le _

theorem getD_mem (l : List Nat) (i : Nat) (h : i < l.length) : l.getD i 0 ∈ l := by
  rw [List.getD_eq_getElem?_getD, List.getElem?_eq_getElem h]
  exact List.getElem_mem h

theorem PInv.step {n m k1 k2 I K : Nat} {out : List Nat} (h : PInv n m k1 k2 I K out) (hI : I < k1) (hK : K < k2) :
    PInv n m k1 k2 I (K + 1) (out.set (I + K) (out.getD (I + K) 0 + n / 2 ^ I % 2 * (m / 2 ^ K % 2))) ∧ out.getD (I + K) 0 ≤ I * 64 + K := by
  obtain ⟨h1, h2, h3⟩ := h
  have hl : I + K < out.length := by omega
  have hg := h3 _ (getD_mem out _ hl)
  refine ⟨⟨by rw [List.length_set]; exact h1, ?_, ?_⟩, hg⟩
  · have := val_set out (I + K) (out.getD (I + K) 0 + n / 2 ^ I % 2 * (m / 2 ^ K % 2)) hl
    rw [Nat.mul_add] at this
    have h4 : val (out.set (I + K) (out.getD (I + K) 0 + n / 2 ^ I % 2 * (m / 2 ^ K % 2))) = val out + 2 ^ (I + K) * (n / 2 ^ I % 2 * (m / 2 ^ K % 2)) := by omega
    rw [h4, h2, mod_next m K, Nat.mul_add, Nat.add_assoc]
    congr 2
    rw [Nat.pow_add]
    simp only [Nat.mul_assoc, Nat.mul_left_comm, Nat.mul_comm]
  · intro x hx
    rcases List.mem_or_eq_of_mem_set hx with hx | rfl
    · have := h3 x hx; omega
    · have : n / 2 ^ I % 2 * (m / 2 ^ K % 2) ≤ 1 * 1 := Nat.mul_le_mul (by omega) (by omega)
      omega

theorem PInv.row {n m k1 k2 I : Nat} {out : List Nat} (h : PInv n m k1 k2 I k2 out) (hm : m < 2 ^ k2) (hk : k2 ≤ 64) : PInv n m k1 k2 (I + 1) 0 out := by
  obtain ⟨h1, h2, h3⟩ := h
  refine ⟨h1, ?_, fun x hx => ?_⟩
  · rw [h2, Nat.mod_eq_of_lt hm, mod_next n I, Nat.add_mul, Nat.pow_zero, Nat.mod_one, Nat.mul_zero, Nat.add_zero]
  · have := h3 x hx; omega

/-- The state of the pass that carries. -/
def CInv (V L i : Nat) (out : List Nat) : Prop :=
  out.length = L + 1 ∧ val out = V ∧ (∀ j, j < i → out.getD j 0 ≤ 1) ∧ out.getD i 0 ≤ 10000 ∧ ∀ j, i < j → out.getD j 0 ≤ 5000

theorem CInv.start {n m k1 k2 : Nat} {out : List Nat} (h : PInv n m k1 k2 k1 0 out) (hn : n < 2 ^ k1) (hk : k1 ≤ 64) : CInv (n * m) (k1 + k2) 0 out := by
  obtain ⟨h1, h2, h3⟩ := h
  have hb : ∀ j, out.getD j 0 ≤ 5000 := by
    intro j
    by_cases hj : j < out.length
    · have := h3 _ (getD_mem out j hj)
      omega
    · rw [List.getD_eq_getElem?_getD, List.getElem?_eq_none (by omega)]
      exact Nat.zero_le _
  refine ⟨h1, ?_, fun j h => absurd h (by omega), by have := hb 0; omega, fun j _ => hb j⟩
  rw [h2, Nat.mod_eq_of_lt hn, Nat.pow_zero, Nat.mod_one, Nat.mul_zero, Nat.add_zero]

theorem getD_set (l : List Nat) (i j y : Nat) (h : i < l.length) : (l.set i y).getD j 0 = if j = i then y else l.getD j 0 := by
  rw [List.getD_eq_getElem?_getD, List.getElem?_set]
  by_cases hj : j = i
  · rw [if_pos hj.symm, if_pos h, if_pos hj]; rfl
  · rw [if_neg (fun e => hj e.symm), if_neg hj, List.getD_eq_getElem?_getD]

theorem CInv.step {V L i : Nat} {out : List Nat} (h : CInv V L i out) (hi : i < L) :
    CInv V L (i + 1) ((out.set (i + 1) (out.getD (i + 1) 0 + out.getD i 0 / 2)).set i (out.getD i 0 % 2)) ∧ out.getD (i + 1) 0 ≤ 5000 ∧ out.getD i 0 ≤ 10000 := by
  obtain ⟨h1, h2, h3, h4, h5⟩ := h
  have hl : i + 1 < out.length := by omega
  have g1 := h5 (i + 1) (by omega)
  refine ⟨⟨by rw [List.length_set, List.length_set]; exact h1, ?_, ?_, ?_, ?_⟩, g1, h4⟩
  · have e1 := val_set out (i + 1) (out.getD (i + 1) 0 + out.getD i 0 / 2) hl
    have e2 := val_set (out.set (i + 1) (out.getD (i + 1) 0 + out.getD i 0 / 2)) i (out.getD i 0 % 2) (by rw [List.length_set]; omega)
    rw [getD_set _ _ _ _ hl, if_neg (by omega)] at e2
    have e3 : 2 ^ i * out.getD i 0 = 2 ^ (i + 1) * (out.getD i 0 / 2) + 2 ^ i * (out.getD i 0 % 2) := by
      rw [Nat.pow_succ, Nat.mul_assoc, ← Nat.mul_add]
      congr 1
      omega
    rw [Nat.mul_add] at e1
    omega
  · intro j hj
    rw [getD_set _ _ _ _ (by rw [List.length_set]; omega)]
    split
    · omega
    · rw [getD_set _ _ _ _ hl, if_neg (by omega)]
      exact h3 j (by omega)
  · rw [getD_set _ _ _ _ (by rw [List.length_set]; omega), if_neg (by omega), getD_set _ _ _ _ hl, if_pos rfl]
    omega
  · intro j hj
    rw [getD_set _ _ _ _ (by rw [List.length_set]; omega), if_neg (by omega), getD_set _ _ _ _ hl, if_neg (by omega)]
    exact h5 j (by omega)

/-- A list of bits. -/
def IsBits (l : List Nat) : Prop := ∀ j, l.getD j 0 ≤ 1

theorem CInv.done {V L : Nat} {out : List Nat} (h : CInv V L L out) (hV : V < 2 ^ L) : IsBits out ∧ val out = V ∧ out.length = L + 1 := by
  obtain ⟨h1, h2, h3, h4, h5⟩ := h
  refine ⟨fun j => ?_, h2, h1⟩
  by_cases hj : j < L
  · exact h3 j hj
  · by_cases hj2 : j = L
    · subst hj2
      have := val_ge out j (by omega)
      rw [h2] at this
      apply Nat.le_of_not_lt
      intro hlt
      have h6 : 2 ^ j * 1 ≤ 2 ^ j * out.getD j 0 := Nat.mul_le_mul_left _ (by omega)
      omega
    · rw [List.getD_eq_getElem?_getD, List.getElem?_eq_none (by omega)]
      exact Nat.zero_le _

/-- The sum from the place c on, times 2 to the power of e, cut. -/
def accV (l : List Nat) (e : Int) (c : Nat) : Nat := scale (2 ^ c * val (l.drop c)) e

theorem drop_val (l : List Nat) (c : Nat) (h : c < l.length) : val (l.drop c) = l.getD c 0 + 2 * val (l.drop (c + 1)) := by
  rw [List.drop_eq_getElem_cons h, val, List.getD_eq_getElem?_getD, List.getElem?_eq_getElem h]
  rfl

theorem accV_end (l : List Nat) (e : Int) (c : Nat) (h : l.length ≤ c) : accV l e c = 0 := by
  unfold accV scale
  rw [List.drop_eq_nil_of_le h, val, Nat.mul_zero, Nat.zero_mul, Nat.zero_div]
  split <;> rfl

theorem accV_zero (l : List Nat) (e : Int) : accV l e 0 = scale (val l) e := by
  unfold accV
  rw [Nat.pow_zero, Nat.one_mul, List.drop_zero]

theorem scale_mono {x y : Nat} (e : Int) (h : x ≤ y) : scale x e ≤ scale y e := by
  unfold scale
  split
  · exact Nat.mul_le_mul_right _ h
  · exact Nat.div_le_div_right h

theorem accV_le (l : List Nat) (e : Int) (c : Nat) : accV l e c ≤ accV l e 0 := by
  have go : ∀ c, c ≤ l.length → 2 ^ c * val (l.drop c) ≤ val l := by
    intro c
    induction c with
    | zero => intro _; rw [Nat.pow_zero, Nat.one_mul, List.drop_zero]; exact Nat.le_refl _
    | succ c ih =>
      intro h
      refine Nat.le_trans ?_ (ih (by omega))
      rw [drop_val l c (by omega), Nat.pow_succ, Nat.mul_assoc]
      exact Nat.mul_le_mul_left _ (by omega)
  rw [accV_zero]
  by_cases h : c ≤ l.length
  · exact scale_mono e (go c h)
  · rw [accV_end l e c (by omega)]
    exact Nat.zero_le _

theorem accV_skip (l : List Nat) (e : Int) (c : Nat) (hc : c < l.length) (hb : l.getD c 0 ≤ 1) (h : l.getD c 0 = 0 ∨ (c : Int) + e < 0) : accV l e c = accV l e (c + 1) := by
  unfold accV
  rw [drop_val l c hc]
  generalize val (l.drop (c + 1)) = H
  generalize l.getD c 0 = x at hb h
  rcases h with rfl | h
  · rw [Nat.zero_add, Nat.pow_succ, Nat.mul_assoc]
  · unfold scale
    rw [if_neg (by omega), if_neg (by omega)]
    obtain ⟨d, hd⟩ : ∃ d, (-e).toNat = c + 1 + d := ⟨(-e).toNat - c - 1, by omega⟩
    rw [hd, Nat.pow_add 2 (c + 1) d, Nat.mul_div_mul_left _ _ (Nat.two_pow_pos (c + 1)), Nat.pow_succ, Nat.mul_assoc, Nat.mul_div_mul_left _ _ (Nat.two_pow_pos c), ← Nat.div_div_eq_div_mul]
    congr 1
    omega

theorem accV_take (l : List Nat) (e : Int) (c a : Nat) (hc : c < l.length) (hx : l.getD c 0 = 1) (ha : (c : Int) + e = (a : Int)) : accV l e c = accV l e (c + 1) + 2 ^ a ∧ ∃ H, accV l e (c + 1) = H * 2 ^ (a + 1) := by
  unfold accV
  rw [drop_val l c hc, hx]
  generalize val (l.drop (c + 1)) = H
  unfold scale
  by_cases h0 : 0 ≤ e
  · rw [if_pos h0, if_pos h0]
    obtain ⟨t, rfl⟩ := Int.eq_ofNat_of_zero_le h0
    obtain rfl : a = c + t := by omega
    rw [Int.toNat_natCast]
    refine ⟨?_, H, ?_⟩
    · rw [Nat.mul_add, Nat.add_mul, Nat.mul_one, ← Nat.pow_add, Nat.add_comm, Nat.pow_succ, Nat.mul_assoc (2 ^ c) 2 H]
    · rw [Nat.mul_comm (2 ^ (c + 1)), Nat.mul_assoc, ← Nat.pow_add]
      congr 2
      omega
  · rw [if_neg h0, if_neg h0]
    obtain ⟨k, hk⟩ : ∃ k : Nat, e = -(k : Int) := ⟨(-e).toNat, by omega⟩
    subst hk
    obtain rfl : c = a + k := by omega
    rw [show (- -(k : Int)).toNat = k by omega]
    have hp := Nat.two_pow_pos k
    refine ⟨?_, H, ?_⟩
    · rw [Nat.pow_add, Nat.pow_succ, Nat.pow_add, show 2 ^ a * 2 ^ k * (1 + 2 * H) = (2 ^ a * (1 + 2 * H)) * 2 ^ k by rw [Nat.mul_right_comm], show 2 ^ a * 2 ^ k * 2 * H = (2 ^ a * (2 * H)) * 2 ^ k by rw [Nat.mul_assoc (2 ^ a * 2 ^ k), Nat.mul_right_comm],
        Nat.mul_div_cancel _ hp, Nat.mul_div_cancel _ hp, Nat.mul_add, Nat.mul_one, Nat.add_comm]
    · rw [show a + k + 1 = (a + 1) + k by omega, Nat.pow_add 2 (a + 1) k, Nat.mul_right_comm, Nat.mul_div_cancel _ hp, Nat.mul_comm]

theorem accV_room (x H a : Nat) (hx : x = H * 2 ^ (a + 1)) (h : x < 18446744073709551616) (ha : a ≤ 63) : x + 2 ^ a < 18446744073709551616 := by
  obtain ⟨d, hd⟩ : ∃ d, 64 = d + (a + 1) := ⟨63 - a, by omega⟩
  have e : (18446744073709551616 : Nat) = 2 ^ d * 2 ^ (a + 1) := by rw [← Nat.pow_add, ← hd]
  have hp := Nat.two_pow_pos a
  have h1 : H < 2 ^ d := by
    apply Nat.lt_of_not_le
    intro hle
    have := Nat.mul_le_mul_right (2 ^ (a + 1)) hle
    rw [← e, ← hx] at this
    omega
  have h2 : (H + 1) * 2 ^ (a + 1) ≤ 2 ^ d * 2 ^ (a + 1) := Nat.mul_le_mul_right _ h1
  rw [← e, Nat.add_mul, ← hx, Nat.one_mul, Nat.pow_succ] at h2
  omega

end Go.Proofs.YtjegnbpkmhkeoaaDoor
