/-
  Segments' names: sixteen digits of a number, the number of a name, their order. No program stands here.
-/
import Derived.Test.YtgococpbhbcpmaaDoorBase
namespace Go.Proofs.YtgococpbhbcpmaaDoor
open Go.RowKit
set_option linter.unusedVariables false
set_option linter.unusedSimpArgs false

/-- A hexadecimal digit. -/
def hd16 (d : Nat) : UInt8 := if d < 10 then UInt8.ofNat (48 + d) else UInt8.ofNat (87 + d)
/-- The lowest k digits of a number. -/
def hexL : Nat → Nat → List UInt8
  | 0, _ => []
  | k + 1, n => hd16 (n / 16 ^ k % 16) :: hexL k n
/-- The name of a number. -/
def nameL (n : Nat) : List UInt8 := 119 :: hexL 16 n
def decR16 (c : UInt8) : Bool := decide (48 ≤ c.toNat ∧ c.toNat ≤ 57)
def lowR16 (c : UInt8) : Bool := decide (97 ≤ c.toNat ∧ c.toNat ≤ 102)
/-- One sign more. -/
def stepV (n : Nat) (c : UInt8) : Nat := if decR16 c then 16 * n + c.toNat % 16 else if lowR16 c then 16 * n + c.toNat % 16 + 9 else n
def valS (l : List UInt8) : Nat := l.foldl stepV 0
/-- The number of a name, and whether it is one. -/
def numC (s : List UInt8) : Nat × Bool := if s.length = 17 then (valS (s.drop 1), decide (nameL (valS (s.drop 1)) = s)) else (0, false)

theorem hexL_len (k n : Nat) : (hexL k n).length = k := by
  induction k with
  | zero => rfl
  | succ k ih => simp [hexL, ih]
theorem nameL_len (n : Nat) : (nameL n).length = 17 := by unfold nameL; rw [List.length_cons, hexL_len]
theorem hd16_cases : ∀ d : Fin 16, (decR16 (hd16 d.val) = true ∧ (hd16 d.val).toNat % 16 = d.val) ∨ (decR16 (hd16 d.val) = false ∧ lowR16 (hd16 d.val) = true ∧ (hd16 d.val).toNat % 16 + 9 = d.val) := by decide +kernel
theorem stepV_hd (p d : Nat) (h : d < 16) : stepV p (hd16 d) = 16 * p + d := by
  unfold stepV
  rcases hd16_cases ⟨d, h⟩ with ⟨h1, h2⟩ | ⟨h1, h2, h3⟩
  · simp only at h1 h2
    rw [if_pos h1, h2]
  · simp only at h1 h2 h3
    rw [if_neg (by rw [h1]; decide), if_pos h2]
    omega
theorem val_hex (k : Nat) : ∀ (n p : Nat), (hexL k n).foldl stepV p = p * 16 ^ k + n % 16 ^ k := by
  induction k with
  | zero => intro n p; simp [hexL, Nat.mod_one]
  | succ k ih =>
    intro n p
    show (hexL k n).foldl stepV (stepV p (hd16 (n / 16 ^ k % 16))) = _
    rw [stepV_hd _ _ (Nat.mod_lt _ (by decide)), ih, Nat.mod_pow_succ, Nat.pow_succ, Nat.add_mul, Nat.mul_comm (16 ^ k) (n / 16 ^ k % 16), Nat.mul_comm (16 ^ k) 16, Nat.mul_comm 16 p, Nat.mul_assoc]
    omega
theorem val_name (n : Nat) (h : n < 18446744073709551616) : valS ((nameL n).drop 1) = n := by
  show (hexL 16 n).foldl stepV 0 = n
  rw [val_hex, Nat.zero_mul, Nat.zero_add]
  exact Nat.mod_eq_of_lt h
theorem num_name (n : Nat) (h : n < 18446744073709551616) : numC (nameL n) = (n, true) := by
  unfold numC
  rw [if_pos (nameL_len n), val_name n h]
  simp
theorem name_inj (a b : Nat) (ha : a < 18446744073709551616) (hb : b < 18446744073709551616) (h : nameL a = nameL b) : a = b := by
  have := val_name a ha
  rw [h, val_name b hb] at this
  exact this.symm
theorem stepV_le (n : Nat) (c : UInt8) : stepV n c ≤ 16 * n + 15 := by
  unfold stepV
  have hm := Nat.mod_lt c.toNat (show 0 < 16 by decide)
  split
  · omega
  · split
    · rename_i h
      have h' : 97 ≤ c.toNat ∧ c.toNat ≤ 102 := of_decide_eq_true h
      omega
    · omega
theorem val_lt (l : List UInt8) : ∀ p, l.foldl stepV p + 1 ≤ (p + 1) * 16 ^ l.length := by
  induction l with
  | nil => intro p; simp
  | cons c l ih =>
    intro p
    have h1 := ih (stepV p c)
    have h2 := stepV_le p c
    have h3 : (stepV p c + 1) * 16 ^ l.length ≤ ((p + 1) * 16) * 16 ^ l.length := Nat.mul_le_mul_right _ (by omega)
    rw [List.length_cons, Nat.pow_succ, Nat.mul_comm (16 ^ l.length) 16, ← Nat.mul_assoc]
    exact Nat.le_trans h1 h3
theorem num_is (s : List UInt8) (h : (numC s).2 = true) : (numC s).1 < 18446744073709551616 ∧ s = nameL (numC s).1 := by
  unfold numC at h ⊢
  by_cases hl : s.length = 17
  · rw [if_pos hl] at h ⊢
    have h1 := val_lt (s.drop 1) 0
    rw [List.length_drop, hl] at h1
    have h2 : nameL (valS (s.drop 1)) = s := of_decide_eq_true h
    refine ⟨?_, h2.symm⟩
    have : (16 : Nat) ^ (17 - 1) = 18446744073709551616 := by decide
    unfold valS
    omega
  · rw [if_neg hl] at h
    cases h
theorem num_eq (s : List UInt8) (n : Nat) (h : n < 18446744073709551616) : numC s = (n, true) ↔ s = nameL n := by
  constructor
  · intro e
    have := num_is s (by rw [e])
    rw [e] at this
    exact this.2
  · rintro rfl
    exact num_name n h

theorem hd16_lt : ∀ a b : Fin 16, decide (hd16 a.val < hd16 b.val) = decide (a.val < b.val) ∧ (hd16 a.val = hd16 b.val → a = b) := by decide +kernel
/-- Digits are in order as their numbers. -/
theorem hex_less (k a b : Nat) : Op.bytesLess (hexL k a) (hexL k b) = decide (a % 16 ^ k < b % 16 ^ k) := by
  induction k with
  | zero => simp [hexL, Op.bytesLess, Nat.mod_one]
  | succ k ih =>
    obtain ⟨x, hx⟩ : ∃ x : Fin 16, x.val = a / 16 ^ k % 16 := ⟨⟨_, Nat.mod_lt _ (by decide)⟩, rfl⟩
    obtain ⟨y, hy⟩ : ∃ y : Fin 16, y.val = b / 16 ^ k % 16 := ⟨⟨_, Nat.mod_lt _ (by decide)⟩, rfl⟩
    have hp : 0 < 16 ^ k := Nat.pow_pos (by decide)
    have ha := Nat.mod_lt a hp
    have hb := Nat.mod_lt b hp
    rw [Nat.mod_pow_succ, Nat.mod_pow_succ, ← hx, ← hy]
    show (decide (hd16 (a / 16 ^ k % 16) < hd16 (b / 16 ^ k % 16)) || (hd16 (a / 16 ^ k % 16) == hd16 (b / 16 ^ k % 16) && Op.bytesLess (hexL k a) (hexL k b))) = _
    rw [← hx, ← hy, ih, (hd16_lt x y).1]
    generalize 16 ^ k = P at ha hb ⊢
    generalize a % P = A at ha ⊢
    generalize b % P = B at hb ⊢
    rcases Nat.lt_trichotomy x.val y.val with h | h | h
    · have h1 : P * (x.val + 1) ≤ P * y.val := Nat.mul_le_mul_left _ h
      rw [Nat.mul_add, Nat.mul_one] at h1
      rw [decide_eq_true h, show decide (A + P * x.val < B + P * y.val) = true from decide_eq_true (by omega)]
      rfl
    · have e : x = y := Fin.ext h
      subst e
      rw [decide_eq_false (by omega), Bool.false_or, beq_self_eq_true, Bool.true_and]
      exact decide_eq_decide.2 (by omega)
    · have h1 : P * (y.val + 1) ≤ P * x.val := Nat.mul_le_mul_left _ h
      rw [Nat.mul_add, Nat.mul_one] at h1
      have hne : (hd16 x.val == hd16 y.val) = false := by
        rw [beq_eq_false_iff_ne]
        intro e
        have := (hd16_lt x y).2 e
        rw [this] at h
        exact Nat.lt_irrefl _ h
      rw [decide_eq_false (show ¬ x.val < y.val by omega), show decide (A + P * x.val < B + P * y.val) = false from decide_eq_false (by omega), hne]
      rfl
theorem name_less (a b : Nat) (ha : a < 18446744073709551616) (hb : b < 18446744073709551616) : Op.bytesLess (nameL a) (nameL b) = decide (a < b) := by
  show (decide ((119 : UInt8) < 119) || ((119 : UInt8) == 119 && Op.bytesLess (hexL 16 a) (hexL 16 b))) = _
  rw [hex_less, show (16 : Nat) ^ 16 = 18446744073709551616 by decide, Nat.mod_eq_of_lt ha, Nat.mod_eq_of_lt hb]
  simp

end Go.Proofs.YtgococpbhbcpmaaDoor
