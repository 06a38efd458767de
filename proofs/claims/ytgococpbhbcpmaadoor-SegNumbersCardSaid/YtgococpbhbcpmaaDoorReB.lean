/-
  Walks of package real and of the reference: Key, Less, Canon; the reference's Fields, Class, Less, Canon.
-/
import Derived.Test.YtgococpbhbcpmaaDoorReA
namespace Go.Proofs.YtgococpbhbcpmaaDoor
open Go.RowKit
set_option linter.unusedVariables false
set_option linter.unusedSimpArgs false

theorem cls_le (b : Nat) : cls b = 0 ∨ cls b = 1 ∨ cls b = 2 ∨ cls b = 3 ∨ cls b = 4 ∨ cls b = 5 ∨ cls b = 6 := by
  unfold cls
  split
  · split
    · simp
    · split
      · simp
      · split <;> simp
  · split
    · simp
    · split
      · simp
      · split <;> simp

/-- What a class says of the word. -/
theorem cls_says (b : Nat) (hb : b < 18446744073709551616) :
    (cls b = 0 → (9218868437227405312 < b ∧ b < 9223372036854775808) ∨ 18442240474082181120 < b) ∧ (cls b = 1 → b = 18442240474082181120) ∧
    (cls b = 2 → 9223372036854775808 < b ∧ b < 18442240474082181120) ∧ (cls b = 3 → b = 9223372036854775808) ∧ (cls b = 4 → b = 0) ∧ (cls b = 5 → 0 < b ∧ b < 9218868437227405312) ∧ (cls b = 6 → b = 9218868437227405312) := by
  unfold cls
  split
  · split
    · refine ⟨?_, ?_, ?_, ?_, ?_, ?_, ?_⟩ <;> intro h <;> first | omega | simp at h
    · split
      · refine ⟨?_, ?_, ?_, ?_, ?_, ?_, ?_⟩ <;> intro h <;> first | omega | simp at h
      · split
        · refine ⟨?_, ?_, ?_, ?_, ?_, ?_, ?_⟩ <;> intro h <;> first | omega | simp at h
        · refine ⟨?_, ?_, ?_, ?_, ?_, ?_, ?_⟩ <;> intro h <;> first | omega | simp at h
  · split
    · refine ⟨?_, ?_, ?_, ?_, ?_, ?_, ?_⟩ <;> intro h <;> first | omega | simp at h
    · split
      · refine ⟨?_, ?_, ?_, ?_, ?_, ?_, ?_⟩ <;> intro h <;> first | omega | simp at h
      · split
        · refine ⟨?_, ?_, ?_, ?_, ?_, ?_, ?_⟩ <;> intro h <;> first | omega | simp at h
        · refine ⟨?_, ?_, ?_, ?_, ?_, ?_, ?_⟩ <;> intro h <;> first | omega | simp at h

/-- The key. -/
def keyV (b : Nat) : Nat := if cls b = 0 then 18446744073709551615 else if 9223372036854775808 ≤ b then 18446744073709551615 - b else b + 9223372036854775808

theorem keyV_lt (b : Nat) (hb : b < 18446744073709551616) : keyV b < 18446744073709551616 := by
  unfold keyV
  split
  · omega
  · split <;> omega

theorem not_u64 (b : Nat) (hb : b < 18446744073709551616) : bits .xor .u64 IntKind.u64.max (b : Int) = ((18446744073709551615 - b : Nat) : Int) := by
  have h := u64_xor_nat 18446744073709551615 b (by decide) hb
  have e : 18446744073709551615 ^^^ b = 18446744073709551615 - b := by
    have h1 : (18446744073709551615 - b) &&& b = 0 := by
      apply Nat.eq_of_testBit_eq
      intro i
      rw [Nat.testBit_and, Nat.zero_testBit, show 18446744073709551615 - b = 2 ^ 64 - (b + 1) by omega, Nat.testBit_two_pow_sub_succ (show b < 2 ^ 64 from hb)]
      cases b.testBit i <;> simp
    have h2 : (18446744073709551615 - b) ^^^ b = 18446744073709551615 := by
      apply Nat.eq_of_testBit_eq
      intro i
      rw [Nat.testBit_xor, show (18446744073709551615 - b : Nat) = 2 ^ 64 - (b + 1) by omega, Nat.testBit_two_pow_sub_succ (show b < 2 ^ 64 from hb), show (18446744073709551615 : Nat) = 2 ^ 64 - 1 by decide, Nat.testBit_two_pow_sub_one]
      by_cases hi : i < 64
      · simp [hi]
      · have : b.testBit i = false := Nat.testBit_lt_two_pow (Nat.lt_of_lt_of_le (show b < 2 ^ 64 from hb) (Nat.pow_le_pow_right (by decide) (by omega)))
        simp [hi, this]
    conv => lhs; rw [← h2]
    rw [Nat.xor_assoc, Nat.xor_self, Nat.xor_zero]
  rw [← e]
  exact h

theorem or_sign (b : Nat) (h : b < 9223372036854775808) : bits .or .u64 (b : Int) 9223372036854775808 = ((b + 9223372036854775808 : Nat) : Int) := by
  have h1 := u64_or_nat b 9223372036854775808 (by omega) (by decide)
  have h2 := Nat.two_pow_add_eq_or_of_lt (i := 63) (show b < 2 ^ 63 from h) 1
  rw [Nat.mul_one] at h2
  rw [Nat.or_comm, show (9223372036854775808 : Nat) = 2 ^ 63 by decide, ← h2] at h1
  rw [Nat.add_comm]
  exact h1

/-- The bits without edges. -/
def canonV (b : Nat) : Nat := if cls b = 0 then 9221120237041090560 else if cls b = 3 then 0 else b

theorem canon_cases (b : Nat) : (cls b = 0 ∧ canonV b = 9221120237041090560) ∨ (cls b = 3 ∧ canonV b = 0) ∨ ((cls b = 1 ∨ cls b = 2 ∨ cls b = 4 ∨ cls b = 5 ∨ cls b = 6) ∧ canonV b = b) := by
  unfold canonV
  rcases cls_le b with h | h | h | h | h | h | h <;> simp [h]

/-- What the key says, by the class. -/
theorem key_says (b : Nat) (hb : b < 18446744073709551616) :
    (cls b = 0 ∧ keyV b = 18446744073709551615) ∨ (cls b = 1 ∧ b = 18442240474082181120 ∧ keyV b = 4503599627370495) ∨ (cls b = 2 ∧ 9223372036854775808 < b ∧ b < 18442240474082181120 ∧ keyV b + b = 18446744073709551615) ∨
    (cls b = 3 ∧ b = 9223372036854775808 ∧ keyV b = 9223372036854775807) ∨ (cls b = 4 ∧ b = 0 ∧ keyV b = 9223372036854775808) ∨ (cls b = 5 ∧ 0 < b ∧ b < 9218868437227405312 ∧ keyV b = b + 9223372036854775808) ∨ (cls b = 6 ∧ b = 9218868437227405312 ∧ keyV b = 18442240474082181120) := by
  obtain ⟨s0, s1, s2, s3, s4, s5, s6⟩ := cls_says b hb
  unfold keyV
  rcases cls_le b with h | h | h | h | h | h | h
  · exact .inl ⟨h, if_pos h⟩
  · have := s1 h
    exact .inr (.inl ⟨h, this, by rw [if_neg (by omega), if_pos (by omega)]; omega⟩)
  · have := s2 h
    exact .inr (.inr (.inl ⟨h, this.1, this.2, by rw [if_neg (by omega), if_pos (by omega)]; omega⟩))
  · have := s3 h
    exact .inr (.inr (.inr (.inl ⟨h, this, by rw [if_neg (by omega), if_pos (by omega)]; omega⟩)))
  · have := s4 h
    exact .inr (.inr (.inr (.inr (.inl ⟨h, this, by rw [if_neg (by omega), if_neg (by omega)]; omega⟩))))
  · have := s5 h
    exact .inr (.inr (.inr (.inr (.inr (.inl ⟨h, this.1, this.2, by rw [if_neg (by omega), if_neg (by omega)]⟩)))))
  · have := s6 h
    exact .inr (.inr (.inr (.inr (.inr (.inr ⟨h, this, by rw [if_neg (by omega), if_neg (by omega)]; omega⟩)))))

/-- Is one ahead? By their keys. -/
theorem less_keys (a b : Nat) (ha : a < 18446744073709551616) (hb : b < 18446744073709551616) :
    (cls a = 0 ∧ ¬ keyV a < keyV b) ∨ (cls a ≠ 0 ∧ cls b = 0 ∧ keyV a < keyV b) ∨
    (cls a ≠ 0 ∧ cls b ≠ 0 ∧ cls a ≠ cls b ∧ (keyV a < keyV b ↔ cls a < cls b)) ∨
    (cls a ≠ 0 ∧ cls b = cls a ∧ cls a = 2 ∧ (keyV a < keyV b ↔ b < a)) ∨
    (cls a ≠ 0 ∧ cls b = cls a ∧ cls a ≠ 2 ∧ (keyV a < keyV b ↔ a < b)) := by
  have h1 := key_says a ha
  have h2 := key_says b hb
  have k2 := keyV_lt b hb
  generalize cls a = x at *
  generalize cls b = y at *
  generalize keyV a = p at *
  generalize keyV b = q at *
  by_cases hx : x = 0
  · exact .inl ⟨hx, by rcases h1 with h | h | h | h | h | h | h <;> omega⟩
  by_cases hy : y = 0
  · refine .inr (.inl ⟨hx, hy, ?_⟩)
    have : q = 18446744073709551615 := by rcases h2 with h | h | h | h | h | h | h <;> omega
    rcases h1 with h | h | h | h | h | h | h <;> omega
  by_cases hxy : x = y
  · subst hxy
    by_cases h22 : x = 2
    · refine .inr (.inr (.inr (.inl ⟨hx, rfl, h22, ?_⟩)))
      rcases h1 with h | h | h | h | h | h | h <;> rcases h2 with g | g | g | g | g | g | g <;> omega
    · refine .inr (.inr (.inr (.inr ⟨hx, rfl, h22, ?_⟩)))
      rcases h1 with h | h | h | h | h | h | h <;> rcases h2 with g | g | g | g | g | g | g <;> omega
  · refine .inr (.inr (.inl ⟨hx, hy, hxy, ?_⟩))
    rcases h1 with h | h | h | h | h | h | h <;> rcases h2 with g | g | g | g | g | g | g <;> omega

end Go.Proofs.YtgococpbhbcpmaaDoor
