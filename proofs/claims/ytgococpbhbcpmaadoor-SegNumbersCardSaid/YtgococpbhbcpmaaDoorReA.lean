/-
  Walks of package real, of the library's questions, and of the reference: Class, Key, Less, Canon.
-/
import Derived.Test.YtgococpbhbcpmaaDoorReN
import Derived.Test.YtgococpbhbcpmaaDoorBase
namespace Go.Proofs.YtgococpbhbcpmaaDoor
open Go.RowKit
set_option linter.unusedVariables false
set_option linter.unusedSimpArgs false

theorem fmt64 : FloatKind.f64.format = Ieee.double := rfl

theorem negF (b : Nat) : Op.negFloat .f64 b = b ^^^ 9223372036854775808 := rfl
theorem xor_up (b : Nat) (h : b < 9223372036854775808) : b ^^^ 9223372036854775808 = b + 9223372036854775808 := by
  have h1 : b ^^^ 9223372036854775808 = b ||| 9223372036854775808 := by
    apply Nat.eq_of_testBit_eq
    intro i
    rw [Nat.testBit_xor, Nat.testBit_or, show (9223372036854775808 : Nat) = 2 ^ 63 by decide, Nat.testBit_two_pow]
    by_cases hi : 63 = i
    · subst hi
      rw [Nat.testBit_lt_two_pow (show b < 2 ^ 63 from h)]
      simp
    · simp [hi]
  rw [h1, Nat.or_comm]
  have := Nat.two_pow_add_eq_or_of_lt (i := 63) (show b < 2 ^ 63 from h) 1
  rw [Nat.mul_one] at this
  rw [show (9223372036854775808 : Nat) = 2 ^ 63 by decide, ← this, Nat.add_comm]
theorem xor_down (b : Nat) (h0 : 9223372036854775808 ≤ b) (h : b < 18446744073709551616) : b ^^^ 9223372036854775808 = b - 9223372036854775808 := by
  obtain ⟨c, hc⟩ : ∃ c, c = b - 9223372036854775808 := ⟨_, rfl⟩
  have e : b = c ^^^ 9223372036854775808 := by rw [xor_up c (by omega)]; omega
  rw [← hc, e, Nat.xor_assoc, Nat.xor_self, Nat.xor_zero]

theorem neg_inf : Op.negFloat .f64 9218868437227405312 = 18442240474082181120 := by decide
theorem neg_minf : Op.negFloat .f64 18442240474082181120 = 9218868437227405312 := by decide
theorem cls_inf : cls 9218868437227405312 = 6 := by decide
theorem cls_minf : cls 18442240474082181120 = 1 := by decide
theorem cls_zero : cls 0 = 4 := by decide
theorem cls_minus : cls 9223372036854775808 = 3 := by decide

end Go.Proofs.YtgococpbhbcpmaaDoor