/-
  Walks over package sha and its reference: turning a number, one turn.
-/
import Derived.Test.YtnmibfncgoemfaaShaM
namespace Go.Proofs.Ytnmibfncgoemfaa
open Go.RowKit
set_option linter.unusedVariables false
set_option linter.unusedSimpArgs false

theorem rotr_or (x : UInt32) (k : Nat) : (rotr x k).toNat = x.toNat / 2 ^ k ||| x.toNat * 2 ^ (32 - k) % 4294967296 := by
  have hx := x.toNat_lt
  have h1 : x.toNat / 2 ^ k % 4294967296 = x.toNat / 2 ^ k := Nat.mod_eq_of_lt (Nat.lt_of_le_of_lt (Nat.div_le_self _ _) hx)
  unfold rotr
  rw [UInt32.toNat_ofNat', show (2 : Nat) ^ 32 = 4294967296 from rfl, show (4294967296 : Nat) = 2 ^ 32 from rfl, Nat.or_mod_two_pow, show (2 : Nat) ^ 32 = 4294967296 from rfl, h1]

theorem neg_and (k : Nat) (hk : 0 < k ∧ k < 32) : bits .and .u64 (IntKind.u64.wrap (-((k : Nat) : Int))) 31 = ((32 - k : Nat) : Int) := by
  have h1 : IntKind.u64.wrap (-((k : Nat) : Int)) = ((18446744073709551616 - k : Nat) : Int) := by
    simp only [IntKind.wrap, IntKind.bits, IntKind.signed]
    simp
    omega
  rw [h1]
  have h2 := u64_and_nat (18446744073709551616 - k) 31 (by omega) (by decide)
  rw [show (31 : Int) = ((31 : Nat) : Int) from rfl, h2, show (31 : Nat) = 2 ^ 5 - 1 from rfl, Nat.and_two_pow_sub_one_eq_mod]
  congr 1
  omega

theorem rot_bits (x : UInt32) (k : Nat) : bits .or .u32 (((x.toNat : Nat) : Int) / 2 ^ k) (((x.toNat : Nat) : Int) * 2 ^ (32 - k) % 4294967296) = (((rotr x k).toNat : Nat) : Int) := by
  have hx := x.toNat_lt
  have h1 : x.toNat / 2 ^ k < 4294967296 := Nat.lt_of_le_of_lt (Nat.div_le_self _ _) hx
  rw [rotr_or]
  have := u32_or_nat (x.toNat / 2 ^ k) (x.toNat * 2 ^ (32 - k) % 4294967296) h1 (Nat.mod_lt _ (by decide))
  rw [← this]
  simp
theorem rot_bits2 (x : UInt32) (k : Nat) : bits .or .u32 (((x.toNat : Nat) : Int) * 2 ^ (32 - k) % 4294967296) (((x.toNat : Nat) : Int) / 2 ^ k) = (((rotr x k).toNat : Nat) : Int) := by
  have hx := x.toNat_lt
  have h1 : x.toNat / 2 ^ k < 4294967296 := Nat.lt_of_le_of_lt (Nat.div_le_self _ _) hx
  rw [rotr_or, Nat.or_comm]
  have := u32_or_nat (x.toNat * 2 ^ (32 - k) % 4294967296) (x.toNat / 2 ^ k) (Nat.mod_lt _ (by decide)) h1
  rw [← this]
  simp

theorem u_notaux (s : Nat) (hs : s < 4294967296) : (4294967295 : Int) - ((s : Nat) : Int) = bits .xor .u32 IntKind.u32.max ((s : Nat) : Int) := by
  have h := u32_xor_nat 4294967295 s (by decide) hs
  have h2 : (4294967295 : Nat) ^^^ s = 4294967295 - s := by
    have := Nat.xor_comm 4294967295 s
    apply Nat.eq_of_testBit_eq
    intro i
    rw [Nat.testBit_xor, show (4294967295 : Nat) = 2 ^ 32 - 1 from rfl, Nat.testBit_two_pow_sub_one, show 2 ^ 32 - 1 - s = 2 ^ 32 - (s + 1) by omega, Nat.testBit_two_pow_sub_succ (by omega)]
    by_cases hi : i < 32
    · simp [hi]
    · have : s.testBit i = false := Nat.testBit_lt_two_pow (Nat.lt_of_lt_of_le hs (by rw [show (4294967296 : Nat) = 2 ^ 32 from rfl]; exact Nat.pow_le_pow_right (by decide) (by omega)))
      simp [hi, this]
  show _ = bits .xor .u32 ((4294967295 : Nat) : Int) _
  rw [h, h2]
  omega

section
variable (x y : UInt32)
theorem u_addm : (uN x + uN y) % 4294967296 = uN (x + y) := by
  unfold uN; rw [UInt32.toNat_add]; simp
theorem u_addw : IntKind.u32.wrap (uN x + uN y) = uN (x + y) := by
  rw [IntKind.wrap_u32', u_addm]
theorem u_add3 (z : UInt32) : (uN x + uN y + uN z) % 4294967296 = uN (x + y + z) := by
  unfold uN; rw [UInt32.toNat_add, UInt32.toNat_add]; omega
theorem u_add4 (z t : UInt32) : (uN x + uN y + uN z + uN t) % 4294967296 = uN (x + y + z + t) := by
  unfold uN; rw [UInt32.toNat_add, UInt32.toNat_add, UInt32.toNat_add]; omega
theorem u_add5 (z t u : UInt32) : (uN x + uN y + uN z + uN t + uN u) % 4294967296 = uN (x + y + z + t + u) := by
  unfold uN; rw [UInt32.toNat_add, UInt32.toNat_add, UInt32.toNat_add, UInt32.toNat_add]; omega
theorem u_add13 (z t : UInt32) : (uN x + (uN y + uN z + uN t)) % 4294967296 = uN (x + (y + z + t)) := by
  unfold uN; rw [UInt32.toNat_add, UInt32.toNat_add, UInt32.toNat_add]; omega
theorem u_add12 (z : UInt32) : (uN x + (uN y + uN z)) % 4294967296 = uN (x + (y + z)) := by
  unfold uN; rw [UInt32.toNat_add, UInt32.toNat_add]; omega
theorem u_xor : bits .xor .u32 (uN x) (uN y) = uN (x ^^^ y) := by
  unfold uN; rw [UInt32.toNat_xor]; exact u32_xor_nat _ _ x.toNat_lt y.toNat_lt
theorem u_and : bits .and .u32 (uN x) (uN y) = uN (x &&& y) := by
  unfold uN; rw [UInt32.toNat_and]; exact u32_and_nat _ _ x.toNat_lt y.toNat_lt
theorem u_or : bits .or .u32 (uN x) (uN y) = uN (x ||| y) := by
  unfold uN; rw [UInt32.toNat_or]; exact u32_or_nat _ _ x.toNat_lt y.toNat_lt
theorem u_not : bits .xor .u32 IntKind.u32.max (uN y) = uN (4294967295 ^^^ y) := by
  unfold uN; rw [UInt32.toNat_xor]; exact u32_xor_nat 4294967295 _ (by decide) y.toNat_lt
theorem u_not2 : 4294967295 - uN y = uN (4294967295 ^^^ y) := by
  rw [← u_not y]
  exact u_notaux y.toNat y.toNat_lt
theorem u_not3 : (4294967295 - uN y) % 4294967296 = uN (4294967295 ^^^ y) := by
  rw [u_not2]
  exact Int.emod_eq_of_lt (uN_lo _) (uN_hi _)
theorem u_not4 : IntKind.u32.wrap (4294967295 - uN y) = uN (4294967295 ^^^ y) := by
  rw [IntKind.wrap_u32', u_not3]
theorem u_shr (k : Nat) : uN x / 2 ^ k = uN (shr x k) := by
  have hx := x.toNat_lt
  unfold uN shr
  rw [UInt32.toNat_ofNat', Nat.mod_eq_of_lt (Nat.lt_of_le_of_lt (Nat.div_le_self _ _) hx)]
  simp
theorem u_shr3 : uN x / 8 = uN (shr x 3) := u_shr x 3
theorem u_shr10 : uN x / 1024 = uN (shr x 10) := u_shr x 10
end

attribute [local go_sem] u_addm u_addw u_add3 u_add4 u_add5 u_add12 u_add13 u_xor u_and u_or u_not u_not2 u_not3 u_not4 u_shr3 u_shr10

end Go.Proofs.Ytnmibfncgoemfaa
