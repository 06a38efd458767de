/-
  Walks over package crc and its reference: afterByte, More, Sum, Seal, Open; the reference's Sum and Seal.
-/
import Derived.Test.YtgococpbhbcpmaaDoorCrcM
namespace Go.Proofs.YtgococpbhbcpmaaDoor
open Go.RowKit
set_option linter.unusedVariables false
set_option linter.unusedSimpArgs false

theorem not_u32 (s : Nat) (hs : s < 4294967296) : bits .xor .u32 IntKind.u32.max (s : Int) = ((4294967295 - s : Nat) : Int) := by
  rw [sub_xor s hs, Nat.xor_comm]
  exact u32_xor_nat 4294967295 s (by decide) hs

/-- A sum that goes on. -/
def moreC (s : Nat) (l : List UInt8) : Nat := 4294967295 - crcReg (4294967295 - s) l
theorem moreC_le (s : Nat) (l : List UInt8) : moreC s l ≤ 4294967295 := by unfold moreC; omega

theorem crcSum_more (l : List UInt8) : crcSum l = moreC 0 l := rfl

theorem ref_same (y z : Nat) (h : y % 2 = z % 2) : y / 2 ^^^ z / 2 = stepC (y ^^^ z) := by
  unfold stepC
  rw [if_neg (by rw [Nat.xor_mod_two_eq_one]; omega), Nat.xor_div_two]
theorem ref_other (y z : Nat) (h : y % 2 ≠ z % 2) : (y / 2 ^^^ 2197175160) ^^^ z / 2 = stepC (y ^^^ z) := by
  unfold stepC
  rw [if_pos (by rw [Nat.xor_mod_two_eq_one]; omega), Nat.xor_div_two, Nat.xor_assoc, Nat.xor_assoc, Nat.xor_comm (z / 2)]

theorem test_same (y z : Nat) (h : y % 2 = z % 2) : (!((y : Int) % 2 == 1) == ((z : Int) % 2 == 1)) = false := by
  have : (y : Int) % 2 = (z : Int) % 2 := by omega
  rw [this]; simp
theorem test_other (y z : Nat) (h : y % 2 ≠ z % 2) : (!((y : Int) % 2 == 1) == ((z : Int) % 2 == 1)) = true := by
  by_cases hy : (y : Int) % 2 = 1
  · have hz : (z : Int) % 2 = 0 := by omega
    rw [hy, hz]; rfl
  · have hy0 : (y : Int) % 2 = 0 := by omega
    have hz : (z : Int) % 2 = 1 := by omega
    rw [hy0, hz]; rfl

end Go.Proofs.YtgococpbhbcpmaaDoor
