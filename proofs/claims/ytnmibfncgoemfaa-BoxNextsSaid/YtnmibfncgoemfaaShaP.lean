/-
  What follows n bytes: the program's Pad and the reference's.
-/
import Derived.Test.YtnmibfncgoemfaaShaM
import Derived.Test.YtnmibfncgoemfaaMkByt
import Derived.IntWalk
namespace Go.Proofs.Ytnmibfncgoemfaa
open Go.RowKit
set_option linter.unusedVariables false
set_option linter.unusedSimpArgs false

def padZ (n : Nat) : Nat := (119 - n % 64) % 64
/-- Eight bytes, the highest first. -/
def be8 (x : Nat) : List UInt8 := (le 8 x).reverse
def padL (n : Nat) : List UInt8 := (128 :: List.replicate (padZ n) 0) ++ be8 (n * 8)
theorem padZ_lt (n : Nat) : padZ n < 64 := Nat.mod_lt _ (by decide)
theorem be8_len (x : Nat) : (be8 x).length = 8 := by unfold be8; rw [List.length_reverse, le_len]
theorem padL_len (n : Nat) : (padL n).length = 9 + padZ n := by
  unfold padL
  rw [List.length_append, List.length_cons, List.length_replicate, be8_len]; omega
theorem padL_whole (n : Nat) : (n + (padL n).length) % 64 = 0 := by
  rw [padL_len]; unfold padZ; omega
theorem be8_take (x k : Nat) (hk : k < 8) : (be8 x).take (k + 1) = (be8 x).take k ++ [UInt8.ofNat (x / 256 ^ (7 - k))] := by
  rw [List.take_add_one]
  congr 1
  unfold be8
  rw [List.getElem?_reverse (by rw [le_len]; omega), le_len, show 8 - 1 - k = 7 - k by omega]
  generalize hq : 7 - k = q
  have hq8 : q < 8 := by omega
  have h : ∀ (m x q : Nat), q < m → (le m x)[q]? = some (UInt8.ofNat (x / 256 ^ q)) := by
    intro m
    induction m with
    | zero => intro x q h; omega
    | succ m ih =>
      intro x q h
      cases q with
      | zero => simp [le]
      | succ q =>
        rw [le, List.getElem?_cons_succ, ih _ _ (by omega), Nat.pow_succ, Nat.mul_comm, Nat.div_div_eq_div_mul]
  rw [h 8 x q hq8]; rfl

def lenOf : Value → Nat
  | .slice _ n _ => n
  | _ => 0

end Go.Proofs.Ytnmibfncgoemfaa
