/-
  Walks of package price: divided, product, Due, Check, Over, Add.
-/
import Derived.Test.YtnjkhhagefipiaaDoorPrM
import Derived.Test.YtnjkhhagefipiaaDoorReF
import Derived.Laws.Externs
namespace Go.Proofs.YtnjkhhagefipiaaDoor
open Go.RowKit
set_option linter.unusedVariables false
set_option linter.unusedSimpArgs false

theorem min_div (h j : Nat) (hh : h < 18446744073709551616) : (h : Int) / 2 ^ min j 64 = ((h / 2 ^ j : Nat) : Int) := by
  rw [int_div_pow]
  by_cases h64 : j ≤ 64
  · rw [Nat.min_eq_left h64]
  · rw [Nat.min_eq_right (by omega), Nat.div_eq_of_lt hh, Nat.div_eq_of_lt (Nat.lt_of_lt_of_le hh (Nat.pow_le_pow_right (by decide) (by omega) : 2 ^ 64 ≤ 2 ^ j))]

end Go.Proofs.YtnjkhhagefipiaaDoor
