/-
  What the row of words lists, and what the world's shape gives its walk.
-/
import Derived.Test.YtcjpnhfbnckhhaaDoorNaV
import Derived.Test.YtcjpnhfbnckhhaaDoorHsh
import Derived.LaidMore
import Derived.Shelf.Vars
namespace Go.Proofs.YtcjpnhfbnckhhaaDoor
open Go.ChangeShapes Go.WideShapes Go.ChangeAt Go.WideMaps Go.WideElems Go.RowKit
set_option linter.unusedVariables false
set_option linter.unusedSimpArgs false

abbrev laidK : List (String × DataW Unit) := [("unicode/utf8.acceptRanges", Rows.laid_unicode_utf8_acceptRanges), ("unicode/utf8.first", Rows.laid_unicode_utf8_first)]

/-- A world in which both are laid meets the condition. -/
theorem lay_met (os : Os) (args : Array Value) : laidMetH Tryd.prog laidK ((World.laidAll Tryd.prog os laidK).forCall (fun _ _ => 0) ⟨#[], args, []⟩).memory := by
  rw [MakeChecks.laidMetH_plain _ _ _ (by kernel_rfl)]
  exact laidMet_laidAll _ (by kernel_rfl) (by kernel_rfl)

theorem mv_of_shape {W : World} (h : W.ShapedOpen Tryd.prog) : MV W :=
  Go.Proofs.cell_of_shapedOpen_int (zero := #[.int .i64 0]) (t := 3) h (of_decide_eq_true (by kernel_rfl)) (by kernel_rfl) rfl (by kernel_rfl) (by kernel_rfl) Tryd.underlying3

end Go.Proofs.YtcjpnhfbnckhhaaDoor
