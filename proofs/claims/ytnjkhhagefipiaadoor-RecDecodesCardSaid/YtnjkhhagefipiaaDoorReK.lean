/-
  What the condition on the library's table of 64 numbers gives the walks.
-/
import Derived.Test.YtnjkhhagefipiaaDoorReF
import Derived.Test.YtnjkhhagefipiaaDoorOpen
import Derived.LaidMore
import Derived.Stop.Joined
namespace Go.Proofs.YtnjkhhagefipiaaDoor
open Go.ChangeShapes Go.WideShapes Go.ChangeAt Go.WideMaps Go.WideElems Go.RowKit
set_option linter.unusedVariables false
set_option linter.unusedSimpArgs false

theorem gBru : Tryd.prog.globalNamed "math/bits.deBruijn64tab" = some 1 := by kernel_rfl
theorem tBru : (Tryd.prog.globals[1]?).map (·.type) = some 85 := by kernel_rfl
abbrev laidK : List (String × DataW Unit) := [("math/bits.deBruijn64tab", Rows.laid_math_bits_deBruijn64tab)]

/-- The door's own heap meets the condition. -/
theorem door_met (os : Os) (args : Array Value) : laidMetH Tryd.prog laidK ((World.doorLaid Tryd.prog 400 os).forCall (fun _ _ => 0) ⟨#[], args, []⟩).memory :=
  laidMetH_of_parts3 (fuel := 8) (laidMet_of_run' 8 (by kernel_rfl) (by kernel_rfl)) (by kernel_rfl) (by kernel_rfl)

/-- The table's cells are the constants. -/
theorem of_laid {W : World} (h : laidMetH Tryd.prog laidK W) : DK W := by
  rw [MakeChecks.laidMetH_plain _ _ _ (by kernel_rfl)] at h
  obtain ⟨ps, ⟨g0, t0, cs0, f0, p0, q0, hg0, ht0, hv0, hd0, _, _⟩, _, _⟩ := h
  obtain rfl := Option.some.inj (gBru.symm.trans hg0)
  obtain rfl := Option.some.inj (tBru.symm.trans ht0)
  obtain ⟨xs, m1, rfl, hx1, hlen, hn3, hel⟩ := DataW.trod_array Tryd.underlying85 hd0
  have c3 : Tryd.prog.cellsOf 5 = 1 := by kernel_rfl
  simp only [Prod.mk.injEq] at hx1
  have hx2 : xs.map (·.1) = Lib.deBruijn64tab.map fun n => (DataW.lit (.int .u8 (n : Nat)) : DataW Unit) := by
    have : (DataW.agg (xs.map (·.1)) : DataW Unit) = .agg (Lib.deBruijn64tab.map fun n => .lit (.int .u8 (n : Nat))) := hx1.1.symm.trans rfl
    injection this
  intro k hk
  have hk64 : k < Lib.deBruijn64tab.length := hk
  have he := hel k hk
  rw [c3, Nat.mul_one] at he
  cases hxk : xs[k]? with
  | none =>
    have := List.getElem?_eq_none_iff.1 hxk
    omega
  | some x =>
    rw [hxk] at he
    obtain ⟨z, e1, e2, _⟩ := DataW.trod_int Tryd.underlying5 he
    have h3 := congrArg (fun l => l[k]?) hx2
    simp only [List.getElem?_map, hxk, Option.map_some, e2, List.getElem?_eq_getElem hk64] at h3
    injection h3 with h4
    injection h4 with h5
    injection h5 with _ h6
    have hc := World.var?_cell hg0 hv0 k
    rw [hc, ← Array.getElem?_toList]
    have h7 : cs0.toList[k]? = some (.int .u8 z) := by
      have := congrArg (fun l => l[0]?) e1
      simp only [List.getElem?_take, List.getElem?_drop] at this
      simpa using this
    rw [h7, h6]
    rw [List.getD_eq_getElem?_getD, List.getElem?_eq_getElem hk64]
    rfl

end Go.Proofs.YtnjkhhagefipiaaDoor
