/-
  What the conditions on the library's five listed variables give the walks of segments.
-/
import Derived.Test.YtgococpbhbcpmaaDoorSpC
import Derived.Test.YtgococpbhbcpmaaDoorOpen
import Derived.LaidMore
import Derived.Stop.Joined
import Derived.Stop.LaidErr
import Derived.Lib.LaidTab
namespace Go.Proofs.YtgococpbhbcpmaaDoor
open Go.ChangeShapes Go.WideShapes Go.ChangeAt Go.WideMaps Go.WideElems Go.RowKit
set_option linter.unusedVariables false
set_option linter.unusedSimpArgs false

theorem gSyn : Tryd.prog.globalNamed "strconv.ErrSyntax" = some 0 := by kernel_rfl
theorem tSyn : (Tryd.prog.globals[0]?).map (·.type) = some 36 := by kernel_rfl
theorem gRng13 : Tryd.prog.globalNamed "strconv.ErrRange" = some 1 := by kernel_rfl
theorem tRng13 : (Tryd.prog.globals[1]?).map (·.type) = some 36 := by kernel_rfl
theorem gBru : Tryd.prog.globalNamed "math/bits.deBruijn64tab" = some 5 := by kernel_rfl
theorem tBru : (Tryd.prog.globals[5]?).map (·.type) = some 115 := by kernel_rfl
theorem starE13 : "*" ++ "errors.errorString" = "*errors.errorString" := by decide
theorem rowE13 (u : TypeId) (h : Tryd.prog.typeName? 3 u = some "*errors.errorString") : u = 107 :=
  typeName_ptr_named (nm := "errors.errorString") (by rw [starE13]; kernel_rfl) (by kernel_rfl) (by decide) u (by rw [starE13]; exact h)
abbrev laidK : List (String × DataW Unit) := [("math/bits.deBruijn32tab", Rows.laid_math_bits_deBruijn32tab), ("math/bits.deBruijn64tab", Rows.laid_math_bits_deBruijn64tab), ("internal/strconv.uint64pow10", Rows.laid_internal_strconv_uint64pow10), ("strconv.ErrRange", Rows.laid_strconv_ErrRange), ("strconv.ErrSyntax", Rows.laid_strconv_ErrSyntax)]

/-- The door's own heap meets the condition. -/
theorem door_met (os : Os) (args : Array Value) : laidMetH Tryd.prog laidK ((World.doorLaid Tryd.prog 400 os).forCall (fun _ _ => 0) ⟨#[], args, []⟩).memory :=
  laidMetH_of_parts3 (fuel := 8) (laidMet_of_run' 8 (by kernel_rfl) (by kernel_rfl)) (by kernel_rfl) (by kernel_rfl)

/-- What the walks ask of the library's variables. -/
theorem of_laid {W : World} (h : laidMetH Tryd.prog laidK W) : SV W := by
  rw [MakeChecks.laidMetH_plain _ _ _ (by kernel_rfl)] at h
  have h3 := h.tail.tail.tail
  obtain ⟨a, s, hv, _⟩ := laid_sentinel h3 gRng13 tRng13 Tryd.underlying36 rowE13 Tryd.underlying107 Tryd.underlying109 rfl rfl Tryd.underlying9 (by kernel_rfl) (by kernel_rfl)
  obtain ⟨a2, s2, hv2, _⟩ := laid_sentinel h3.tail gSyn tSyn Tryd.underlying36 rowE13 Tryd.underlying107 Tryd.underlying109 rfl rfl Tryd.underlying9 (by kernel_rfl) (by kernel_rfl)
  have hT := Lib.tabIs_of_head (P := Tryd.prog) (k := .u8) (zs := Lib.deBruijn64tab.map fun (n : Nat) => (n : Int)) (n := 64) gBru tBru Tryd.underlying115 Tryd.underlying5 (by kernel_rfl) (by kernel_rfl) h.tail
  refine ⟨?_, ⟨_, by simpa using World.var?_cell gSyn hv2 0, .inr ⟨_, _, rfl⟩⟩, ⟨_, by simpa using World.var?_cell gRng13 hv 0, .inr ⟨_, _, rfl⟩⟩⟩
  intro k hk
  have hkl : k < (Lib.deBruijn64tab.map fun (n : Nat) => (n : Int)).length := by rw [List.length_map]; exact hk
  rw [hT.cell gBru k hkl, List.getD_eq_getElem?_getD, List.getD_eq_getElem?_getD, List.getElem?_map]
  rw [List.length_map] at hkl
  rw [List.getElem?_eq_getElem hkl]
  rfl

end Go.Proofs.YtgococpbhbcpmaaDoor
