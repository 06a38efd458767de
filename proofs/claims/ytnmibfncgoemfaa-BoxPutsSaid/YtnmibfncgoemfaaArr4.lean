/-
  An array of four bytes: whether it is all zeros.
-/
import Derived.Test.YtnmibfncgoemfaaOpen
import Derived.DeepKeys
import Derived.Laws.IdiomArrays
namespace Go.Proofs.Ytnmibfncgoemfaa
open Go.RowKit
set_option linter.unusedVariables false
set_option linter.unusedSimpArgs false

theorem Try.cells_u8 : Try.prog.cellsOf 5 = 1 := by kernel_rfl
theorem Try.cells_arr4 : Try.prog.cellsOf 38 = 4 := by kernel_rfl

/-- An array of four bytes. -/
def arr4 (x0 x1 x2 x3 : UInt8) : Value := .agg #[.int .u8 ((x0.toNat : Nat) : Int), .int .u8 ((x1.toNat : Nat) : Int), .int .u8 ((x2.toNat : Nat) : Int), .int .u8 ((x3.toNat : Nat) : Int)]

theorem u8_wf (x : UInt8) : (Lit.int .u8 ((x.toNat : Nat) : Int)).wf = true := by
  have := x.toNat_lt
  simp [Lit.wf, IntKind.min, IntKind.max, IntKind.signed, IntKind.bits]
  omega
theorem lits4 (x0 x1 x2 x3 : UInt8) : Try.prog.keyLits 2 38 (arr4 x0 x1 x2 x3).cells.toList = some [.int .u8 ((x0.toNat : Nat) : Int), .int .u8 ((x1.toNat : Nat) : Int), .int .u8 ((x2.toNat : Nat) : Int), .int .u8 ((x3.toNat : Nat) : Int)] := by
  simp [Program.keyLits, Try.underlying38, Try.underlying5, Try.cells_u8, Try.cells_arr4, arr4, Value.cells, u8_wf, show List.range 4 = [0, 1, 2, 3] from rfl]

theorem equal4 (x0 x1 x2 x3 y0 y1 y2 y3 : UInt8) (w : World) : (Op.equalIn 10000 38 (arr4 x0 x1 x2 x3) (arr4 y0 y1 y2 y3)).run Try.prog w = .ok (decide (x0 = y0 ∧ x1 = y1 ∧ x2 = y2 ∧ x3 = y3)) w := by
  obtain ⟨r, hr, hiff⟩ := run_equalIn_deep (P := Try.prog) 9998 2 38 (by kernel_rfl) w 2 2 (arr4 x0 x1 x2 x3) (arr4 y0 y1 y2 y3) _ _ (by kernel_rfl) (by kernel_rfl) (lits4 x0 x1 x2 x3) (lits4 y0 y1 y2 y3)
  have : r = decide (x0 = y0 ∧ x1 = y1 ∧ x2 = y2 ∧ x3 = y3) := by
    rw [Bool.eq_iff_iff, hiff]
    have hi : ∀ (x y : UInt8), ((x.toNat : Int) = (y.toNat : Int)) ↔ x = y := fun x y => by rw [Int.ofNat_inj, UInt8.toNat_inj]
    simp [hi]
  rw [← this]
  exact hr

/-- IN A CONTEXT OF ITS OWN. -/
theorem arrList4 {α : Type} (l : List α) (h : (⟨l⟩ : Array α).size = 4) : ∃ a b c d, l = [a, b, c, d] := by
  match l, h with
  | [a, b, c, d], _ => exact ⟨a, b, c, d, rfl⟩

open Go.ChangeShapes Go.WideShapes Go.ChangeAt in
theorem cell_u8 {H : Type} {enc : TypeId × Value → H} {W : World} {sp : Nat → Bool} {held : Bool} {m : Nat} {c : Value} {y : DataW H × List MemPlace} (h : DataW.trod enc Try.prog W 0 sp held m 5 [c] = some y) :
    ∃ x : UInt8, c = .int .u8 ((x.toNat : Nat) : Int) := by
  obtain ⟨x, e, _, w⟩ := DataW.trod_int Try.underlying5 h
  simp at e
  obtain ⟨b0, b1⟩ := bounds_u8 w
  exact ⟨UInt8.ofNat x.toNat, by rw [ofNat_toNat_u8 x b0 b1]; exact e⟩

open Go.ChangeShapes Go.WideShapes Go.ChangeAt in
theorem open_arr4 {H : Type} {enc : TypeId × Value → H} {W : World} {base : Nat} {sp : Nat → Bool} {held : Bool} {v : Value} {d : DataW H} {p : List MemPlace}
    (hv : Value.okWide Try.prog W .any base 38 v) (h : DataW.Trod enc Try.prog W 0 sp held 38 v d p) : ∃ x0 x1 x2 x3, v = arr4 x0 x1 x2 x3 := by
  obtain ⟨cs, rfl, hsz, _⟩ : ∃ cs, v = .agg cs ∧ cs.size = Try.prog.cellsOf 38 ∧ Row.okWide Try.prog W .any base 38 cs := by
    simpa [Value.okWide, Try.underlying38] using hv
  rw [Try.cells_arr4] at hsz
  obtain ⟨l⟩ := cs
  obtain ⟨c0, c1, c2, c3, rfl⟩ := arrList4 l hsz
  obtain ⟨fuel, hf⟩ := h
  obtain ⟨y0, y1, y2, y3, m, hx, hy0, hy1, hy2, hy3⟩ := trod_array4 Try.underlying38 Try.cells_u8 hf
  obtain ⟨x0, rfl⟩ := cell_u8 hy0
  obtain ⟨x1, rfl⟩ := cell_u8 hy1
  obtain ⟨x2, rfl⟩ := cell_u8 hy2
  obtain ⟨x3, rfl⟩ := cell_u8 hy3
  exact ⟨x0, x1, x2, x3, rfl⟩

end Go.Proofs.Ytnmibfncgoemfaa
