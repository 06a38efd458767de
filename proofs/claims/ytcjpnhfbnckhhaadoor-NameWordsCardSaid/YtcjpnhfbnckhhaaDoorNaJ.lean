/-
  Bytes as digits: the reference's Hex and Hexes.
-/
import Derived.Test.YtcjpnhfbnckhhaaDoorNaH
import Derived.Laws.Concat
import Derived.Laws.DeepStrings4
namespace Go.Proofs.YtcjpnhfbnckhhaaDoor
open Go.RowKit
set_option linter.unusedVariables false
set_option linter.unusedSimpArgs false

theorem hexT_slice {P : Program} (w : World) (t : TypeId) (k k' : IntKind) (d : Nat) (i j : Int) (hi : i = (d : Int)) (hj : j = (d : Int) + 1) (hd : d < 16) (h : P.underlying t = some .string) :
    (Instr.slice t (.string ⟨#[48, 49, 50, 51, 52, 53, 54, 55, 56, 57, 97, 98, 99, 100, 101, 102]⟩) (some (.int k i)) (some (.int k' j)) none).run P w = .ok (.string ⟨[hx d].toArray⟩) w := by
  subst hi; subst hj
  rw [run_slice_string_if w t _ k k' _ _ h, if_pos ⟨by omega, by show _ ≤ ((16 : Nat) : Int); omega⟩, if_pos ⟨by omega, by omega⟩]
  congr 1
  have e : ∀ d : Fin 16, hexT.extract d.val (d.val + 1) = ⟨[hx d.val].toArray⟩ := by decide +kernel
  have := e ⟨d, hd⟩
  rw [show ((d : Int)).toNat = d by omega, show ((d : Int) + 1).toNat = d + 1 by omega]
  exact congrArg Value.string this

/-- Two texts, one behind the other. -/
theorem add_texts {P : Program} (x y z : List UInt8) (hz : z = x ++ y) (hx : (x.length : Int) ≤ 8388608) (hy : (y.length : Int) ≤ 8388608) (w : World) :
    (Op.stringOp .add ⟨x.toArray⟩ ⟨y.toArray⟩).run P w = .ok (.string ⟨z.toArray⟩) w := by
  subst hz
  exact run_string_add_lists w x y hx hy

end Go.Proofs.YtcjpnhfbnckhhaaDoor
