/-
  Walks of the laws of package sha: whether the program answers at all; what follows n bytes; the digest of any bytes.
-/
import Derived.Test.YtbpjklafhohlnaaDoorShaT
import Derived.Test.YtbpjklafhohlnaaDoorShaV
namespace Go.Proofs.YtbpjklafhohlnaaDoor
open Go.RowKit
set_option linter.unusedVariables false
set_option linter.unusedSimpArgs false

theorem abc_v : (Value.agg ((shaD [97, 98, 99]).map bv).toArray) = .agg #[.int .u8 186, .int .u8 120, .int .u8 22, .int .u8 191, .int .u8 143, .int .u8 1, .int .u8 207, .int .u8 234, .int .u8 65, .int .u8 65, .int .u8 64, .int .u8 222, .int .u8 93, .int .u8 174, .int .u8 34, .int .u8 35, .int .u8 176, .int .u8 3, .int .u8 97, .int .u8 163, .int .u8 150, .int .u8 23, .int .u8 122, .int .u8 156, .int .u8 180, .int .u8 16, .int .u8 255, .int .u8 97, .int .u8 242, .int .u8 0, .int .u8 21, .int .u8 173] := by rw [shaD_abc]; rfl
def abcL : List Value := [.int .u8 186, .int .u8 120, .int .u8 22, .int .u8 191, .int .u8 143, .int .u8 1, .int .u8 207, .int .u8 234, .int .u8 65, .int .u8 65, .int .u8 64, .int .u8 222, .int .u8 93, .int .u8 174, .int .u8 34, .int .u8 35, .int .u8 176, .int .u8 3, .int .u8 97, .int .u8 163, .int .u8 150, .int .u8 23, .int .u8 122, .int .u8 156, .int .u8 180, .int .u8 16, .int .u8 255, .int .u8 97, .int .u8 242, .int .u8 0, .int .u8 21, .int .u8 173]
theorem abc_one : ∀ v ∈ abcL, v.oneCell' = true := by decide

theorem shaSum_abc (A : Option Addr) (W : World) (l : List UInt8) (hq : l = [97, 98, 99]) (hl : Byt W W.heap.size A 3 l) (hA : A = none → (3 : Nat) = 0) (hC : CK W) :
    Calls Tryd.prog 15 #[.slice A 3 3] W fun e W' => e = .returned (.agg abcL.toArray) ∧ Below W.heap.size W W' := by
  refine (shaSum_any A 3 3 l W hl hA (by decide) (by decide) (by decide) hC).mono fun e W' h => ⟨h.1.trans ?_, h.2⟩
  rw [hq, abc_v]; rfl

/-- An array's block, sliced whole. -/
theorem Byt.of_blk {w : World} {g : Nat} {t : TypeId} {l : List UInt8} {n : Nat} (h : Blk w g t (l.map bv)) (hn : l.length = n) : Byt w w.heap.size (some ⟨g, 0, none⟩) n l :=
  ⟨hn, fun _ => ⟨g, 0, rfl, h.lt, fun j x hx => by rw [Nat.zero_add, h.cell, List.getElem?_map, hx]; rfl⟩⟩

end Go.Proofs.YtbpjklafhohlnaaDoor
