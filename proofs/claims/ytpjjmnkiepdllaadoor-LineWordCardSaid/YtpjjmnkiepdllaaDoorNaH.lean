/-
  Package name: bytes as digits; the reference's.
-/
import Derived.Test.YtpjjmnkiepdllaaDoorNaI
import Derived.Test.YtpjjmnkiepdllaaDoorNaB
import Derived.Test.YtpjjmnkiepdllaaDoorOctA
import Derived.Test.YtpjjmnkiepdllaaDoorMkByt
import Derived.Deep.RegionHeld3
import Derived.Deep.AppendLies
namespace Go.Proofs.YtpjjmnkiepdllaaDoor
open Go.RowKit
set_option linter.unusedVariables false
set_option linter.unusedSimpArgs false

/-- A digit's sign. -/
def hx (d : Nat) : UInt8 := hexT.data.toList.getD d 0
/-- Bytes as digits, two each. -/
def hexB : List UInt8 → List UInt8
  | [] => []
  | b :: l => hx (b.toNat / 16) :: hx (b.toNat % 16) :: hexB l
/-- Bytes as digits; of none a sign of its own. -/
def hexS (l : List UInt8) : List UInt8 := if l.length = 0 then [45] else hexB l

theorem hexB_append (l r : List UInt8) : hexB (l ++ r) = hexB l ++ hexB r := by
  induction l with
  | nil => rfl
  | cons b l ih => simp [hexB, ih]
theorem hexB_take (l : List UInt8) (k : Nat) (b : UInt8) (h : l[k]? = some b) : hexB (l.take (k + 1)) = hexB (l.take k) ++ [hx (b.toNat / 16), hx (b.toNat % 16)] := by
  rw [List.take_add_one, h, hexB_append]
  rfl
theorem hexB_len (l : List UInt8) : (hexB l).length = 2 * l.length := by
  induction l with
  | nil => rfl
  | cons b l ih => simp [hexB, ih]; omega

theorem hx_at : ∀ d : Fin 16, ∃ h : d.val < hexT.size, hexT[d.val]'h = hx d.val := by decide +kernel

theorem hexT_index {P : Program} (w : World) (t : TypeId) (k : IntKind) (d : Nat) (i : Int) (hi : i = (d : Int)) (hd : d < 16) (h : P.underlying t = some .string) :
    (Instr.index t (.string ⟨#[48, 49, 50, 51, 52, 53, 54, 55, 56, 57, 97, 98, 99, 100, 101, 102]⟩) (.int k i)).run P w = .ok (.int .u8 (((hx d).toNat : Nat) : Int)) w := by
  subst hi
  rw [run_index_string w t _ k _ h]
  obtain ⟨h1, h2⟩ := hx_at ⟨d, hd⟩
  rw [dif_pos ⟨by omega, by show (d : Int) < ((16 : Nat) : Int); omega⟩]
  have e : ∀ (j : Nat) (hj : j < hexT.size), j = d → hexT[j]'hj = hx d := by
    intro j hj ej
    subst ej
    exact h2
  have := e ((d : Int)).toNat (by show _ < 16; omega) (by omega)
  rw [← this]
  rfl

theorem Byt.of_own_any {w : World} {base n : Nat} {e : TypeId} {v : Value} {l : List UInt8} (h : w.ownsRow base e 1 v n (l.map bv)) : ∃ A c, v = .slice A n c ∧ Byt w w.heap.size A n l := by
  obtain ⟨A, c, rfl, _⟩ := own_form h
  exact ⟨A, c, rfl, Byt.of_own h⟩

theorem u8_and15 (x : UInt8) : bits .and .u8 ((x.toNat : Nat) : Int) 15 = ((x.toNat : Nat) : Int) % 16 := by
  have h := x.toNat_lt
  have e : ∀ d : Fin 256, bits .and .u8 ((d.val : Nat) : Int) 15 = ((d.val : Nat) : Int) % 16 := by decide +kernel
  exact e ⟨x.toNat, h⟩

end Go.Proofs.YtpjjmnkiepdllaaDoor
