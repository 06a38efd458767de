/-
  Arithmetic of names: which runes a name, digits and a line have; a rune that is read of bytes. No program stands here.
-/
import Derived.Test.YtnjkhhagefipiaaDoorBase
import Derived.Lib.OthersKept
import Derived.Laws.RangeString
import Derived.Laws.RangeAny
namespace Go.Proofs.YtnjkhhagefipiaaDoor
open Go.RowKit
set_option linter.unusedVariables false
set_option linter.unusedSimpArgs false

def letR (r : Int) : Bool := decide (97 ≤ r) && decide (r ≤ 122)
def digR (r : Int) : Bool := decide (48 ≤ r) && decide (r ≤ 57)
def tenR (r : Int) : Bool := letR r || digR r || decide (r = 45)
def tarR (r : Int) : Bool := tenR r || decide (r = 46) || decide (r = 58)
def hexR (r : Int) : Bool := digR r || (decide (97 ≤ r) && decide (r ≤ 102))
/-- Whether each byte, taken as a rune, is one of p's. -/
def allR (p : Int → Bool) (l : List UInt8) : Bool := l.all fun b => p ((b.toNat : Nat) : Int)
theorem letR_high (r : Int) (h : 128 ≤ r) : letR r = false := by simp [letR]; omega
theorem digR_high (r : Int) (h : 128 ≤ r) : digR r = false := by simp [digR]; omega
theorem tenR_high (r : Int) (h : 128 ≤ r) : tenR r = false := by simp [tenR, letR, digR]; omega
theorem tarR_high (r : Int) (h : 128 ≤ r) : tarR r = false := by simp [tarR, tenR, letR, digR]; omega
theorem hexR_high (r : Int) (h : 128 ≤ r) : hexR r = false := by simp [hexR, digR]; omega

theorem allR_take (p : Int → Bool) (l : List UInt8) (k : Nat) (b : UInt8) (h : l[k]? = some b) : allR p (l.take (k + 1)) = (allR p (l.take k) && p ((b.toNat : Nat) : Int)) := by
  unfold allR
  rw [List.take_add_one, h]
  simp [List.all_append]

theorem allR_out (p : Int → Bool) (l : List UInt8) (k : Nat) (b : UInt8) (h : l[k]? = some b) (hp : p ((b.toNat : Nat) : Int) = false) : allR p l = false := by
  unfold allR
  rw [List.all_eq_false]
  exact ⟨b, List.mem_of_getElem? h, by simp [hp]⟩

theorem byte_at (s : ByteArray) (k : Nat) (h : k < s.size) : s.data.toList[k]? = some (s[k]'h) := by
  have : k < s.data.toList.length := by simpa using h
  rw [List.getElem?_eq_getElem this]
  rfl

/-- A rune that is read is no greater than the greatest one. -/
theorem decode_max (s : ByteArray) (pos : Nat) : (Utf8.decode s pos).1 ≤ 1114111 := by
  have hb : ∀ k, (s.get! (pos + k)).toNat < 256 := fun k => (s.get! (pos + k)).toNat_lt
  have h0 := hb 0; have h1 := hb 1; have h2 := hb 2; have h3 := hb 3
  simp only [Utf8.decode]
  repeat' split
  all_goals simp_all [Utf8.runeError, Utf8.valid]
  all_goals omega

end Go.Proofs.YtnjkhhagefipiaaDoor
