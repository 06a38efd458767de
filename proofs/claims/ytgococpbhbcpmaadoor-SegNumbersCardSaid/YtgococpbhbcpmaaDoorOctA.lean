/-
  Walks over package octet and its reference: widths, numbers as bytes.
-/
import Derived.Test.YtgococpbhbcpmaaDoorBase
namespace Go.Proofs.YtgococpbhbcpmaaDoor
open Go.RowKit
set_option linter.unusedVariables false
set_option linter.unusedSimpArgs false

/-- The bits of a width. -/
def bitsW (w : Int) : Nat := if w = 8 then 64 else if w = 4 then 32 else if w = 2 then 16 else if w = 1 then 8 else 0

def widthB (w : Int) : Bool := decide (w = 1 ∨ w = 2 ∨ w = 4 ∨ w = 8)

/-- The k lowest bytes of x, the lowest one first. -/
def le : Nat → Nat → List UInt8
  | 0, _ => []
  | k + 1, x => UInt8.ofNat x :: le k (x / 256)
theorem le_len (k : Nat) : ∀ x, (le k x).length = k := by
  induction k with
  | zero => intro x; rfl
  | succ k ih => intro x; simp [le, ih]
theorem le_snoc (k : Nat) : ∀ x, le (k + 1) x = le k x ++ [UInt8.ofNat (x / 256 ^ k)] := by
  induction k with
  | zero => intro x; simp [le]
  | succ k ih =>
    intro x
    show UInt8.ofNat x :: le (k + 1) (x / 256) = UInt8.ofNat x :: le k (x / 256) ++ _
    rw [ih]
    simp only [List.cons_append]
    rw [Nat.div_div_eq_div_mul, Nat.pow_succ, Nat.mul_comm 256]

theorem Tryd.info5 : (Tryd.prog.info? 5).map (fun i => (i.zero, i.size, i.bytes)) = some (some (.int .u8 0), 1, 1) := by kernel_rfl

theorem ofNat_mod (x : Nat) : ((UInt8.ofNat x).toNat : Nat) = x % 256 := by simp [UInt8.toNat_ofNat']

theorem bitsW_le (w : Int) : bitsW w ≤ 64 := by unfold bitsW; repeat (split <;> try omega)
theorem bitsW_eq (w : Int) : bitsW w = 8 * (bitsW w / 8) := by unfold bitsW; repeat (split <;> try omega)

/-- Does x fit? -/
def fitsB (w : Int) (x : Nat) : Bool := decide (0 < bitsW w) && decide (x / 2 ^ bitsW w = 0)

/-- What bytes come to, the lowest one first. -/
def num : List UInt8 → Nat
  | [] => 0
  | b :: l => b.toNat + 256 * num l
theorem num_lt (l : List UInt8) : num l < 256 ^ l.length := by
  induction l with
  | nil => simp [num]
  | cons b l ih =>
    have hb : b.toNat < 256 := b.toNat_lt
    simp only [num, List.length_cons, Nat.pow_succ]; omega
theorem num_le (k : Nat) : ∀ x, num (le k x) = x % 256 ^ k := by
  induction k with
  | zero => intro x; simp [le, num, Nat.mod_one]
  | succ k ih =>
    intro x
    simp only [le, num, ih, ofNat_mod, Nat.pow_succ]
    rw [Nat.mul_comm (256 ^ k) 256, Nat.mod_mul]
theorem num_snoc (l : List UInt8) (b : UInt8) : num (l ++ [b]) = num l + 256 ^ l.length * b.toNat := by
  induction l with
  | nil => simp [num]
  | cons c l ih =>
    simp only [List.cons_append, num, ih, List.length_cons, Nat.pow_succ]
    rw [Nat.mul_add, ← Nat.mul_assoc, Nat.mul_comm 256 (256 ^ l.length)]; omega
theorem num_drop (l : List UInt8) (k : Nat) (b : UInt8) (h : l[k]? = some b) : num (l.drop k) = b.toNat + 256 * num (l.drop (k + 1)) := by
  obtain ⟨hk, rfl⟩ := List.getElem?_eq_some_iff.1 h
  rw [List.drop_eq_getElem_cons hk]; rfl

theorem num_max (l : List UInt8) (h : l.length ≤ 8) : num l ≤ 18446744073709551615 := by
  have h1 := num_lt l
  have h2 : 256 ^ l.length ≤ 256 ^ 8 := Nat.pow_le_pow_right (by decide) h
  have h3 : (256 : Nat) ^ 8 = 18446744073709551616 := by decide
  omega

theorem rfits_of (w : Int) (x : Nat) (hw : widthB w = true) : decide (num (le w.toNat x) = x) = fitsB w x := by
  rw [num_le]
  have h : w = 1 ∨ w = 2 ∨ w = 4 ∨ w = 8 := by simpa [widthB] using hw
  unfold fitsB
  rcases h with rfl | rfl | rfl | rfl <;> simp [bitsW] <;> omega
theorem rfits_not (w : Int) (x : Nat) (hw : widthB w = false) : fitsB w x = false := by
  have h : ¬ (w = 1 ∨ w = 2 ∨ w = 4 ∨ w = 8) := by simpa [widthB] using hw
  have : bitsW w = 0 := by unfold bitsW; repeat (split <;> try omega)
  simp [fitsB, this]

end Go.Proofs.YtgococpbhbcpmaaDoor
