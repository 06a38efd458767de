/-
  Walks over package octet and its reference: widths, numbers as bytes.
-/
import Derived.Test.YtnjkilmhphcocaaBase
namespace Go.Proofs.Ytnjkilmhphcocaa
open Go.RowKit
set_option linter.unusedVariables false
set_option linter.unusedSimpArgs false

/-- The bits of a width. -/
def bitsW (w : Int) : Nat := if w = 8 then 64 else if w = 4 then 32 else if w = 2 then 16 else if w = 1 then 8 else 0

def widthB (w : Int) : Bool := decide (w = 1 ∨ w = 2 ∨ w = 4 ∨ w = 8)

/-- The k lowest bytes of x, the lowest one first. -/
def le : Nat → Nat → List UInt8
  | 0, _ => []
  | k + 1, x => UInt8.ofNat x :: le k (x / 256)
theorem le_len (k : Nat) : ∀ x, (le k x).length = k := by
  induction k with
  | zero => intro x; rfl
  | succ k ih => intro x; simp [le, ih]
theorem le_snoc (k : Nat) : ∀ x, le (k + 1) x = le k x ++ [UInt8.ofNat (x / 256 ^ k)] := by
  induction k with
  | zero => intro x; simp [le]
  | succ k ih =>
    intro x
    show UInt8.ofNat x :: le (k + 1) (x / 256) = UInt8.ofNat x :: le k (x / 256) ++ _
    rw [ih]
    simp only [List.cons_append]
    rw [Nat.div_div_eq_div_mul, Nat.pow_succ, Nat.mul_comm 256]

theorem Try.info5 : (Try.prog.info? 5).map (fun i => (i.zero, i.size, i.bytes)) = some (some (.int .u8 0), 1, 1) := by kernel_rfl

theorem ofNat_mod (x : Nat) : ((UInt8.ofNat x).toNat : Nat) = x % 256 := by simp [UInt8.toNat_ofNat']

theorem bitsW_le (w : Int) : bitsW w ≤ 64 := by unfold bitsW; repeat (split <;> try omega)
theorem bitsW_eq (w : Int) : bitsW w = 8 * (bitsW w / 8) := by unfold bitsW; repeat (split <;> try omega)

/-- Does x fit? -/
def fitsB (w : Int) (x : Nat) : Bool := decide (0 < bitsW w) && decide (x / 2 ^ bitsW w = 0)

/-- What bytes come to, the lowest one first. -/
def num : List UInt8 → Nat
  | [] => 0
  | b :: l => b.toNat + 256 * num l
theorem num_lt (l : List UInt8) : num l < 256 ^ l.length := by
  induction l with
  | nil => simp [num]
  | cons b l ih =>
    have hb : b.toNat < 256 := b.toNat_lt
    simp only [num, List.length_cons, Nat.pow_succ]; omega
theorem num_le (k : Nat) : ∀ x, num (le k x) = x % 256 ^ k := by
  induction k with
  | zero => intro x; simp [le, num, Nat.mod_one]
  | succ k ih =>
    intro x
    simp only [le, num, ih, ofNat_mod, Nat.pow_succ]
    rw [Nat.mul_comm (256 ^ k) 256, Nat.mod_mul]
theorem num_snoc (l : List UInt8) (b : UInt8) : num (l ++ [b]) = num l + 256 ^ l.length * b.toNat := by
  induction l with
  | nil => simp [num]
  | cons c l ih =>
    simp only [List.cons_append, num, ih, List.length_cons, Nat.pow_succ]
    rw [Nat.mul_add, ← Nat.mul_assoc, Nat.mul_comm 256 (256 ^ l.length)]; omega
theorem num_drop (l : List UInt8) (k : Nat) (b : UInt8) (h : l[k]? = some b) : num (l.drop k) = b.toNat + 256 * num (l.drop (k + 1)) := by
  obtain ⟨hk, rfl⟩ := List.getElem?_eq_some_iff.1 h
  rw [List.drop_eq_getElem_cons hk]; rfl

theorem num_max (l : List UInt8) (h : l.length ≤ 8) : num l ≤ 18446744073709551615 := by
  have h1 := num_lt l
  have h2 : 256 ^ l.length ≤ 256 ^ 8 := Nat.pow_le_pow_right (by decide) h
  have h3 : (256 : Nat) ^ 8 = 18446744073709551616 := by decide
  omega

theorem rfits_of (w : Int) (x : Nat) (hw : widthB w = true) : decide (num (le w.toNat x) = x) = fitsB w x := by
  rw [num_le]
  have h : w = 1 ∨ w = 2 ∨ w = 4 ∨ w = 8 := by simpa [widthB] using hw
  unfold fitsB
  rcases h with rfl | rfl | rfl | rfl <;> simp [bitsW] <;> omega
theorem rfits_not (w : Int) (x : Nat) (hw : widthB w = false) : fitsB w x = false := by
  have h : ¬ (w = 1 ∨ w = 2 ∨ w = 4 ∨ w = 8) := by simpa [widthB] using hw
  have : bitsW w = 0 := by unfold bitsW; repeat (split <;> try omega)
  simp [fitsB, this]

set_option maxHeartbeats 1000000 in
theorem same_any (A1 A2 : Option Addr) (n1 c1 n2 c2 : Nat) (l1 l2 : List UInt8) (B : Nat) (W : World) (h1 : Byt W B A1 n1 l1) (h2 : Byt W B A2 n2 l2) (hn : n1 ≤ 140737488355328) :
    Calls Try.prog 13 #[.slice A1 n1 c1, .slice A2 n2 c2] W fun e W' => e = .returned (.bool (decide (l1 = l2))) ∧ ∃ k, W' = W.drewN k := by
  by_cases hne : n1 = n2
  · subst hne
    have HL := Lib.hid h1.1
    go_enter Try.func13, Try.ntmps13
    go_wp2_with fail
    go_loopw [5] (fun i wr => ∃ k m : Nat, k ≤ n1 ∧ i = .int .i64 k ∧ wr = W.drewN m ∧ l1.take k = l2.take k)
      (fun i _ => n1 - (intOf i).toNat)
    case atStart => exact ⟨0, 0, by omega, rfl, rfl, by simp⟩
    case round =>
      obtain ⟨k, m, hk, rfl, rfl, ht⟩ := hrel
      by_cases hlt : k < n1
      · obtain ⟨b, o, x, rfl, _, hx, hc⟩ := h1.at_ hlt
        obtain ⟨b', o', y, rfl, _, hy, hc'⟩ := h2.at_ hlt
        go_wp2_with fail
        go_quiet (fail)
        go_wp2
        · have hxy : ((x.toNat : Int) != (y.toNat : Int)) = true := by assumption
          have hne : l1 ≠ l2 := by
            rintro rfl
            rw [hx] at hy
            obtain rfl := Option.some.inj hy
            simp at hxy
          go_ret
          exact ⟨by simp [hne], m + nq, by simp⟩
        · have hxy : ((x.toNat : Int) != (y.toNat : Int)) = false := by assumption
          have exy : x = y := by
            apply UInt8.toNat_inj.1
            have h : (x.toNat : Int) = (y.toNat : Int) := by simpa using hxy
            omega
          subst exy
          go_roundw
          case rel => exact ⟨k + 1, m + nq, by omega, by go_num, by simp, by rw [List.take_add_one, List.take_add_one, ht, hx, hy]⟩
          case measure => simp [intOf]; omega
      · go_wp2
        have hkn : k = n1 := by omega
        have he : l1 = l2 := by
          rw [hkn] at ht
          rwa [List.take_of_length_le (by rw [h1.1]; exact Nat.le_refl _), List.take_of_length_le (by rw [h2.1]; exact Nat.le_refl _)] at ht
        go_ret
        exact ⟨by simp [he], m, rfl⟩
  · have hne' : l1 ≠ l2 := by
      rintro rfl
      exact hne (h1.1.symm.trans h2.1)
    have hb : ((n1 : Int) != (n2 : Int)) = true := by rw [bne_iff_ne]; omega
    go_enter Try.func13, Try.ntmps13
    go_wp2
    go_ret
    exact ⟨by simp [hne'], 0, rfl⟩

theorem same_true (A1 A2 : Option Addr) (n1 c1 n2 c2 : Nat) (l1 l2 : List UInt8) (B : Nat) (W : World) (h1 : Byt W B A1 n1 l1) (h2 : Byt W B A2 n2 l2) (hn : n1 ≤ 140737488355328) (he : l1 = l2) :
    Calls Try.prog 13 #[.slice A1 n1 c1, .slice A2 n2 c2] W fun e W' => e = .returned (.bool true) ∧ ∃ k, W' = W.drewN k :=
  (same_any A1 A2 n1 c1 n2 c2 l1 l2 B W h1 h2 hn).mono fun e W' ⟨h, k⟩ => ⟨by rw [h]; simp [he], k⟩

end Go.Proofs.Ytnjkilmhphcocaa
