/-
  CRC-32C over numbers: a step, a byte, a list; that it is linear; that a burst of up to four bytes is seen. No program stands here.
-/
import Derived.Test.YtgococpbhbcpmaaDoorOctB
namespace Go.Proofs.YtgococpbhbcpmaaDoor
open Go.RowKit
set_option linter.unusedVariables false
set_option linter.unusedSimpArgs false

/-- One bit. -/
def stepC (r : Nat) : Nat := if r % 2 = 1 then (r / 2) ^^^ 2197175160 else r / 2
def stepN : Nat → Nat → Nat
  | 0, r => r
  | k + 1, r => stepC (stepN k r)
theorem stepC_lt {r : Nat} (h : r < 4294967296) : stepC r < 4294967296 := by
  unfold stepC
  split
  · exact Nat.xor_lt_two_pow (n := 32) (by omega) (by decide)
  · omega
theorem stepN_lt (k : Nat) {r : Nat} (h : r < 4294967296) : stepN k r < 4294967296 := by
  induction k with
  | zero => exact h
  | succ k ih => exact stepC_lt ih
theorem stepC_xor (a b : Nat) : stepC (a ^^^ b) = stepC a ^^^ stepC b := by
  unfold stepC
  have h := @Nat.xor_mod_two_eq_one a b
  have hd := @Nat.xor_div_two a b
  by_cases ha : a % 2 = 1 <;> by_cases hb : b % 2 = 1
  · rw [if_neg (by rw [h]; simp [ha, hb]), if_pos ha, if_pos hb, hd]
    rw [Nat.xor_assoc (a / 2), Nat.xor_comm 2197175160, Nat.xor_assoc (b / 2), Nat.xor_self, Nat.xor_zero]
  · rw [if_pos (by rw [h]; simp [ha, hb]), if_pos ha, if_neg hb, hd]
    rw [Nat.xor_assoc, Nat.xor_assoc, Nat.xor_comm (b / 2)]
  · rw [if_pos (by rw [h]; simp [ha, hb]), if_neg ha, if_pos hb, hd]
    rw [Nat.xor_assoc]
  · rw [if_neg (by rw [h]; simp [ha, hb]), if_neg ha, if_neg hb, hd]
theorem stepN_xor (k a b : Nat) : stepN k (a ^^^ b) = stepN k a ^^^ stepN k b := by
  induction k with
  | zero => rfl
  | succ k ih => simp only [stepN, ih, stepC_xor]
theorem stepN_add (j k r : Nat) : stepN (j + k) r = stepN j (stepN k r) := by
  induction j with
  | zero => simp [stepN]
  | succ j ih => rw [show j + 1 + k = (j + k) + 1 by omega]; simp only [stepN, ih]
theorem stepN_one (k r : Nat) : stepN (k + 1) r = stepN k (stepC r) := by rw [stepN_add]; rfl
theorem stepN_shift (k r : Nat) : stepN k (2 ^ k * r) = r := by
  induction k with
  | zero => simp [stepN]
  | succ k ih =>
    rw [stepN_one]
    have : stepC (2 ^ (k + 1) * r) = 2 ^ k * r := by
      have e : 2 ^ (k + 1) * r = 2 * (2 ^ k * r) := by rw [Nat.pow_succ, Nat.mul_comm (2 ^ k) 2, Nat.mul_assoc]
      rw [e]
      unfold stepC
      rw [if_neg (by omega)]
      omega
    rw [this, ih]
theorem stepC_pos {r : Nat} (h : r < 4294967296) (h0 : r ≠ 0) : stepC r ≠ 0 := by
  unfold stepC
  split
  · intro e
    have : r / 2 = 2197175160 := by
      have h2 : (r / 2 ^^^ 2197175160) ^^^ 2197175160 = 0 ^^^ 2197175160 := by rw [e]
      rw [Nat.xor_assoc, Nat.xor_self, Nat.xor_zero, Nat.zero_xor] at h2
      exact h2
    omega
  · omega
theorem stepN_pos (k : Nat) {r : Nat} (h : r < 4294967296) (h0 : r ≠ 0) : stepN k r ≠ 0 := by
  induction k with
  | zero => exact h0
  | succ k ih => exact stepC_pos (stepN_lt k h) ih
theorem stepC_zero : stepC 0 = 0 := by decide
theorem stepN_zero (k : Nat) : stepN k 0 = 0 := by
  induction k with
  | zero => rfl
  | succ k ih => simp only [stepN, ih, stepC_zero]

theorem join_xor (m b : Nat) (hb : b < 256) : b ^^^ (256 * m) = b + 256 * m := by
  apply Nat.eq_of_testBit_eq
  intro j
  rw [Nat.add_comm b, show 256 * m + b = 2 ^ 8 * m + b from rfl, Nat.testBit_two_pow_mul_add m (show b < 2 ^ 8 from hb) j, Nat.testBit_xor, show 256 * m = 2 ^ 8 * m from rfl, Nat.testBit_two_pow_mul]
  by_cases hj : j < 8
  · have h8 : ¬ 8 ≤ j := by omega
    simp [hj, h8]
  · have h8 : 8 ≤ j := by omega
    have hp : (2 : Nat) ^ 8 ≤ 2 ^ j := Nat.pow_le_pow_right (by omega) h8
    have : b.testBit j = false := Nat.testBit_lt_two_pow (Nat.lt_of_lt_of_le hb hp)
    simp [hj, h8, this]
theorem sub_xor (r : Nat) (h : r < 4294967296) : 4294967295 - r = r ^^^ 4294967295 := by
  apply Nat.eq_of_testBit_eq
  intro j
  rw [Nat.testBit_xor, show (4294967295 : Nat) - r = 2 ^ 32 - (r + 1) by omega, Nat.testBit_two_pow_sub_succ (show r < 2 ^ 32 from h) j, show (4294967295 : Nat) = 2 ^ 32 - 1 from rfl, Nat.testBit_two_pow_sub_one]
  by_cases hj : j < 32
  · simp [hj]
  · have hp : (2 : Nat) ^ 32 ≤ 2 ^ j := Nat.pow_le_pow_right (by omega) (show 32 ≤ j by omega)
    have : r.testBit j = false := Nat.testBit_lt_two_pow (Nat.lt_of_lt_of_le h hp)
    simp [hj, this]

/-- The register behind the bytes l. -/
def crcReg : Nat → List UInt8 → Nat
  | r, [] => r
  | r, b :: l => crcReg (stepN 8 (r ^^^ b.toNat)) l
theorem crcReg_lt (l : List UInt8) : ∀ {r : Nat}, r < 4294967296 → crcReg r l < 4294967296 := by
  induction l with
  | nil => intro r h; exact h
  | cons b l ih =>
    intro r h
    refine ih (stepN_lt 8 (Nat.xor_lt_two_pow (n := 32) h ?_))
    have := b.toNat_lt
    omega
theorem crcReg_app (l m : List UInt8) : ∀ r, crcReg r (l ++ m) = crcReg (crcReg r l) m := by
  induction l with
  | nil => intro r; rfl
  | cons b l ih => intro r; exact ih _
theorem crcReg_snoc (l : List UInt8) (b : UInt8) (r : Nat) : crcReg r (l ++ [b]) = stepN 8 (crcReg r l ^^^ b.toNat) := by rw [crcReg_app]; rfl
/-- The sum. -/
def crcSum (l : List UInt8) : Nat := 4294967295 - crcReg 4294967295 l
theorem crcSum_le (l : List UInt8) : crcSum l ≤ 4294967295 := by unfold crcSum; omega

theorem crcReg_num (l : List UInt8) : ∀ r, crcReg r l = stepN (8 * l.length) (r ^^^ num l) := by
  induction l with
  | nil =>
    intro r
    rw [List.length_nil, Nat.mul_zero]
    show r = r ^^^ 0
    rw [Nat.xor_zero]
  | cons b l ih =>
    intro r
    show crcReg (stepN 8 (r ^^^ b.toNat)) l = _
    have hb := b.toNat_lt
    rw [ih, List.length_cons, show 8 * (l.length + 1) = 8 * l.length + 8 by omega, stepN_add (8 * l.length) 8]
    have h256 : stepN 8 (256 * num l) = num l := by
      have := stepN_shift 8 (num l)
      rwa [show (2 : Nat) ^ 8 = 256 from rfl] at this
    rw [show num (b :: l) = b.toNat ^^^ (256 * num l) from (join_xor (num l) b.toNat hb).symm]
    rw [← Nat.xor_assoc, stepN_xor 8 (r ^^^ b.toNat), h256]

/-! A burst. -/
/-- Bytes, xor'd one by one. -/
def xorL (l d : List UInt8) : List UInt8 := List.zipWith (· ^^^ ·) l d
theorem crcReg_xor (l : List UInt8) : ∀ (d : List UInt8) (r q : Nat), l.length = d.length → crcReg (r ^^^ q) (xorL l d) = crcReg r l ^^^ crcReg q d := by
  induction l with
  | nil =>
    intro d r q h
    obtain rfl : d = [] := List.eq_nil_of_length_eq_zero h.symm
    rfl
  | cons b l ih =>
    intro d r q h
    rcases d with _ | ⟨c, d⟩
    · simp at h
    · show crcReg (stepN 8 ((r ^^^ q) ^^^ (b ^^^ c).toNat)) (xorL l d) = crcReg (stepN 8 (r ^^^ b.toNat)) l ^^^ crcReg (stepN 8 (q ^^^ c.toNat)) d
      rw [← ih d _ _ (by simpa using h), ← stepN_xor, UInt8.toNat_xor]
      congr 2
      ac_rfl
theorem num_xor (l : List UInt8) : ∀ (d : List UInt8), l.length = d.length → num (xorL l d) = num l ^^^ num d := by
  induction l with
  | nil =>
    intro d h
    obtain rfl : d = [] := List.eq_nil_of_length_eq_zero h.symm
    rfl
  | cons b l ih =>
    intro d h
    rcases d with _ | ⟨c, d⟩
    · simp at h
    · have e : ∀ (x : UInt8) (y : List UInt8), num (x :: y) = x.toNat ^^^ (256 * num y) := fun x y => (join_xor (num y) x.toNat x.toNat_lt).symm
      show num ((b ^^^ c) :: xorL l d) = _
      rw [e, e, e, ih d (by simpa using h), UInt8.toNat_xor]
      have h8 : 256 * (num l ^^^ num d) = (256 * num l) ^^^ (256 * num d) := by
        apply Nat.eq_of_testBit_eq
        intro j
        rw [show ∀ m, 256 * m = 2 ^ 8 * m from fun _ => rfl, Nat.testBit_two_pow_mul, Nat.testBit_xor, Nat.testBit_xor, show ∀ m, 256 * m = 2 ^ 8 * m from fun _ => rfl, Nat.testBit_two_pow_mul, show 256 * num d = 2 ^ 8 * num d from rfl, Nat.testBit_two_pow_mul]
        by_cases hj : 8 ≤ j <;> simp [hj]
      rw [h8]
      ac_rfl
theorem num_zeros (k : Nat) (l : List UInt8) : num (List.replicate k 0 ++ l) = 256 ^ k * num l := by
  induction k with
  | zero => simp
  | succ k ih =>
    rw [List.replicate_succ, List.cons_append]
    show (0 : UInt8).toNat + 256 * num _ = _
    rw [ih, Nat.pow_succ]
    simp only [UInt8.toNat_zero, Nat.zero_add]
    rw [← Nat.mul_assoc, Nat.mul_comm 256]
theorem num_zeros' (l : List UInt8) (k : Nat) : num (l ++ List.replicate k 0) = num l := by
  induction l with
  | nil =>
    have := num_zeros k []
    simpa [num] using this
  | cons b l ih => rw [List.cons_append]; show b.toNat + 256 * num (l ++ List.replicate k 0) = b.toNat + 256 * num l; rw [ih]

/-- What is xor'd: up to four bytes at a place, among n + 4. -/
theorem burst (at_ n : Nat) (x : List UInt8) (hx : x.length = 4) (h0 : num x ≠ 0) (hat : at_ ≤ n) (d : List UInt8) (hd : d = List.replicate at_ 0 ++ x ++ List.replicate (n - at_) 0) :
    crcReg 0 (d.take n) ≠ num (d.drop n) := by
  intro e
  have hlen : d.length = n + 4 := by rw [hd]; simp [hx]; omega
  have h1 : crcReg 0 d = 0 := by
    have hs : d = d.take n ++ d.drop n := (List.take_append_drop n d).symm
    rw [hs, crcReg_app, crcReg_num (d.drop n), e, Nat.xor_self, stepN_zero]
  have h2 : crcReg 0 d = stepN (8 * (n + 4 - at_)) (num x) := by
    rw [crcReg_num, Nat.zero_xor, hlen, hd, List.append_assoc, num_zeros, num_zeros', show 8 * (n + 4) = 8 * (n + 4 - at_) + 8 * at_ by omega, stepN_add]
    congr 1
    have := stepN_shift (8 * at_) (num x)
    rwa [show 2 ^ (8 * at_) = 256 ^ at_ by rw [Nat.pow_mul]] at this
  have h3 : num x < 4294967296 := by have := num_lt x; rw [hx] at this; simpa using this
  exact stepN_pos _ h3 h0 (h2.symm.trans h1)

end Go.Proofs.YtgococpbhbcpmaaDoor
