/-
  CRC-32C over numbers: a step, a byte, a list; that it is linear; that a burst of up to four bytes is seen. No program stands here.
-/
import Derived.Test.YthjikbhjciphiaaGreatDoorZz4
namespace Go.Proofs.YthjikbhjciphiaaGreatDoor
open Go.RowKit
set_option linter.unusedVariables false
set_option linter.unusedSimpArgs false

/-- One bit. -/
def stepC (r : Nat) : Nat := if r % 2 = 1 then (r / 2) ^^^ 2197175160 else r / 2
def stepN : Nat → Nat → Nat
  | 0, r => r
  | k + 1, r => stepC (stepN k r)
theorem stepC_lt {r : Nat} (h : r < 4294967296) : stepC r < 4294967296 := by
  unfold stepC
  split
  · exact Nat.xor_lt_two_pow (n := 32) (by omega) (by decide)
  · omega
theorem stepN_lt (k : Nat) {r : Nat} (h : r < 4294967296) : stepN k r < 4294967296 := by
  induction k with
  | zero => exact h
  | succ k ih => exact stepC_lt ih
theorem stepC_xor (a b : Nat) : stepC (a ^^^ b) = stepC a ^^^ stepC b := by
  unfold stepC
  have h := @Nat.xor_mod_two_eq_one a b
  have hd := @Nat.xor_div_two a b
  by_cases ha : a % 2 = 1 <;> by_cases hb : b % 2 = 1
  · rw [if_neg (by rw [h]; simp [ha, hb]), if_pos ha, if_pos hb, hd]
    rw [Nat.xor_assoc (a / 2), Nat.xor_comm 2197175160, Nat.xor_assoc (b / 2), Nat.xor_self, Nat.xor_zero]
  · rw [if_pos (by rw [h]; simp [ha, hb]), if_pos ha, if_neg hb, hd]
    rw [Nat.xor_assoc, Nat.xor_assoc, Nat.xor_comm (b / 2)]
  · rw [if_pos (by rw [h]; simp [ha, hb]), if_neg ha, if_pos hb, hd]
    rw [Nat.xor_assoc]
  · rw [if_neg (by rw [h]; simp [ha, hb]), if_neg ha, if_neg hb, hd]
theorem stepN_xor (k a b : Nat) : stepN k (a ^^^ b) = stepN k a ^^^ stepN k b := by
  induction k with
  | zero => rfl
  | succ k ih => simp only [stepN, ih, stepC_xor]
theorem stepN_add (j k r : Nat) : stepN (j + k) r = stepN j (stepN k r) := by
  induction j with
  | zero => simp [stepN]
  | succ j ih => rw [show j + 1 + k = (j + k) + 1 by omega]; simp only [stepN, ih]
theorem stepN_one (k r : Nat) : stepN (k + 1) r = stepN k (stepC r) := by rw [stepN_add]; rfl
theorem stepN_shift (k r : Nat) : stepN k (2 ^ k * r) = r := by
  induction k with
  | zero => simp [stepN]
  | succ k ih =>
    rw [stepN_one]
    have : stepC (2 ^ (k + 1) * r) = 2 ^ k * r := by
      have e : 2 ^ (k + 1) * r = 2 * (2 ^ k * r) := by rw [Nat.pow_succ, Nat.mul_comm (2 ^ k) 2, Nat.mul_assoc]
      rw [e]
      unfold stepC
      rw [if_neg (by omega)]
      omega
    rw [this, ih]
theorem stepC_pos {r : Nat} (h : r < 4294967296) (h0 : r ≠ 0) : stepC r ≠ 0 := by
  unfold stepC
  split
  · intro e
    have : r / 2 = 2197175160 := by
      have h2 : (r / 2 ^^^ 2197175160) ^^^ 2197175160 = 0 ^^^ 2197175160 := by rw [e]
      rw [Nat.xor_assoc, Nat.xor_self, Nat.xor_zero, Nat.zero_xor] at h2
      exact h2
    omega
  · omega
theorem stepN_pos (k : Nat) {r : Nat} (h : r < 4294967296) (h0 : r ≠ 0) : stepN k r ≠ 0 := by
  induction k with
  | zero => exact h0
  | succ k ih => exact stepC_pos (stepN_lt k h) ih
theorem stepC_zero : stepC 0 = 0 := by decide
theorem stepN_zero (k : Nat) : stepN k 0 = 0 := by
  induction k with
  | zero => rfl
  | succ k ih => simp only [stepN, ih, stepC_zero]

theorem join_xor (m b : Nat) (hb : b < 256) : b ^^^ (256 * m) = b + 256 * m := by
  apply Nat.eq_of_testBit_eq
  intro j
  rw [Nat.add_comm b, show 256 * m + b = 2 ^ 8 * m + b from rfl, Nat.testBit_two_pow_mul_add m (show b < 2 ^ 8 from hb) j, Nat.testBit_xor, show 256 * m = 2 ^ 8 * m from rfl, Nat.testBit_two_pow_mul]
  by_cases hj : j < 8
  · have h8 : ¬ 8 ≤ j := by omega
    simp [hj, h8]
  · have h8 : 8 ≤ j := by omega
    have hp : (2 : Nat) ^ 8 ≤ 2 ^ j := Nat.pow_le_pow_right (by omega) h8
    have : b.testBit j = false := Nat.testBit_lt_two_pow (Nat.lt_of_lt_of_le hb hp)
    simp [hj, h8, this]
theorem sub_xor (r : Nat) (h : r < 4294967296) : 4294967295 - r = r ^^^ 4294967295 := by
  apply Nat.eq_of_testBit_eq
  intro j
  rw [Nat.testBit_xor, show (4294967295 : Nat) - r = 2 ^ 32 - (r + 1) by omega, Nat.testBit_two_pow_sub_succ (show r < 2 ^ 32 from h) j, show (4294967295 : Nat) = 2 ^ 32 - 1 from rfl, Nat.testBit_two_pow_sub_one]
  by_cases hj : j < 32
  · simp [hj]
  · have hp : (2 : Nat) ^ 32 ≤ 2 ^ j := Nat.pow_le_pow_right (by omega) (show 32 ≤ j by omega)
    have : r.testBit j = false := Nat.testBit_lt_two_pow (Nat.lt_of_lt_of_le h hp)
    simp [hj, this]

/-- The register behind the bytes l. -/
def crcReg : Nat → List UInt8 → Nat
  | r, [] => r
  | r, b :: l => crcReg (stepN 8 (r ^^^ b.toNat)) l
theorem crcReg_lt (l : List UInt8) : ∀ {r : Nat}, r < 4294967296 → crcReg r l < 4294967296 := by
  induction l with
  | nil => intro r h; exact h
  | cons b l ih =>
    intro r h
    refine ih (stepN_lt 8 (Nat.xor_lt_two_pow (n := 32) h ?_))
    have := b.toNat_lt
    omega
theorem crcReg_app (l m : List UInt8) : ∀ r, crcReg r (l ++ m) = crcReg (crcReg r l) m := by
  induction l with
  | nil => intro r; rfl
  | cons b l ih => intro r; exact ih _
theorem crcReg_snoc (l : List UInt8) (b : UInt8) (r : Nat) : crcReg r (l ++ [b]) = stepN 8 (crcReg r l ^^^ b.toNat) := by rw [crcReg_app]; rfl
/-- The sum. -/
def crcSum (l : List UInt8) : Nat := 4294967295 - crcReg 4294967295 l
theorem crcSum_le (l : List UInt8) : crcSum l ≤ 4294967295 := by unfold crcSum; omega

theorem crcReg_num (l : List UInt8) : ∀ r, crcReg r l = stepN (8 * l.length) (r ^^^ num l) := by
  induction l with
  | nil =>
    intro r
    rw [List.length_nil, Nat.mul_zero]
    show r = r ^^^ 0
    rw [Nat.xor_zero]
  | cons b l ih =>
    intro r
    show crcReg (stepN 8 (r ^^^ b.toNat)) l = _
    have hb := b.toNat_lt
    rw [ih, List.length_cons, show 8 * (l.length + 1) = 8 * l.length + 8 by omega, stepN_add (8 * l.length) 8]
    have h256 : stepN 8 (256 * num l) = num l := by
      have := stepN_shift 8 (num l)
      rwa [show (2 : Nat) ^ 8 = 256 from rfl] at this
    rw [show num (b :: l) = b.toNat ^^^ (256 * num l) from (join_xor (num l) b.toNat hb).symm]
    rw [← Nat.xor_assoc, stepN_xor 8 (r ^^^ b.toNat), h256]

/-! A burst. -/
/-- Bytes, xor'd one by one. -/
def xorL (l d : List UInt8) : List UInt8 := List.zipWith (· ^^^ ·) l d
theorem crcReg_xor (l : List UInt8) : ∀ (d : List UInt8) (r q : Nat), l.length = d.length → crcReg (r ^^^ q) (xorL l d) = crcReg r l ^^^ crcReg q d := by
  induction l with
  | nil =>
    intro d r q h
    obtain rfl : d = [] := List.eq_nil_of_length_eq_zero h.symm
    rfl
  | cons b l ih =>
    intro d r q h
    rcases d with _ | ⟨c, d⟩
    · simp at h
    · show crcReg (stepN 8 ((r ^^^ q) ^^^ (b ^^^ c).toNat)) (xorL l d) = crcReg (stepN 8 (r ^^^ b.toNat)) l ^^^ crcReg (stepN 8 (q ^^^ c.toNat)) d
      rw [← ih d _ _ (by simpa using h), ← stepN_xor, UInt8.toNat_xor]
      congr 2
      ac_rfl
theorem num_xor (l : List UInt8) : ∀ (d : List UInt8), l.length = d.length → num (xorL l d) = num l ^^^ num d := by
  induction l with
  | nil =>
    intro d h
    obtain rfl : d = [] := List.eq_nil_of_length_eq_zero h.symm
    rfl
  | cons b l ih =>
    intro d h
    rcases d with _ | ⟨c, d⟩
    · simp at h
    · have e : ∀ (x : UInt8) (y : List UInt8), num (x :: y) = x.toNat ^^^ (256 * num y) := fun x y => (join_xor (num y) x.toNat x.toNat_lt).symm
      show num ((b ^^^ c) :: xorL l d) = _
      rw [e, e, e, ih d (by simpa using h), UInt8.toNat_xor]
      have h8 : 256 * (num l ^^^ num d) = (256 * num l) ^^^ (256 * num d) := by
        apply Nat.eq_of_testBit_eq
        intro j
        rw [show ∀ m, 256 * m = 2 ^ 8 * m from fun _ => rfl, Nat.testBit_two_pow_mul, Nat.testBit_xor, Nat.testBit_xor, show ∀ m, 256 * m = 2 ^ 8 * m from fun _ => rfl, Nat.testBit_two_pow_mul, show 256 * num d = 2 ^ 8 * num d from rfl, Nat.testBit_two_pow_mul]
        by_cases hj : 8 ≤ j <;> simp [hj]
      rw [h8]
      ac_rfl
theorem num_zeros (k : Nat) (l : List UInt8) : num (List.replicate k 0 ++ l) = 256 ^ k * num l := by
  induction k with
  | zero => simp
  | succ k ih =>
    rw [List.replicate_succ, List.cons_append]
    show (0 : UInt8).toNat + 256 * num _ = _
    rw [ih, Nat.pow_succ]
    simp only [UInt8.toNat_zero, Nat.zero_add]
    rw [← Nat.mul_assoc, Nat.mul_comm 256]
theorem num_zeros' (l : List UInt8) (k : Nat) : num (l ++ List.replicate k 0) = num l := by
  induction l with
  | nil =>
    have := num_zeros k []
    simpa [num] using this
  | cons b l ih => rw [List.cons_append]; show b.toNat + 256 * num (l ++ List.replicate k 0) = b.toNat + 256 * num l; rw [ih]

/-- What is xor'd: up to four bytes at a place, among n + 4. -/
theorem burst (at_ n : Nat) (x : List UInt8) (hx : x.length = 4) (h0 : num x ≠ 0) (hat : at_ ≤ n) (d : List UInt8) (hd : d = List.replicate at_ 0 ++ x ++ List.replicate (n - at_) 0) :
    crcReg 0 (d.take n) ≠ num (d.drop n) := by
  intro e
  have hlen : d.length = n + 4 := by rw [hd]; simp [hx]; omega
  have h1 : crcReg 0 d = 0 := by
    have hs : d = d.take n ++ d.drop n := (List.take_append_drop n d).symm
    rw [hs, crcReg_app, crcReg_num (d.drop n), e, Nat.xor_self, stepN_zero]
  have h2 : crcReg 0 d = stepN (8 * (n + 4 - at_)) (num x) := by
    rw [crcReg_num, Nat.zero_xor, hlen, hd, List.append_assoc, num_zeros, num_zeros', show 8 * (n + 4) = 8 * (n + 4 - at_) + 8 * at_ by omega, stepN_add]
    congr 1
    have := stepN_shift (8 * at_) (num x)
    rwa [show 2 ^ (8 * at_) = 256 ^ at_ by rw [Nat.pow_mul]] at this
  have h3 : num x < 4294967296 := by have := num_lt x; rw [hx] at this; simpa using this
  exact stepN_pos _ h3 h0 (h2.symm.trans h1)

end Go.Proofs.YthjikbhjciphiaaGreatDoor

/-
  Walks over package crc and its reference: afterByte, More, Sum, Seal, Open; the reference's Sum and Seal.
-/
namespace Go.Proofs.YthjikbhjciphiaaGreatDoor
open Go.RowKit
set_option linter.unusedVariables false
set_option linter.unusedSimpArgs false

set_option maxHeartbeats 1000000 in
theorem afterByte_any (r b : Nat) (hr : r < 4294967296) (hb : b < 256) (W : World) :
    Calls Tryz.prog 206 #[.int .u32 r, .int .u8 b] W fun e W' => e = .returned (.int .u32 (stepN 8 (r ^^^ b) : Nat)) ∧ W = W' := by
  have hx : bits .xor .u32 (r : Int) (b : Int) = ((r ^^^ b : Nat) : Int) := u32_xor_nat r b hr (by omega)
  have hlt : r ^^^ b < 4294967296 := Nat.xor_lt_two_pow (n := 32) hr (by omega)
  generalize r ^^^ b = x at hx hlt ⊢
  go_enter Tryz.func206, Tryz.ntmps206
  go_wp2_with fail
  go_loop [0, 5, 10] (fun rs _ i => ∃ k : Nat, k ≤ 8 ∧ i = .int .i64 k ∧ rs = .int .u32 ((stepN k x : Nat) : Int))
    (fun _ _ i => 8 - (intOf i).toNat)
  case atStart => exact ⟨0, by omega, rfl, rfl⟩
  case round =>
    obtain ⟨k, hk, rfl, rfl⟩ := hrel
    have hy : stepN k x < 4294967296 := stepN_lt k hlt
    have HS := Lib.hid (show stepN (k + 1) x = stepC (stepN k x) from rfl)
    have HX := Lib.hid (show stepN 8 x = stepN 8 x from rfl)
    by_cases h8 : k < 8
    · generalize hyy : stepN k x = y at hy HS ⊢
      clear hyy
      have hand : bits .and .u32 (y : Int) 1 = ((y % 2 : Nat) : Int) := by
        rw [← Nat.and_one_is_mod]; exact u32_and_nat y 1 hy (by decide)
      have hxo : bits .xor .u32 ((y : Int) / 2) 2197175160 = ((y / 2 ^^^ 2197175160 : Nat) : Int) := u32_xor_nat (y / 2) 2197175160 (by omega) (by decide)
      have hsh : (y : Int) / 2 ^ 1 = ((y / 2 : Nat) : Int) := by omega
      by_cases hodd : y % 2 = 1
      · rw [hodd] at hand
        have HC := Lib.hid (show stepC y = y / 2 ^^^ 2197175160 by unfold stepC; rw [if_pos hodd])
        clear hodd
        go_wp2
        go_round
        case rel => exact ⟨k + 1, by omega, by go_num, by rw [HS.out, HC.out]⟩
        case measure => simp [intOf]; omega
      · have h0 : y % 2 = 0 := by omega
        rw [h0] at hand
        have HC := Lib.hid (show stepC y = y / 2 by unfold stepC; rw [if_neg hodd])
        clear hodd h0
        go_wp2
        go_round
        case rel => exact ⟨k + 1, by omega, by go_num, by rw [HS.out, HC.out]; rfl⟩
        case measure => simp [intOf]; omega
    · obtain rfl : k = 8 := by omega
      go_wp2
      go_ret
      exact ⟨rfl, rfl⟩

theorem not_u32 (s : Nat) (hs : s < 4294967296) : bits .xor .u32 IntKind.u32.max (s : Int) = ((4294967295 - s : Nat) : Int) := by
  rw [sub_xor s hs, Nat.xor_comm]
  exact u32_xor_nat 4294967295 s (by decide) hs

/-- A sum that goes on. -/
def moreC (s : Nat) (l : List UInt8) : Nat := 4294967295 - crcReg (4294967295 - s) l
theorem moreC_le (s : Nat) (l : List UInt8) : moreC s l ≤ 4294967295 := by unfold moreC; omega

set_option maxHeartbeats 1000000 in
theorem more_any (s : Nat) (hs : s < 4294967296) (A : Option Addr) (n c : Nat) (l : List UInt8) (B : Nat) (W : World) (hl : Byt W B A n l) (hn : n ≤ 140737488355328) :
    Calls Tryz.prog 199 #[.int .u32 s, .slice A n c] W fun e W' => e = .returned (.int .u32 (moreC s l : Nat)) ∧ W = W' := by
  have HM := Lib.hid (show moreC s l = 4294967295 - crcReg (4294967295 - s) l from rfl)
  generalize moreC s l = M at HM ⊢
  go_enter Tryz.func199, Tryz.ntmps199
  go_wp2_with fail
  go_loop [5, 7, 12] (fun rs _ i => ∃ k : Nat, k ≤ n ∧ i = .int .i64 k ∧ rs = .int .u32 ((crcReg (4294967295 - s) (l.take k) : Nat) : Int))
    (fun _ _ i => n - (intOf i).toNat)
  case atStart => exact ⟨0, by omega, rfl, by rw [List.take_zero, not_u32 s hs]; rfl⟩
  case round =>
    obtain ⟨k, hk, rfl, rfl⟩ := hrel
    have hr : crcReg (4294967295 - s) (l.take k) < 4294967296 := crcReg_lt _ (by omega)
    by_cases hlt : k < n
    · obtain ⟨b, o, x, rfl, _, hx, hc⟩ := hl.at_ hlt
      have hx2 : x.toNat < 256 := x.toNat_lt
      have HS := Lib.hid (show crcReg (4294967295 - s) (l.take (k + 1)) = stepN 8 (crcReg (4294967295 - s) (l.take k) ^^^ x.toNat) by
        rw [List.take_add_one, hx]; exact crcReg_snoc _ _ _)
      generalize crcReg (4294967295 - s) (l.take k) = r at hr HS ⊢
      generalize x.toNat = xt at hc hx2 HS
      go_wp2_with (go_at_call 206; refine (afterByte_any r xt hr hx2 _).mono ?_; rintro e w' ⟨rfl, rfl⟩)
      go_round
      case rel => exact ⟨k + 1, by omega, by go_num, by rw [HS.out]⟩
      case measure => simp [intOf]; omega
    · have hkn : k = n := by omega
      have HT := Lib.hid (show crcReg (4294967295 - s) (l.take k) = crcReg (4294967295 - s) l by rw [List.take_of_length_le (by rw [hl.1]; omega)])
      generalize crcReg (4294967295 - s) (l.take k) = r at hr HT ⊢
      go_wp2
      go_ret
      refine ⟨?_, rfl⟩
      rw [HM.out, ← HT.out]
      rw [not_u32 r hr]; rfl

theorem crcSum_more (l : List UInt8) : crcSum l = moreC 0 l := rfl

set_option maxHeartbeats 1000000 in
theorem sum_any (A : Option Addr) (n c : Nat) (l : List UInt8) (B : Nat) (W : World) (hl : Byt W B A n l) (hn : n ≤ 140737488355328) :
    Calls Tryz.prog 178 #[.slice A n c] W fun e W' => e = .returned (.int .u32 (crcSum l : Nat)) ∧ W = W' := by
  rw [crcSum_more]
  go_enter Tryz.func178, Tryz.ntmps178
  go_wp2_with (go_at_call 199; refine (more_any 0 (by decide) _ _ _ _ _ _ hl hn).mono ?_; rintro e w' ⟨rfl, rfl⟩)
  go_ret
  exact ⟨rfl, rfl⟩

theorem ref_same (y z : Nat) (h : y % 2 = z % 2) : y / 2 ^^^ z / 2 = stepC (y ^^^ z) := by
  unfold stepC
  rw [if_neg (by rw [Nat.xor_mod_two_eq_one]; omega), Nat.xor_div_two]
theorem ref_other (y z : Nat) (h : y % 2 ≠ z % 2) : (y / 2 ^^^ 2197175160) ^^^ z / 2 = stepC (y ^^^ z) := by
  unfold stepC
  rw [if_pos (by rw [Nat.xor_mod_two_eq_one]; omega), Nat.xor_div_two, Nat.xor_assoc, Nat.xor_assoc, Nat.xor_comm (z / 2)]

theorem test_same (y z : Nat) (h : y % 2 = z % 2) : (!((y : Int) % 2 == 1) == ((z : Int) % 2 == 1)) = false := by
  have : (y : Int) % 2 = (z : Int) % 2 := by omega
  rw [this]; simp
theorem test_other (y z : Nat) (h : y % 2 ≠ z % 2) : (!((y : Int) % 2 == 1) == ((z : Int) % 2 == 1)) = true := by
  by_cases hy : (y : Int) % 2 = 1
  · have hz : (z : Int) % 2 = 0 := by omega
    rw [hy, hz]; rfl
  · have hy0 : (y : Int) % 2 = 0 := by omega
    have hz : (z : Int) % 2 = 1 := by omega
    rw [hy0, hz]; rfl

end Go.Proofs.YthjikbhjciphiaaGreatDoor

/-
  Walks over package crc and its reference: Seal, Open; the reference's Seal; awake.
-/
namespace Go.Proofs.YthjikbhjciphiaaGreatDoor
open Go.RowKit
set_option linter.unusedVariables false
set_option linter.unusedSimpArgs false

/-- Bytes, sealed. -/
def sealC (l : List UInt8) : List UInt8 := l ++ le 4 (crcSum l)

set_option maxHeartbeats 1000000 in
theorem seal_any (A : Option Addr) (n c : Nat) (l : List UInt8) (W : World) (hl : Byt W W.heap.size A n l) (hnil : A = none → c = 0) (hn : n ≤ 140737488351232) :
    Calls Tryz.prog 132 #[.slice A n c] W fun e W' => ∃ v, e = .returned v ∧ W'.ownsRow W.heap.size 5 1 v (n + 4) ((sealC l).map bv) ∧ Below W.heap.size W W' := by
  have HQ : Hid (bitsW 4 = 8 * 4) := Lib.hid rfl
  have hs := crcSum_le l
  have HS := Lib.hid (show sealC l = l ++ le 4 (crcSum l) from rfl)
  generalize hq : crcSum l = q at hs HS
  have HQ2 := Lib.hid hq
  clear hq
  go_enter Tryz.func132, Tryz.ntmps132
  go_wp2_with (first
    | (go_at_call 178; refine (sum_any _ _ _ _ _ _ hl (by omega)).mono ?_; rintro e w' ⟨rfl, rfl⟩; rw [HQ2.out])
    | (go_at_call 128; refine (put_q _ _ _ _ 4 q (by omega) _ hl hnil hn 4 (by decide) HQ).mono ?_; rintro e w' ⟨v, rfl, hown, hb⟩))
  go_ret
  exact ⟨v, rfl, by rw [HS.out]; exact hown, hb⟩

/-- Is it a seal? -/
def isSeal (l : List UInt8) : Bool := decide (4 ≤ l.length) && decide (num (l.drop (l.length - 4)) = crcSum (l.take (l.length - 4)))
/-- What it opens to. -/
def openB (l : List UInt8) : List UInt8 := if isSeal l then l.take (l.length - 4) else []

set_option maxHeartbeats 1000000 in
theorem open_any (B : Nat) (A : Option Addr) (n c : Nat) (l : List UInt8) (W : World) (hl : Byt W B A n l) (hB : B ≤ W.heap.size) (hnil : A = none → c = 0) (hnc : n ≤ c) (hcm : c ≤ maxLen) (hn : n ≤ 140737488351232) :
    Calls Tryz.prog 172 #[.slice A n c] W fun e W' => ∃ v, e = .returned (.tuple #[v, .bool (isSeal l)]) ∧ W'.ownsRow W.heap.size 5 1 v (openB l).length ((openB l).map bv) ∧ Below W.heap.size W W' := by
  unfold maxLen at hcm
  have hln := hl.1
  by_cases h4 : n < 4
  · have HI := Lib.hid (show isSeal l = false by unfold isSeal; rw [hln]; simp; omega)
    have HO := Lib.hid (show openB l = [] by unfold openB; rw [HI.out]; rfl)
    clear hln
    go_enter Tryz.func172, Tryz.ntmps172
    go_wp2
    go_ret2
    rw [HI.out, HO.out]
    exact ⟨_, rfl, World.ownsRow_nil _ _ _ _, Below.refl _ _⟩
  · obtain ⟨m, rfl⟩ : ∃ m, n = m + 4 := ⟨n - 4, by omega⟩
    have hcut := hl.cut (k := m) (by omega) hnc
    rw [if_neg (by omega), show m + 4 - m = 4 by omega] at hcut
    have htk := hl.take (k := m) (by omega)
    have HQ : Hid (bitsW 4 = 8 * 4) := Lib.hid rfl
    have hm4 : ((m + 4 : Nat) : Int) - 4 = (m : Int) := by omega
    have HI := Lib.hid (show isSeal l = decide (num (l.drop m) = crcSum (l.take m)) by unfold isSeal; rw [hln]; simp)
    have HO := Lib.hid (show openB l = if isSeal l then l.take m else [] by unfold openB; rw [hln]; simp)
    have HT := Lib.hid (show tk (l.drop m) 0 (4 : Nat) = ((l.drop m), [], 0) by
      unfold tk
      rw [if_neg (by simp), if_neg (by simp [hln])]
      rw [show ((4 : Nat) : Int).toNat = 4 from rfl, List.take_of_length_le (by rw [List.length_drop, hln]; omega), List.drop_of_length_le (l := List.drop m l) (by rw [List.length_drop, hln]; omega)])
    clear hln
    have hnum := num_max (l.drop m) (by rw [hcut.1]; omega)
    have hsum := crcSum_le (l.take m)
    have hOl : (openB l).length = (if isSeal l then m else 0) := by
      rw [HO.out]
      split
      · exact htk.1
      · rfl
    have HOl := Lib.hid hOl
    clear hOl
    by_cases he : num (l.drop m) = crcSum (l.take m)
    · rw [decide_eq_true he] at HI
      rw [HI.out] at HO HOl
      rw [he] at hnum
      have HE := Lib.hid he
      clear he
      generalize hq : crcSum (l.take m) = q at *
      have HQ2 := Lib.hid hq
      clear hq
      go_enter Tryz.func172, Tryz.ntmps172
      go_wp2_with (first
        | (go_at_call 115; go_loud (refine (newCursor_any _ _ _ _ _ _ hcut hB (fun h => by have := hnil (by simpa using h); omega) (by omega)).mono ?_; rintro r w1 ⟨g, rfl, hg, hC, hb1⟩; have htk1 := htk.below (hb1.mono hB)))
        | (go_at_call 116; go_loud (refine (number_q g _ 0 4 4 (by decide) HQ _ hC).mono ?_; rintro r w2 ⟨rfl, hC2, ho2, hz2⟩; rw [HT.out, HE.out]; have hb2 := ho2.below hb1 hb1.size hg; have htk2 := htk.below (hb2.mono hB)))
        | (go_at_call 178; go_loud (refine (sum_any _ _ _ _ _ _ htk2 (by omega)).mono ?_; rintro e w' ⟨rfl, rfl⟩; rw [HQ2.out]))
        | (go_at_call 166; go_loud (refine (clone_any B _ _ _ _ _ htk2 (Nat.le_trans hB hb2.size) hnil (by omega)).mono ?_; rintro r w3 ⟨v, rfl, hown, hb3⟩)))
      go_ret2
      refine ⟨v, by rw [HI.out]; rfl, ?_, bthen hb2 hb3⟩
      rw [HOl.out, HO.out]
      exact own_mono hown hb2.size
    · rw [decide_eq_false he] at HI
      rw [HI.out] at HO HOl
      have hpq : ((num (l.drop m) : Nat) : Int) ≠ ((crcSum (l.take m) : Nat) : Int) := by omega
      clear he
      generalize hq : crcSum (l.take m) = q at *
      have HQ2 := Lib.hid hq
      clear hq
      generalize hp : num (l.drop m) = p at *
      have HE := Lib.hid hp
      clear hp
      have hne : ((p : Int) != (q : Int)) = true := by rw [bne_iff_ne]; exact hpq
      clear hpq
      go_enter Tryz.func172, Tryz.ntmps172
      go_wp2_with (first
        | (go_at_call 115; go_loud (refine (newCursor_any _ _ _ _ _ _ hcut hB (fun h => by have := hnil (by simpa using h); omega) (by omega)).mono ?_; rintro r w1 ⟨g, rfl, hg, hC, hb1⟩; have htk1 := htk.below (hb1.mono hB)))
        | (go_at_call 116; go_loud (refine (number_q g _ 0 4 4 (by decide) HQ _ hC).mono ?_; rintro r w2 ⟨rfl, hC2, ho2, hz2⟩; rw [HT.out, HE.out]; have hb2 := ho2.below hb1 hb1.size hg; have htk2 := htk.below (hb2.mono hB)))
        | (go_at_call 178; go_loud (refine (sum_any _ _ _ _ _ _ htk2 (by omega)).mono ?_; rintro e w' ⟨rfl, rfl⟩; rw [HQ2.out])))
      go_ret2
      refine ⟨_, by rw [HI.out]; rfl, ?_, hb2⟩
      rw [HOl.out, HO.out]
      exact World.ownsRow_nil _ _ _ _

def d9 : List UInt8 := [49, 50, 51, 52, 53, 54, 55, 56, 57]
theorem d9_sum : crcSum d9 = 3808858755 := by decide +kernel

end Go.Proofs.YthjikbhjciphiaaGreatDoor

/-
  The walk of the law CrcSeals.
-/
namespace Go.Proofs.YthjikbhjciphiaaGreatDoor
open Go.RowKit
set_option linter.unusedVariables false
set_option linter.unusedSimpArgs false

theorem num_inj (l : List UInt8) : ∀ (m : List UInt8), l.length = m.length → num l = num m → l = m := by
  induction l with
  | nil => intro m h _; exact (List.eq_nil_of_length_eq_zero h.symm).symm
  | cons b l ih =>
    intro m h e
    rcases m with _ | ⟨c, m⟩
    · simp at h
    · have hb := b.toNat_lt
      have hc := c.toNat_lt
      have e' : b.toNat + 256 * num l = c.toNat + 256 * num m := e
      have h1 : b = c := UInt8.toNat_inj.1 (by omega)
      rw [h1, ih m (by simpa using h) (by omega)]
theorem sealC_len (l : List UInt8) : (sealC l).length = l.length + 4 := by unfold sealC; rw [List.length_append, le_len]
theorem num_le4 (x : Nat) (h : x ≤ 4294967295) : num (le 4 x) = x := by rw [num_le, show (256 : Nat) ^ 4 = 4294967296 by decide]; omega
theorem sealC_take (l : List UInt8) : (sealC l).take l.length = l := by unfold sealC; simp
theorem sealC_drop (l : List UInt8) : (sealC l).drop l.length = le 4 (crcSum l) := by unfold sealC; simp
theorem isSeal_sealC (l : List UInt8) : isSeal (sealC l) = true := by
  unfold isSeal
  rw [sealC_len, show l.length + 4 - 4 = l.length by omega, sealC_take, sealC_drop, num_le4 _ (crcSum_le l)]
  simp
theorem openB_sealC (l : List UInt8) : openB (sealC l) = l := by
  unfold openB
  rw [isSeal_sealC, if_pos rfl, sealC_len, show l.length + 4 - 4 = l.length by omega, sealC_take]
theorem isSeal_eq (l : List UInt8) (m : Nat) (h : l.length = m + 4) : decide (sealC (l.take m) = l) = isSeal l := by
  have hd : (l.drop m).length = 4 := by rw [List.length_drop, h]; omega
  have hs := crcSum_le (l.take m)
  unfold isSeal
  rw [h, show m + 4 - 4 = m by omega]
  rw [Bool.eq_iff_iff]
  simp only [decide_eq_true_eq, Bool.and_eq_true]
  constructor
  · intro e
    refine ⟨by omega, ?_⟩
    have h1 : (sealC (l.take m)).drop m = l.drop m := by rw [e]
    have h2 := sealC_drop (l.take m)
    rw [List.length_take, h, Nat.min_eq_left (by omega), h1] at h2
    rw [h2, num_le4 _ hs]
  · rintro ⟨_, e⟩
    have h1 : l.drop m = le 4 (crcSum (l.take m)) := num_inj _ _ (by rw [hd, le_len]) (by rw [e, num_le4 _ hs])
    unfold sealC
    rw [← h1, List.take_append_drop]
theorem isSeal_short (l : List UInt8) (h : l.length < 4) : isSeal l = false := by unfold isSeal; simp; omega
theorem openB_not (l : List UInt8) (h : isSeal l = false) : openB l = [] := by unfold openB; rw [h]; rfl
theorem openB_is (l : List UInt8) (m : Nat) (hm : l.length = m + 4) (h : isSeal l = true) : openB l = l.take m := by unfold openB; rw [h, hm]; rfl

end Go.Proofs.YthjikbhjciphiaaGreatDoor

/-
  What is spoilt is no seal. No program stands here.
-/
namespace Go.Proofs.YthjikbhjciphiaaGreatDoor
open Go.RowKit
set_option linter.unusedVariables false
set_option linter.unusedSimpArgs false

theorem xor_cancel {p a b : Nat} (h : p ^^^ a = p ^^^ b) : a = b := by
  have h2 : p ^^^ (p ^^^ a) = p ^^^ (p ^^^ b) := by rw [h]
  simpa [← Nat.xor_assoc] using h2
theorem isSeal_any (e : List UInt8) (n : Nat) (h : e.length = n + 4) : isSeal e = decide (num (e.drop n) = crcSum (e.take n)) := by
  unfold isSeal
  rw [h, show n + 4 - 4 = n by omega, decide_eq_true (show 4 ≤ n + 4 by omega), Bool.true_and]
theorem crcSum_xor (l : List UInt8) : crcSum l = crcReg 4294967295 l ^^^ 4294967295 := by
  unfold crcSum
  rw [sub_xor _ (crcReg_lt l (by decide))]
theorem xorL_len (s d : List UInt8) (h : s.length = d.length) : (xorL s d).length = s.length := by unfold xorL; rw [List.length_zipWith, ← h, Nat.min_self]
theorem spoilt (l : List UInt8) (n a : Nat) (x : List UInt8) (hn : l.length = n) (ha : a ≤ n) (hx : x.length = 4) (h0 : num x ≠ 0) :
    isSeal (xorL (sealC l) (List.replicate a 0 ++ x ++ List.replicate (n - a) 0)) = false := by
  have hd : (List.replicate a (0 : UInt8) ++ x ++ List.replicate (n - a) 0).length = n + 4 := by simp [hx]; omega
  have hb := burst a n x hx h0 ha _ rfl
  generalize List.replicate a (0 : UInt8) ++ x ++ List.replicate (n - a) 0 = d at hd hb ⊢
  have hs : (sealC l).length = n + 4 := by rw [sealC_len, hn]
  have he : (xorL (sealC l) d).length = n + 4 := by rw [xorL_len _ _ (by rw [hs, hd]), hs]
  rw [isSeal_any _ n he]
  have h1 : (xorL (sealC l) d).take n = xorL l (d.take n) := by
    unfold xorL
    rw [List.take_zipWith]
    congr 1
    have := sealC_take l
    rwa [hn] at this
  have h2 : (xorL (sealC l) d).drop n = xorL (le 4 (crcSum l)) (d.drop n) := by
    unfold xorL
    rw [List.drop_zipWith]
    congr 1
    have := sealC_drop l
    rwa [hn] at this
  have hdt : (d.take n).length = n := by rw [List.length_take, hd]; omega
  have hdd : (d.drop n).length = 4 := by rw [List.length_drop, hd]; omega
  rw [h1, h2, num_xor _ _ (by rw [le_len, hdd]), num_le4 _ (crcSum_le l), decide_eq_false_iff_not]
  intro e
  apply hb
  have hc := crcReg_xor l (d.take n) 4294967295 0 (by rw [hn, hdt])
  rw [Nat.xor_zero] at hc
  rw [crcSum_xor, crcSum_xor, hc] at e
  have e2 : (crcReg 4294967295 l ^^^ 4294967295) ^^^ num (d.drop n) = (crcReg 4294967295 l ^^^ 4294967295) ^^^ crcReg 0 (d.take n) := by
    rw [e, Nat.xor_assoc, Nat.xor_assoc, Nat.xor_comm 4294967295]
  exact (xor_cancel e2).symm

/-- The loop's steps. -/
def sp (s : List UInt8) (a : Nat) (x : List UInt8) : Nat → List UInt8
  | 0 => s
  | k + 1 => (sp s a x k).set (a + k) ((sp s a x k).getD (a + k) 0 ^^^ x.getD k 0)
theorem sp_len (s : List UInt8) (a : Nat) (x : List UInt8) (k : Nat) : (sp s a x k).length = s.length := by
  induction k with
  | zero => rfl
  | succ k ih => simp [sp, ih]
theorem xorL_zeros (p : List UInt8) : xorL p (List.replicate p.length 0) = p := by
  unfold xorL
  induction p with
  | nil => rfl
  | cons b p ih => rw [List.length_cons, List.replicate_succ, List.zipWith_cons_cons, ih]; simp
theorem list4u (l : List UInt8) (h : l.length = 4) : ∃ a b c d, l = [a, b, c, d] := by
  match l, h with
  | [a, b, c, d], _ => exact ⟨a, b, c, d, rfl⟩
theorem sp_four (s : List UInt8) (a n : Nat) (x : List UInt8) (hs : s.length = n + 4) (ha : a ≤ n) (hx : x.length = 4) :
    sp s a x 4 = xorL s (List.replicate a 0 ++ x ++ List.replicate (n - a) 0) := by
  obtain ⟨x0, x1, x2, x3, rfl⟩ := list4u x hx
  have h1 : s = s.take a ++ (s.drop a).take 4 ++ (s.drop a).drop 4 := by rw [List.append_assoc, List.take_append_drop, List.take_append_drop]
  obtain ⟨y0, y1, y2, y3, hy⟩ := list4u ((s.drop a).take 4) (by rw [List.length_take, List.length_drop, hs]; omega)
  have hp : (s.take a).length = a := by rw [List.length_take, hs]; omega
  have hq : ((s.drop a).drop 4).length = n - a := by rw [List.length_drop, List.length_drop, hs]; omega
  rw [hy] at h1
  generalize s.take a = p at h1 hp
  generalize (s.drop a).drop 4 = q at h1 hq
  clear hy
  subst h1
  subst hp
  have hz : xorL (p ++ [y0, y1, y2, y3] ++ q) (List.replicate p.length 0 ++ [x0, x1, x2, x3] ++ List.replicate (n - p.length) 0) = p ++ [y0 ^^^ x0, y1 ^^^ x1, y2 ^^^ x2, y3 ^^^ x3] ++ q := by
    unfold xorL
    rw [List.zipWith_append (by simp), List.zipWith_append (by simp)]
    have e1 := xorL_zeros p
    have e2 := xorL_zeros q
    unfold xorL at e1 e2
    rw [hq] at e2
    rw [e1, e2]
    rfl
  rw [hz]
  simp [sp, List.getD_eq_getElem?_getD, List.set_append]

end Go.Proofs.YthjikbhjciphiaaGreatDoor
