/-
  Walks of the reference of package real: Parts, Pick.
-/
import Derived.Test.YthjikbhjciphiaaGreatDoorZz6
import Derived.Deep.CutBlock
import Derived.Test.YthjikbhjciphiaaGreatDoorZz1
import Derived.Laws.Externs
import Derived.Test.YthjikbhjciphiaaGreatDoorZz2
import Derived.Laws.Rows
import Derived.Laws.Tables
namespace Go.Proofs.YthjikbhjciphiaaGreatDoor
open Go.RowKit
set_option linter.unusedVariables false
set_option linter.unusedSimpArgs false

/-- What the reference's Parts gives: the odd number, the power, whether there are any. -/
def partsM (b : Nat) : Nat := if cls b = 5 then od b else 0
def partsE (b : Nat) : Int := if cls b = 5 then -1074 + ((ex b + tz b : Nat) : Int) else 0
def partsIs (b : Nat) : Bool := decide (cls b = 3 ∨ cls b = 4 ∨ cls b = 5)

theorem int_div_pow (m q : Nat) : (m : Int) / 2 ^ q = ((m / 2 ^ q : Nat) : Int) := by
  rw [Int.natCast_ediv, Int.natCast_pow]
  rfl

/-- The first loop's state. -/
def KInv (m q : Nat) (kv iv : Value) : Prop := ∃ i : Nat, 1 ≤ i ∧ i ≤ 54 ∧ iv = .int .i64 i ∧ kv = .int .u64 ((kk m q (i - 1) : Nat) : Int)
/-- The second loop's state. -/
def LInv (k n : Nat) (ov tv iv : Value) : Prop := ∃ (c o t : Nat) (i : Int), c ≤ 53 ∧ i = (c : Int) - 1 ∧ iv = .int .i64 i ∧ ov = .int .u64 (o : Int) ∧ tv = .int .u64 (t : Int) ∧ t < 9007199254740992 ∧ o * 9007199254740992 + t = k * (n / 2 ^ c)

theorem tz_sum (b : Nat) (h0 : 0 < b) (hb : b < 9218868437227405312) : ex b + tz b < 2100 := by
  have := (od_spec b h0).2.2
  unfold ex
  omega

theorem od_lt (b : Nat) : od b < 9007199254740992 := Nat.lt_of_le_of_lt (Nat.div_le_self _ _) (mg_lt b)

end Go.Proofs.YthjikbhjciphiaaGreatDoor

/-
  Walks of the library's Frexp and TrailingZeros64, and of real.Parts.
-/
namespace Go.Proofs.YthjikbhjciphiaaGreatDoor
open Go.RowKit
set_option linter.unusedVariables false
set_option linter.unusedSimpArgs false

theorem and_abs (b : Nat) (h : b < 9223372036854775808) : bits .andNot .u64 (b : Int) 9223372036854775808 = (b : Int) := by
  have h1 := u64_andNot_nat b 9223372036854775808 (by omega) (by decide)
  have h2 : b &&& (18446744073709551615 - 9223372036854775808) = b := by
    rw [show (18446744073709551615 - 9223372036854775808 : Nat) = 2 ^ 63 - 1 by decide, Nat.and_two_pow_sub_one_eq_mod]
    exact Nat.mod_eq_of_lt h
  rw [h2] at h1
  exact h1

theorem and_frac (w : Nat) (h : w < 9223372036854775808) : bits .andNot .u64 (w : Int) 9218868437227405312 = ((w % 4503599627370496 : Nat) : Int) := by
  have h1 := u64_andNot_nat w 9218868437227405312 (by omega) (by decide)
  have h2 : w &&& (18446744073709551615 - 9218868437227405312) = w % 4503599627370496 := by
    have e1 : (18446744073709551615 - 9218868437227405312 : Nat) = 2 ^ 63 ||| (2 ^ 52 - 1) := by decide
    rw [e1, Nat.and_or_distrib_left, Nat.and_two_pow_sub_one_eq_mod]
    have e2 : w &&& 2 ^ 63 = 0 := by
      apply Nat.eq_of_testBit_eq
      intro i
      rw [Nat.testBit_and, Nat.zero_testBit, Nat.testBit_two_pow]
      by_cases hi : 63 = i
      · subst hi
        rw [Nat.testBit_lt_two_pow (show w < 2 ^ 63 from h)]
        rfl
      · simp [hi]
    rw [e2, Nat.zero_or]
  rw [h2] at h1
  exact h1

theorem or_half (f : Nat) (h : f < 4503599627370496) : bits .or .u64 (f : Int) 4602678819172646912 = ((4602678819172646912 + f : Nat) : Int) := by
  have h1 := u64_or_nat f 4602678819172646912 (by omega) (by decide)
  have h2 := Nat.two_pow_add_eq_or_of_lt (i := 52) (show f < 2 ^ 52 from h) 1022
  rw [show (2 ^ 52 * 1022 : Nat) = 4602678819172646912 by decide] at h2
  rw [Nat.or_comm, ← h2] at h1
  exact h1

theorem and_exp (x : Nat) (h : x < 2048) : bits .and .u64 (x : Int) 2047 = (x : Int) := by
  have h1 := u64_and_nat x 2047 (by omega) (by decide)
  have h2 : x &&& 2047 = x := by
    rw [show (2047 : Nat) = 2 ^ 11 - 1 by decide, Nat.and_two_pow_sub_one_eq_mod]
    exact Nat.mod_eq_of_lt h
  rw [h2] at h1
  exact h1

theorem abs_any (b : Nat) (h : b < 9223372036854775808) (W : World) :
    Calls Tryz.prog 203 #[.float .f64 b] W fun e W' => e = .returned (.float .f64 b) ∧ W = W' := by
  have h1 := and_abs b h
  go_enter Tryz.func203, Tryz.ntmps203
  go_wp2
  go_ret
  exact ⟨rfl, rfl⟩

theorem isInf_zero (b : Nat) (h : b < 9223372036854775808) (W : World) (q : Bool) (hq : (FloatKind.f64.format.order b 9218868437227405311 == some .gt) = q) :
    Calls Tryz.prog 195 #[.float .f64 b, .int .i64 0] W fun e W' => e = .returned (.bool q) ∧ W = W' := by
  go_enter Tryz.func195, Tryz.ntmps195
  go_wp2_with (go_at_call 203; refine (abs_any b h _).mono ?_; rintro e w' ⟨rfl, rfl⟩)
  go_ret
  exact ⟨rfl, rfl⟩

theorem normalize_big (b : Nat) (h : b < 9223372036854775808) (hq : (FloatKind.f64.format.order b 4503599627370496 == some .lt) = false) (W : World) :
    Calls Tryz.prog 205 #[.float .f64 b] W fun e W' => e = .returned (.tuple #[.float .f64 b, .int .i64 0]) ∧ W = W' := by
  go_enter Tryz.func205, Tryz.ntmps205
  go_wp2_with (go_at_call 203; refine (abs_any b h _).mono ?_; rintro e w' ⟨rfl, rfl⟩)
  go_ret2
  exact ⟨rfl, rfl⟩

theorem normalize_small (b : Nat) (h : b < 9223372036854775808) (hq : (FloatKind.f64.format.order b 4503599627370496 == some .lt) = true)
    (v : Nat) (hv : floatBits .mul .f64 b 4841369599423283200 = some v) (W : World) :
    Calls Tryz.prog 205 #[.float .f64 b] W fun e W' => e = .returned (.tuple #[.float .f64 v, .int .i64 (-52)]) ∧ W = W' := by
  have r1 : ∀ W : World, (binOp .mul 211 (.float .f64 b) (.float .f64 4841369599423283200)).run Tryz.prog W = .ok (.float .f64 v) W := fun W => run_float_arith W .mul 211 .f64 b 4841369599423283200 v hv
  clear hv
  go_enter Tryz.func205, Tryz.ntmps205
  go_wp2_with (go_at_call 203; refine (abs_any b h _).mono ?_; rintro e w' ⟨rfl, rfl⟩)
  go_ret2
  exact ⟨rfl, rfl⟩

/-- What the library's frexp gives, out of what normalize does. -/
theorem frexp_of (b v x f : Nat) (d : Int) (h : b < 9223372036854775808) (hv : v < 9223372036854775808) (hd0 : -52 ≤ d) (hd : d ≤ 0)
    (f1 : (FloatKind.f64.format.order b b != some .eq) = false) (f2 : (FloatKind.f64.format.order b 0 == some .eq) = false) (f3 : (FloatKind.f64.format.order b 9218868437227405311 == some .gt) = false)
    (cn : ∀ W, Calls Tryz.prog 205 #[.float .f64 b] W fun e W' => e = .returned (.tuple #[.float .f64 v, .int .i64 d]) ∧ W = W')
    (hx : v / 4503599627370496 = x) (hf : v % 4503599627370496 = f) (W : World) :
    Calls Tryz.prog 198 #[.float .f64 b] W fun e W' => e = .returned (.tuple #[.float .f64 (4602678819172646912 + f), .int .i64 (d + ((x : Int) - 1022))]) ∧ W = W' := by
  have c1 := fun W => isNaN_any b W false f1
  have c2 := fun W => isInf_zero b h W false f3
  have a1 := and_frac v hv
  have a2 := or_half f (by omega)
  have a3 := and_exp x (by omega)
  have a4 : (v : Int) / 4503599627370496 = (x : Int) := by omega
  have a5 : (x : Int) < 2048 := by omega
  rw [hf] at a1
  obtain ⟨u, hu⟩ : ∃ u, u = 4602678819172646912 + f := ⟨_, rfl⟩
  rw [← hu] at a2 ⊢
  have HU := Lib.hid hu
  have a6 : (x : Int) - 1023 + 1 = (x : Int) - 1022 := by omega
  rw [← a6]
  clear f1 f3 hx hf hu a6 h hv
  go_enter Tryz.func198, Tryz.ntmps198
  go_wp2_with (first | (go_at_call 194; refine (c1 _).mono ?_; rintro e w' ⟨rfl, rfl⟩) | (go_at_call 195; refine (c2 _).mono ?_; rintro e w' ⟨rfl, rfl⟩) | (go_at_call 205; refine (cn _).mono ?_; rintro e w' ⟨rfl, rfl⟩))
  go_ret2
  exact ⟨rfl, rfl⟩

theorem frexp_any (b u : Nat) (x : Int) (W : World)
    (c : ∀ W, Calls Tryz.prog 198 #[.float .f64 b] W fun e W' => e = .returned (.tuple #[.float .f64 u, .int .i64 x]) ∧ W = W') :
    Calls Tryz.prog 174 #[.float .f64 b] W fun e W' => e = .returned (.tuple #[.float .f64 u, .int .i64 x]) ∧ W = W' := by
  go_enter Tryz.func174, Tryz.ntmps174
  go_wp2_with (go_at_call 198; refine (c _).mono ?_; rintro e w' ⟨rfl, rfl⟩)
  go_ret2
  exact ⟨rfl, rfl⟩

/-- The table of the library's TrailingZeros64 in its variable. -/
def DK (W : World) : Prop := ∀ k, k < 64 → W.cell? ⟨4, k, none⟩ = some (.int .u8 (Lib.deBruijn64tab.getD k 0 : Nat))

theorem tz64_key (x a : Nat) (hx : x < 18446744073709551616) (hx0 : x ≠ 0) (hlow : x &&& (18446744073709551616 - x) = a) :
    IntKind.u64.wrap (bits BinOp.and IntKind.u64 (x : Int) (IntKind.u64.wrap (-(x : Int))) * 285870213051353865) / 288230376151711744 = ((a * 285870213051353865 % 18446744073709551616 / 288230376151711744 : Nat) : Int) := by
  have e1 : IntKind.u64.wrap (-(x : Int)) = ((18446744073709551616 - x : Nat) : Int) := by rw [IntKind.wrap_u64]; omega
  rw [e1, u64_and_nat x _ hx (by omega), hlow, IntKind.wrap_u64]
  omega

theorem tz64_core (x k idx : Nat) (w : World) (hx0 : ((x : Int) == 0) = false)
    (key : IntKind.u64.wrap (bits BinOp.and IntKind.u64 (x : Int) (IntKind.u64.wrap (-(x : Int))) * 285870213051353865) / 288230376151711744 = (idx : Int))
    (hi : idx < 64) (hk : k < 64) (hcell : w.cell? ⟨4, idx, none⟩ = some (.int .u8 k)) :
    Calls Tryz.prog 176 #[.int .u64 x] w fun e w' => e = .returned (.int .i64 k) ∧ w = w' := by
  go_enter Tryz.func176, Tryz.ntmps176
  go_wp2_with (simp only [key])
  go_ret
  exact ⟨rfl, rfl⟩

theorem tz64_any (x : Nat) (hx : x < 18446744073709551616) (hx0 : x ≠ 0) (w : World) (hT : DK w) :
    Calls Tryz.prog 176 #[.int .u64 x] w fun e w' => e = .returned (.int .i64 (Lib.ctz 64 x : Nat)) ∧ w = w' := by
  obtain ⟨hlow, hk⟩ := Lib.lowest_bit 64 x hx0 hx
  obtain ⟨hi, htab⟩ := Lib.deBruijn64_at _ hk
  have hc := hT _ hi
  rw [htab] at hc
  exact tz64_core x _ _ w (by simp; omega) (tz64_key x _ hx hx0 hlow) hi hk hc

/-- real.Parts of what is above 0, out of what its calls tell. -/
theorem parts_of (b u f v z r : Nat) (x s : Int) (W : World) (hf : f < 4503599627370496) (hx0 : -1200 ≤ x) (hx : x ≤ 1200) (hz : z < 64)
    (cc : ∀ W, Calls Tryz.prog 173 #[.int .u64 b] W fun e W' => e = .returned (.int .i64 5) ∧ W = W')
    (cf : ∀ W, Calls Tryz.prog 174 #[.float .f64 b] W fun e W' => e = .returned (.tuple #[.float .f64 u, .int .i64 x]) ∧ W = W')
    (hv : floatBits .mul .f64 u 4845873199050653696 = some v) (hk : floatToIntVal .f64 v .u64 = some ((4503599627370496 + f : Nat) : Int))
    (ct : Calls Tryz.prog 176 #[.int .u64 ((4503599627370496 + f : Nat) : Int)] W fun e w' => e = .returned (.int .i64 (z : Nat)) ∧ W = w')
    (hr : (4503599627370496 + f) / 2 ^ z = r) (hs : x - 53 + (z : Int) = s) :
    Calls Tryz.prog 125 #[.int .u64 b] W fun e W' => e = .returned (.tuple #[.int .u64 r, .int .i64 s, .bool true]) ∧ W = W' := by
  obtain ⟨m, hm⟩ : ∃ m, m = 4503599627370496 + f := ⟨_, rfl⟩
  rw [← hm] at hk ct hr
  have hm2 : m < 9007199254740992 := by omega
  have r1 : ∀ W : World, (binOp .mul 211 (.float .f64 u) (.float .f64 4845873199050653696)).run Tryz.prog W = .ok (.float .f64 v) W := fun W => run_float_arith W .mul 211 .f64 u 4845873199050653696 v hv
  have r2 : ∀ W : World, (convert 211 23 (.float .f64 v)).run Tryz.prog W = .ok (.int .u64 m) W := fun W => run_convert_float_int W 211 23 .f64 .u64 v m (by kernel_rfl) Tryz.underlying23 hk
  have hr2 : (m : Int) / 2 ^ z = (r : Int) := by rw [int_div_pow, hr]
  subst hs
  clear hv hk hr hm hf
  go_enter Tryz.func125, Tryz.ntmps125
  go_wp2_with (first | (go_at_call 173; refine (cc _).mono ?_; rintro e w' ⟨rfl, rfl⟩) | (go_at_call 174; refine (cf _).mono ?_; rintro e w' ⟨rfl, rfl⟩) | (go_at_call 176; refine ct.mono ?_; rintro e w' ⟨rfl, rfl⟩))
  go_ret3
  exact ⟨rfl, rfl⟩

/-- Frexp's number by 2 to the power of 53, its power, and what they are of the odd part. -/
theorem frexp_says (b : Nat) (h0 : 0 < b) (hb : b < 9218868437227405312) :
    ∃ (f : Nat) (x : Int), f < 4503599627370496 ∧ -1200 ≤ x ∧ x ≤ 1200 ∧ (4503599627370496 + f) / 2 ^ Lib.ctz 64 (4503599627370496 + f) = od b ∧ x - 53 + ((Lib.ctz 64 (4503599627370496 + f) : Nat) : Int) = -1074 + ((ex b + tz b : Nat) : Int) ∧
      (∀ W, Calls Tryz.prog 174 #[.float .f64 b] W fun e W' => e = .returned (.tuple #[.float .f64 (4602678819172646912 + f), .int .i64 x]) ∧ W = W') := by
  have hc : cls b ≠ 0 := by unfold cls; rw [if_pos (by omega), if_neg (by omega), if_pos hb]; decide
  have f1 : (FloatKind.f64.format.order b b != some .eq) = false := by rw [fmt64, order_self b (by omega) hc]; rfl
  have f2 : (FloatKind.f64.format.order b 0 == some .eq) = false := by rw [fmt64, order_pp b 0 hb (by decide), Nat.compare_eq_gt.2 (by omega)]; rfl
  have f3 : (FloatKind.f64.format.order b 9218868437227405311 == some .gt) = false := by
    rw [fmt64, order_pp b _ hb (by decide)]
    have : compare b 9218868437227405311 ≠ .gt := by rw [Ne, Nat.compare_eq_gt]; omega
    simp [this]
  obtain ⟨m1, m2, m3⟩ := od_spec b h0
  by_cases hs : b < 4503599627370496
  · have f4 : (FloatKind.f64.format.order b 4503599627370496 == some .lt) = true := by rw [fmt64, order_pp b _ hb (by decide), Nat.compare_eq_lt.2 hs]; rfl
    obtain ⟨hl, z1, z2⟩ := sub_field b h0 hs
    have hv : floatBits .mul .f64 b 4841369599423283200 = some ((0 + b.log2) * 4503599627370496 + b * 2 ^ (52 - b.log2)) := mul_sub b _ 0 h0 hs (by omega) c52
    obtain ⟨hm, hex⟩ := mg_small b (by omega)
    have hctz : Lib.ctz 64 (b * 2 ^ (52 - b.log2)) = tz b + (52 - b.log2) := by
      obtain ⟨k, k1, _⟩ := ctz_spec (b * 2 ^ (52 - b.log2)) (by omega) (by omega)
      obtain ⟨j, j1, _⟩ := ctz_spec b h0 (by omega)
      have ej : tz b = Lib.ctz 64 b := by unfold tz; rw [hm]
      rw [ej]
      refine pow_unique (m := k) (n := j) ?_
      rw [← k1, Nat.pow_add, Nat.mul_right_comm, ← j1]
    obtain ⟨L, hL⟩ : ∃ L, L = b.log2 := ⟨_, rfl⟩
    obtain ⟨z, hz⟩ : ∃ z, z = b * 2 ^ (52 - L) := ⟨_, rfl⟩
    rw [← hL] at hl z1 z2 hv hctz
    rw [← hz] at z1 z2 hv hctz
    obtain ⟨f, hf⟩ : ∃ f, z = 4503599627370496 + f := ⟨z - 4503599627370496, by omega⟩
    refine ⟨f, -52 + (((L + 1 : Nat) : Int) - 1022), by omega, by omega, by omega, ?_, ?_, ?_⟩
    · rw [← hf, hctz, Nat.pow_add, hz, Nat.mul_div_mul_right _ _ (Nat.two_pow_pos _)]
      unfold od
      rw [hm]
    · rw [← hf, hctz, hex]
      omega
    · intro W
      refine frexp_any b _ _ W fun W => ?_
      exact frexp_of b _ (L + 1) f (-52) (by omega) (by omega) (by omega) (by omega) f1 f2 f3 (fun W => normalize_small b (by omega) f4 _ hv W) (by omega) (by omega) W
  · have f4 : (FloatKind.f64.format.order b 4503599627370496 == some .lt) = false := by
      rw [fmt64, order_pp b _ hb (by decide)]
      have : compare b 4503599627370496 ≠ .lt := by rw [Ne, Nat.compare_eq_lt]; omega
      simp [this]
    have hm : mg b = 4503599627370496 + b % 4503599627370496 := by unfold mg; rw [if_neg hs]
    have hex : ex b + 1 = b / 4503599627370496 := by unfold ex; omega
    refine ⟨b % 4503599627370496, 0 + (((b / 4503599627370496 : Nat) : Int) - 1022), by omega, by omega, by omega, ?_, ?_, ?_⟩
    · rw [← hm]
      rfl
    · rw [← hm, ← hex]
      show _ - 53 + ((tz b : Nat) : Int) = _
      omega
    · intro W
      refine frexp_any b _ _ W fun W => ?_
      exact frexp_of b b _ _ 0 (by omega) (by omega) (by omega) (by omega) f1 f2 f3 (fun W => normalize_big b (by omega) f4 W) rfl rfl W

theorem parts_yes (b : Nat) (h0 : 0 < b) (hb : b < 9218868437227405312) (h5 : cls b = 5) (W : World) (hT : DK W) :
    Calls Tryz.prog 125 #[.int .u64 b] W fun e W' => e = .returned (.tuple #[.int .u64 (od b : Nat), .int .i64 (-1074 + ((ex b + tz b : Nat) : Int)), .bool true]) ∧ W = W' := by
  obtain ⟨f, x, hf, hx0, hx, hr, hs, cf⟩ := frexp_says b h0 hb
  obtain ⟨v, hv, hw⟩ := mul53_half f hf
  have cc := fun W => class_any b (by omega) W
  rw [h5] at cc
  have hct := (Lib.lowest_bit 64 (4503599627370496 + f) (by omega) (by omega)).2
  refine parts_of b _ f v _ _ x _ W hf hx0 hx hct cc cf hv ?_ (tz64_any _ (by omega) (by omega) W hT) hr hs
  unfold floatToIntVal
  rw [show FloatKind.decode .f64 v = Ieee.double.read v from rfl, hw]
  have hmin : IntKind.u64.min = 0 := rfl
  have hmax : IntKind.u64.max = 18446744073709551615 := rfl
  simp only [hmin, hmax]
  rw [if_pos (by omega)]

theorem parts_no (b c : Nat) (W : World) (q : Bool) (cc : ∀ W, Calls Tryz.prog 173 #[.int .u64 b] W fun e W' => e = .returned (.int .i64 (c : Nat)) ∧ W = W')
    (hc : ((c = 3 ∨ c = 4) ∧ q = true) ∨ ((c = 0 ∨ c = 1 ∨ c = 2 ∨ c = 6) ∧ q = false)) :
    Calls Tryz.prog 125 #[.int .u64 b] W fun e W' => e = .returned (.tuple #[.int .u64 0, .int .i64 0, .bool q]) ∧ W = W' := by
  rcases hc with ⟨rfl | rfl, rfl⟩ | ⟨rfl | rfl | rfl | rfl, rfl⟩
  all_goals
    go_enter Tryz.func125, Tryz.ntmps125
    go_wp2_with (go_at_call 173; refine (cc _).mono ?_; rintro e w' ⟨rfl, rfl⟩)
    go_ret3
    exact ⟨rfl, rfl⟩

end Go.Proofs.YthjikbhjciphiaaGreatDoor

/-
  Walks of package price: divided, product, Due, Check, Over, Add.
-/
namespace Go.Proofs.YthjikbhjciphiaaGreatDoor
open Go.RowKit
set_option linter.unusedVariables false
set_option linter.unusedSimpArgs false

theorem min_div (h j : Nat) (hh : h < 18446744073709551616) : (h : Int) / 2 ^ min j 64 = ((h / 2 ^ j : Nat) : Int) := by
  rw [int_div_pow]
  by_cases h64 : j ≤ 64
  · rw [Nat.min_eq_left h64]
  · rw [Nat.min_eq_right (by omega), Nat.div_eq_of_lt hh, Nat.div_eq_of_lt (Nat.lt_of_lt_of_le hh (Nat.pow_le_pow_right (by decide) (by omega) : 2 ^ 64 ≤ 2 ^ j))]

end Go.Proofs.YthjikbhjciphiaaGreatDoor

/-
  Walks of package price: Due, Check, Over, Add; the parts of any number; the reference's Add.
-/
namespace Go.Proofs.YthjikbhjciphiaaGreatDoor
open Go.RowKit
set_option linter.unusedVariables false
set_option linter.unusedSimpArgs false

theorem parts_any (b : Nat) (hb : b < 18446744073709551616) (W : World) (hT : DK W) :
    Calls Tryz.prog 125 #[.int .u64 b] W fun e W' => e = .returned (.tuple #[.int .u64 (partsM b : Nat), .int .i64 (partsE b), .bool (partsIs b)]) ∧ W = W' := by
  obtain ⟨s0, s1, s2, s3, s4, s5, s6⟩ := cls_says b hb
  by_cases h5 : cls b = 5
  · obtain ⟨g0, g1⟩ := s5 h5
    unfold partsM partsE partsIs
    rw [if_pos h5, if_pos h5, decide_eq_true (.inr (.inr h5))]
    exact parts_yes b g0 g1 h5 W hT
  · unfold partsM partsE partsIs
    rw [if_neg h5, if_neg h5]
    by_cases h34 : cls b = 3 ∨ cls b = 4
    · rw [decide_eq_true (by omega)]
      exact parts_no b (cls b) W true (class_any b hb) (.inl ⟨h34, rfl⟩)
    · rw [decide_eq_false (by omega)]
      exact parts_no b (cls b) W false (class_any b hb) (.inr ⟨by rcases cls_le b with h | h | h | h | h | h | h <;> omega, rfl⟩)

theorem partsM_lt (b : Nat) (hb : b < 18446744073709551616) : partsM b < 9007199254740992 := by
  obtain ⟨s0, s1, s2, s3, s4, s5, s6⟩ := cls_says b hb
  unfold partsM
  split
  · exact Nat.lt_of_le_of_lt (Nat.div_le_self _ _) (mg_lt b)
  · decide

theorem partsE_in (b : Nat) (hb : b < 18446744073709551616) : -1074 ≤ partsE b ∧ partsE b ≤ 2000 := by
  obtain ⟨s0, s1, s2, s3, s4, s5, s6⟩ := cls_says b hb
  unfold partsE
  split
  · rename_i h
    obtain ⟨g0, g1⟩ := s5 h
    have h1 := (od_spec b g0).2.2
    have h2 : ex b ≤ 2045 := by unfold ex; omega
    omega
  · omega

theorem due_parts (n b : Nat) : capM (scale (n * partsM b) (partsE b)) = dueV n b := by
  unfold partsM partsE dueV
  by_cases h : cls b = 5
  · rw [if_pos h, if_pos h, if_pos h]
  · rw [if_neg h, if_neg h, if_neg h]
    unfold scale
    rw [if_pos (by omega), Nat.mul_zero, Nat.zero_mul]
    rfl

theorem check_yes (b : Nat) (hb : b < 18446744073709551616) (hq : partsIs b = true) (W : World) (hT : DK W) :
    Calls Tryz.prog 82 #[.int .u64 b] W fun e W' => e = .returned (.tuple #[.int .u64 (canonV b : Nat), .int .i64 0]) ∧ W = W' := by
  have cp := parts_any b hb W hT
  rw [hq] at cp
  have hm := partsM_lt b hb
  obtain ⟨he0, he1⟩ := partsE_in b hb
  have cc := fun W => canon_any b hb W
  clear hq
  generalize partsM b = m at cp hm
  generalize partsE b = p at cp he0 he1
  generalize canonV b = c at cc ⊢
  go_enter Tryz.func82, Tryz.ntmps82
  go_wp2_with (first | (go_at_call 125; refine cp.mono ?_; rintro e w' ⟨rfl, rfl⟩) | (go_at_call 126; refine (cc _).mono ?_; rintro e w' ⟨rfl, rfl⟩))
  go_ret2
  exact ⟨rfl, rfl⟩

theorem check_no (b : Nat) (hb : b < 18446744073709551616) (hq : partsIs b = false) (W : World) (hT : DK W) :
    Calls Tryz.prog 82 #[.int .u64 b] W fun e W' => e = .returned (.tuple #[.int .u64 0, .int .i64 13]) ∧ W = W' := by
  have cp := parts_any b hb W hT
  rw [hq] at cp
  have hm := partsM_lt b hb
  obtain ⟨he0, he1⟩ := partsE_in b hb
  clear hq
  generalize partsM b = m at cp hm
  generalize partsE b = p at cp he0 he1
  go_enter Tryz.func82, Tryz.ntmps82
  go_wp2_with (go_at_call 125; refine cp.mono ?_; rintro e w' ⟨rfl, rfl⟩)
  go_ret2
  exact ⟨rfl, rfl⟩

/-- Would the sum be too great? -/
def overV (a b : Nat) : Bool := decide (18446744073709551616 ≤ a + b)

end Go.Proofs.YthjikbhjciphiaaGreatDoor

/-
  A block known whole: its cells, loads and stores of whole arrays, results that lie in a cell. No program stands here.
-/
namespace Go.Proofs.YthjikbhjciphiaaGreatDoor
open Go.RowKit
set_option linter.unusedVariables false
set_option linter.unusedSimpArgs false

/-- Block g holds exactly these cells, and may be written. -/
def Blk (w : World) (g : Nat) (t : TypeId) (cs : List Value) : Prop := w.heap[g]? = some (.cells cs.toArray t (0, 0))

section
variable {w w' : World} {g : Nat} {t : TypeId} {cs : List Value}
theorem Blk.cell (h : Blk w g t cs) (i : Nat) : w.cell? ⟨g, i, none⟩ = cs[i]? := by
  rw [cell_of_row w g i _ t (0, 0) h]; simp
theorem Blk.frozen (h : Blk w g t cs) (i : Nat) : w.frozen? ⟨g, i, none⟩ = false := frozen_of_row w g i _ t h
theorem Blk.lt (h : Blk w g t cs) : g < w.heap.size := (Array.getElem?_eq_some_iff.1 h).1
theorem Blk.below {B : Nat} (h : Blk w g t cs) (hb : Below B w w') (hg : g < B) : Blk w' g t cs := (hb.block g hg).trans h
theorem Blk.drew (h : Blk w g t cs) : Blk w.drew g t cs := h
theorem Blk.drewN (h : Blk w g t cs) (k : Nat) : Blk (w.drewN k) g t cs := h
theorem Blk.alloc (h : Blk w g t cs) (o : Obj) : Blk (w.alloc o) g t cs := (heap_alloc_old w o h.lt).trans h
theorem Blk.new (w : World) (t : TypeId) (C : Array Value) (hC : C = cs.toArray) : Blk (w.alloc (.cells C t)) w.heap.size t cs := by
  subst hC; exact heap_alloc_new w _
theorem Blk.set (h : Blk w g t cs) (i : Nat) (v : Value) : Blk (w.setCell ⟨g, i, none⟩ v) g t (cs.set i v) := by
  have := heap_setCell_same w g i _ t v h
  unfold Blk
  rw [this]; simp
theorem Blk.other (h : Blk w g t cs) (a : Addr) (v : Value) (hg : g ≠ a.block) : Blk (w.setCell a v) g t cs := (heap_setCell_other w a g v hg).trans h
theorem setCell_row (h : Blk w g t cs) (i : Nat) (v : Value) : w.setCell ⟨g, i, none⟩ v = w.setRow g (cs.set i v).toArray := by
  rw [setCell_eq_setRow w g i _ t (0, 0) v h]; simp
theorem Blk.row (h : Blk w g t cs) (ds : List Value) : Blk (w.setRow g ds.toArray) g t ds := setRow_heap w g cs.toArray ds.toArray t _ h
theorem Blk.row_other (h : Blk w g t cs) (k : Nat) (C : Array Value) (hk : g ≠ k) : Blk (w.setRow k C) g t cs := by
  unfold Blk World.setRow
  show (w.heap.modify k _)[g]? = _
  rw [Array.getElem?_modify, if_neg (fun e => hk e.symm)]
  exact h
end

theorem below_row {B : Nat} {a w : World} (h : Below B a w) {g : Nat} (hg : B ≤ g) (C : Array Value) : Below B a (w.setRow g C) :=
  h.trans ⟨rfl, rfl, rfl, by simp [World.setRow], fun k hk => by
    show (w.heap.modify g _)[k]? = _
    rw [Array.getElem?_modify, if_neg (by omega)]⟩

theorem Blk.byte {w : World} {g : Nat} {t : TypeId} {b : List UInt8} (h : Blk w g t (b.map bv)) {i : Nat} (hi : i < b.length) : w.cell? ⟨g, i, none⟩ = some (.int .u8 (((b.getD i 0).toNat : Nat) : Int)) := by
  rw [h.cell, List.getElem?_map, List.getElem?_eq_getElem hi, List.getD_eq_getElem?_getD, List.getElem?_eq_getElem hi]
  rfl

/-- A result that is an array in a cell. -/
theorem ret_cell {P : Program} {fn : Func} {R : Ending → World → Prop} {a : Act} {w : World} {p : Tmp} {ty : TypeId} (h : fn.results = #[.cell p ty]) (g : Nat) (t : TypeId) (cs : List Value)
    (hp : a.tmps.getD p undef = .pointer (some ⟨g, 0, none⟩)) (hg : Blk w g t cs) (n : Nat) (e : TypeId)
    (hu : P.underlying ty = some (.array n e)) (hi : (P.info? ty).map (·.size) = some cs.length) (hd : a.defers = []) (hR : R (.returned (.agg cs.toArray)) w) : bodyPost P fn R .ret a w :=
  bodyPost_ret (results_cell_row h _ w g t cs.toArray (0, 0) _ hp hg hu rfl (by simpa using hi)) hd hR

/-- A whole array out of its block; into its block. -/
theorem ld_blk {P : Program} {ops : Array Oper} {rest : List Oper} {o : Oper} {a : Act} {w : World} {Q : Exit → Act → World → Prop} (hgd : o.guard = none) (ty : TypeId) (x : Operand) (ho : o.op = .load ty x)
    (g : Nat) (hx : a.eval x = .pointer (some ⟨g, 0, none⟩)) (t : TypeId) (cs : List Value) (hb : Blk w g t cs) (n : Nat) (e : TypeId)
    (hu : P.underlying ty = some (.array n e)) (hi : (P.info? ty).map (·.size) = some cs.length)
    (h : wpList P ops Q rest (a.put o.dst (.agg cs.toArray)) w) : wpList P ops Q (o :: rest) a w :=
  wpList_load_row hgd ty x ho g hx t cs.toArray (0, 0) _ hb hu rfl (by simpa using hi) h
theorem st_blk {P : Program} {ops : Array Oper} {rest : List Oper} {o : Oper} {a : Act} {w : World} {Q : Exit → Act → World → Prop} (hgd : o.guard = none) (ty : TypeId) (x y : Operand) (ho : o.op = .store ty x y)
    (g : Nat) (ds : List Value) (hx : a.eval x = .pointer (some ⟨g, 0, none⟩)) (hy : a.eval y = .agg ds.toArray)
    (t : TypeId) (cs : List Value) (hb : Blk w g t cs) (hi : (P.info? ty).map (·.size) = some ds.length) (hl : cs.length = ds.length) (h1 : ∀ v ∈ ds, v.oneCell' = true)
    (h : wpList P ops Q rest (a.put o.dst undef) (w.setRow g ds.toArray)) : wpList P ops Q (o :: rest) a w :=
  wpList_store_row hgd ty x y ho g ds.toArray hx hy t cs.toArray hb (by simpa using hi) (by simpa using hl) (Array.all_eq_true_iff_forall_mem.2 fun v hv => h1 v (by simpa using hv)) h

/-- An element of an array value whose elements take one cell. -/
theorem index_agg {P : Program} (w : World) (t e : TypeId) (n : Nat) (cs : List Value) (hu : P.underlying t = some (.array n e)) (ha : (isAgg e).run P w = .ok false w) (hz : (sizeOf e).run P w = .ok 1 w)
    (k : Nat) (kk : IntKind) (hk : k < n) (v : Value) (hv : cs[k]? = some v) :
    (Instr.index t (.agg cs.toArray) (.int kk ((k : Nat) : Int))).run P w = .ok v w := by
  unfold Instr.index
  simp only [asIntOf, Sem.run_bind, Sem.run_pure, Result.andThen_ok, run_underlying hu]
  rw [if_pos ⟨by omega, by omega⟩]
  simp only [Sem.run_bind, hz, Result.andThen_ok, part, ha, Int.toNat_natCast, Nat.mul_one]
  simp [hv]

/-- Eight stores in a row. -/
theorem blk8 {w : World} {g : Nat} {t : TypeId} {B : Nat} {w0 : World} {cs : List Value} (h : Blk w g t cs) (hl : cs.length = 8) (hb : Below B w0 w) (hg : B ≤ g) (v0 v1 v2 v3 v4 v5 v6 v7 : Value) :
    Blk ((((((((w.setCell ⟨g, 0, none⟩ v0).setCell ⟨g, 1, none⟩ v1).setCell ⟨g, 2, none⟩ v2).setCell ⟨g, 3, none⟩ v3).setCell ⟨g, 4, none⟩ v4).setCell ⟨g, 5, none⟩ v5).setCell ⟨g, 6, none⟩ v6).setCell ⟨g, 7, none⟩ v7) g t [v0, v1, v2, v3, v4, v5, v6, v7] ∧
    Below B w0 ((((((((w.setCell ⟨g, 0, none⟩ v0).setCell ⟨g, 1, none⟩ v1).setCell ⟨g, 2, none⟩ v2).setCell ⟨g, 3, none⟩ v3).setCell ⟨g, 4, none⟩ v4).setCell ⟨g, 5, none⟩ v5).setCell ⟨g, 6, none⟩ v6).setCell ⟨g, 7, none⟩ v7) := by
  refine ⟨?_, ?_⟩
  · have := (((((((h.set 0 v0).set 1 v1).set 2 v2).set 3 v3).set 4 v4).set 5 v5).set 6 v6).set 7 v7
    match cs, hl with
    | [c0, c1, c2, c3, c4, c5, c6, c7], _ => exact this
  · exact (((((((hb.setCell (p := ⟨g, 0, none⟩) hg _).setCell (p := ⟨g, 1, none⟩) hg _).setCell (p := ⟨g, 2, none⟩) hg _).setCell (p := ⟨g, 3, none⟩) hg _).setCell (p := ⟨g, 4, none⟩) hg _).setCell (p := ⟨g, 5, none⟩) hg _).setCell (p := ⟨g, 6, none⟩) hg _).setCell (p := ⟨g, 7, none⟩) hg _

/-- Eight stores into another block. -/
theorem keep8 {w : World} {g k : Nat} {t : TypeId} {cs : List Value} (h : Blk w k t cs) (hk : k ≠ g) (v0 v1 v2 v3 v4 v5 v6 v7 : Value) :
    Blk ((((((((w.setCell ⟨g, 0, none⟩ v0).setCell ⟨g, 1, none⟩ v1).setCell ⟨g, 2, none⟩ v2).setCell ⟨g, 3, none⟩ v3).setCell ⟨g, 4, none⟩ v4).setCell ⟨g, 5, none⟩ v5).setCell ⟨g, 6, none⟩ v6).setCell ⟨g, 7, none⟩ v7) k t cs :=
  (((((((h.other ⟨g, 0, none⟩ v0 hk).other ⟨g, 1, none⟩ v1 hk).other ⟨g, 2, none⟩ v2 hk).other ⟨g, 3, none⟩ v3 hk).other ⟨g, 4, none⟩ v4 hk).other ⟨g, 5, none⟩ v5 hk).other ⟨g, 6, none⟩ v6 hk).other ⟨g, 7, none⟩ v7 hk

end Go.Proofs.YthjikbhjciphiaaGreatDoor

/-
  SHA-256 over UInt32: turning, one turn, a block's 64 numbers, a block, a digest. No program stands here.
-/
namespace Go.Proofs.YthjikbhjciphiaaGreatDoor
open Go.RowKit
set_option linter.unusedVariables false
set_option linter.unusedSimpArgs false

/-- A number of 32 bits as the model's number: a word of its own, so that no rule on 'toNat' strikes within. -/
def uN (x : UInt32) : Int := ((x.toNat : Nat) : Int)
theorem uN_lo (x : UInt32) : 0 ≤ uN x := Int.natCast_nonneg _
theorem uN_hi (x : UInt32) : uN x < 4294967296 := by have := x.toNat_lt; unfold uN; omega
/-- A number of 32 bits as a cell. -/
def uv (x : UInt32) : Value := .int .u32 (uN x)

theorem uvs_one (l : List UInt32) : ∀ u ∈ l.map uv, u.oneCell' = true := by
  intro u hu
  obtain ⟨b, _, rfl⟩ := List.mem_map.1 hu
  rfl

theorem uv_at (l : List UInt32) {k : Nat} (h : k < l.length) : (l.map uv)[k]? = some (.int .u32 (uN (l.getD k 0))) := by
  rw [List.getElem?_map, List.getElem?_eq_getElem h, List.getD_eq_getElem?_getD, List.getElem?_eq_getElem h]
  rfl

/-- x turned right by k bits. -/
def rotr (x : UInt32) (k : Nat) : UInt32 := UInt32.ofNat (x.toNat / 2 ^ k ||| x.toNat * 2 ^ (32 - k))
def shr (x : UInt32) (k : Nat) : UInt32 := UInt32.ofNat (x.toNat / 2 ^ k)

def kList : List Nat := [
  0x428a2f98, 0x71374491, 0xb5c0fbcf, 0xe9b5dba5, 0x3956c25b, 0x59f111f1, 0x923f82a4, 0xab1c5ed5,
  0xd807aa98, 0x12835b01, 0x243185be, 0x550c7dc3, 0x72be5d74, 0x80deb1fe, 0x9bdc06a7, 0xc19bf174,
  0xe49b69c1, 0xefbe4786, 0x0fc19dc6, 0x240ca1cc, 0x2de92c6f, 0x4a7484aa, 0x5cb0a9dc, 0x76f988da,
  0x983e5152, 0xa831c66d, 0xb00327c8, 0xbf597fc7, 0xc6e00bf3, 0xd5a79147, 0x06ca6351, 0x14292967,
  0x27b70a85, 0x2e1b2138, 0x4d2c6dfc, 0x53380d13, 0x650a7354, 0x766a0abb, 0x81c2c92e, 0x92722c85,
  0xa2bfe8a1, 0xa81a664b, 0xc24b8b70, 0xc76c51a3, 0xd192e819, 0xd6990624, 0xf40e3585, 0x106aa070,
  0x19a4c116, 0x1e376c08, 0x2748774c, 0x34b0bcb5, 0x391c0cb3, 0x4ed8aa4a, 0x5b9cca4f, 0x682e6ff3,
  0x748f82ee, 0x78a5636f, 0x84c87814, 0x8cc70208, 0x90befffa, 0xa4506ceb, 0xbef9a3f7, 0xc67178f2]
/-- The constant of turn i. -/
def kc (i : Nat) : UInt32 := UInt32.ofNat (kList.getD i 0)

/-- All of them. -/
def kcL : List UInt32 := kList.map UInt32.ofNat
theorem kcL_len : kcL.length = 64 := rfl
theorem kcL_at (k : Nat) : kcL.getD k 0 = kc k := by
  unfold kcL kc
  rw [List.getD_eq_getElem?_getD, List.getD_eq_getElem?_getD, List.getElem?_map]
  cases kList[k]? <;> rfl

/-- A state. -/
structure St where
  a : UInt32
  b : UInt32
  c : UInt32
  d : UInt32
  e : UInt32
  f : UInt32
  g : UInt32
  h : UInt32

def St.v (s : St) : Value := .agg #[uv s.a, uv s.b, uv s.c, uv s.d, uv s.e, uv s.f, uv s.g, uv s.h]
/-- Its eight numbers. -/
def St.l (s : St) : List UInt32 := [s.a, s.b, s.c, s.d, s.e, s.f, s.g, s.h]
theorem St.v_l (s : St) : s.v = .agg (s.l.map uv).toArray := rfl
/-- The first list where the first k numbers of the second have been added. -/
def addK (sl tl : List UInt32) : Nat → List UInt32
  | 0 => sl
  | k + 1 => (addK sl tl k).set k ((addK sl tl k).getD k 0 + tl.getD k 0)
theorem addK_len (sl tl : List UInt32) (k : Nat) : (addK sl tl k).length = sl.length := by
  induction k with
  | zero => rfl
  | succ k ih => rw [addK, List.length_set, ih]
def st0 : St := ⟨0x6a09e667, 0xbb67ae85, 0x3c6ef372, 0xa54ff53a, 0x510e527f, 0x9b05688c, 0x1f83d9ab, 0x5be0cd19⟩

def st00 : St := ⟨0, 0, 0, 0, 0, 0, 0, 0⟩

def bs1 (e : UInt32) : UInt32 := rotr e 6 ^^^ rotr e 11 ^^^ rotr e 25
def bs0 (a : UInt32) : UInt32 := rotr a 2 ^^^ rotr a 13 ^^^ rotr a 22
def ss0 (x : UInt32) : UInt32 := rotr x 7 ^^^ rotr x 18 ^^^ shr x 3
def ss1 (y : UInt32) : UInt32 := rotr y 17 ^^^ rotr y 19 ^^^ shr y 10
def chF (e f g : UInt32) : UInt32 := (e &&& f) ^^^ ((4294967295 ^^^ e) &&& g)
def majF (a b c : UInt32) : UInt32 := (a &&& b) ^^^ (a &&& c) ^^^ (b &&& c)
/-- One turn, n the constant and the block's number together. -/
def turnT (s : St) (n : UInt32) : UInt32 := s.h + bs1 s.e + chF s.e s.f s.g + n
def turnS (s : St) (n : UInt32) : St :=
  ⟨turnT s n + (bs0 s.a + majF s.a s.b s.c), s.a, s.b, s.c, s.d + turnT s n, s.e, s.f, s.g⟩
def addS (s t : St) : St := ⟨s.a + t.a, s.b + t.b, s.c + t.c, s.d + t.d, s.e + t.e, s.f + t.f, s.g + t.g, s.h + t.h⟩

theorem addK_8 (s t : St) : addK s.l t.l 8 = (addS s t).l := rfl

theorem addS_comm (s t : St) : addS s t = addS t s := by
  unfold addS
  rw [UInt32.add_comm s.a, UInt32.add_comm s.b, UInt32.add_comm s.c, UInt32.add_comm s.d, UInt32.add_comm s.e, UInt32.add_comm s.f, UInt32.add_comm s.g, UInt32.add_comm s.h]

/-- The number of four bytes, the highest first. -/
def be4 (b : List UInt8) (i : Nat) : UInt32 :=
  UInt32.ofNat ((b.getD (4 * i) 0).toNat * 16777216 + (b.getD (4 * i + 1) 0).toNat * 65536 + (b.getD (4 * i + 2) 0).toNat * 256 + (b.getD (4 * i + 3) 0).toNat)
/-- The block's number i, from those ahead of it. -/
def wNext (w : List UInt32) (i : Nat) : UInt32 := w.getD (i - 16) 0 + ss0 (w.getD (i - 15) 0) + w.getD (i - 7) 0 + ss1 (w.getD (i - 2) 0)
/-- The table of 64 when the first i numbers stand. -/
def tab (b : List UInt8) : Nat → List UInt32
  | 0 => List.replicate 64 0
  | i + 1 => (tab b i).set i (if i < 16 then be4 b i else wNext (tab b i) i)
theorem tab_len (b : List UInt8) (i : Nat) : (tab b i).length = 64 := by
  induction i with
  | zero => rfl
  | succ i ih => rw [tab, List.length_set, ih]

/-- The state behind k turns. -/
def turns (w : List UInt32) (s : St) : Nat → St
  | 0 => s
  | k + 1 => turnS (turns w s k) (kc k + w.getD k 0)
/-- The state behind a block. -/
def blockS (s : St) (b : List UInt8) : St := addS s (turns (tab b 64) s 64)

/-- The constants lie in the first block. -/
def CK (W : World) : Prop := ∀ k, k < 64 → W.cell? ⟨0, k, none⟩ = some (.int .u32 (uN (kc k)))
theorem CK.pos {W : World} (h : CK W) : 0 < W.heap.size := World.block_lt_of_cell? W _ (h 0 (by decide))
theorem CK.below {B : Nat} {W W' : World} (h : CK W) (hb : Below B W W') (hB : 0 < B) : CK W' := fun k hk => (hb.cell (p := ⟨0, k, none⟩) hB).trans (h k hk)
theorem CK.alloc {W : World} (h : CK W) (o : Obj) : CK (W.alloc o) := fun k hk => (World.cell?_alloc_lt W o ⟨0, k, none⟩ h.pos).trans (h k hk)
theorem CK.drewN {W : World} (h : CK W) (k : Nat) : CK (W.drewN k) := h

end Go.Proofs.YthjikbhjciphiaaGreatDoor
