/-
  Walks of the library's Frexp and TrailingZeros64, and of real.Parts.
-/
import Derived.Test.YtgococpbhbcpmaaGreatDoorZz14
import Derived.Test.YtgococpbhbcpmaaGreatDoorZz13
import Derived.Laws.Externs
import Derived.Test.YtgococpbhbcpmaaGreatDoorZz11
namespace Go.Proofs.YtgococpbhbcpmaaGreatDoor
open Go.RowKit
set_option linter.unusedVariables false
set_option linter.unusedSimpArgs false

theorem and_abs (b : Nat) (h : b < 9223372036854775808) : bits .andNot .u64 (b : Int) 9223372036854775808 = (b : Int) := by
  have h1 := u64_andNot_nat b 9223372036854775808 (by omega) (by decide)
  have h2 : b &&& (18446744073709551615 - 9223372036854775808) = b := by
    rw [show (18446744073709551615 - 9223372036854775808 : Nat) = 2 ^ 63 - 1 by decide, Nat.and_two_pow_sub_one_eq_mod]
    exact Nat.mod_eq_of_lt h
  rw [h2] at h1
  exact h1

theorem and_frac (w : Nat) (h : w < 9223372036854775808) : bits .andNot .u64 (w : Int) 9218868437227405312 = ((w % 4503599627370496 : Nat) : Int) := by
  have h1 := u64_andNot_nat w 9218868437227405312 (by omega) (by decide)
  have h2 : w &&& (18446744073709551615 - 9218868437227405312) = w % 4503599627370496 := by
    have e1 : (18446744073709551615 - 9218868437227405312 : Nat) = 2 ^ 63 ||| (2 ^ 52 - 1) := by decide
    rw [e1, Nat.and_or_distrib_left, Nat.and_two_pow_sub_one_eq_mod]
    have e2 : w &&& 2 ^ 63 = 0 := by
      apply Nat.eq_of_testBit_eq
      intro i
      rw [Nat.testBit_and, Nat.zero_testBit, Nat.testBit_two_pow]
      by_cases hi : 63 = i
      · subst hi
        rw [Nat.testBit_lt_two_pow (show w < 2 ^ 63 from h)]
        rfl
      · simp [hi]
    rw [e2, Nat.zero_or]
  rw [h2] at h1
  exact h1

theorem or_half (f : Nat) (h : f < 4503599627370496) : bits .or .u64 (f : Int) 4602678819172646912 = ((4602678819172646912 + f : Nat) : Int) := by
  have h1 := u64_or_nat f 4602678819172646912 (by omega) (by decide)
  have h2 := Nat.two_pow_add_eq_or_of_lt (i := 52) (show f < 2 ^ 52 from h) 1022
  rw [show (2 ^ 52 * 1022 : Nat) = 4602678819172646912 by decide] at h2
  rw [Nat.or_comm, ← h2] at h1
  exact h1

theorem and_exp (x : Nat) (h : x < 2048) : bits .and .u64 (x : Int) 2047 = (x : Int) := by
  have h1 := u64_and_nat x 2047 (by omega) (by decide)
  have h2 : x &&& 2047 = x := by
    rw [show (2047 : Nat) = 2 ^ 11 - 1 by decide, Nat.and_two_pow_sub_one_eq_mod]
    exact Nat.mod_eq_of_lt h
  rw [h2] at h1
  exact h1

theorem abs_any (b : Nat) (h : b < 9223372036854775808) (W : World) :
    Calls Tryz.prog 133 #[.float .f64 b] W fun e W' => e = .returned (.float .f64 b) ∧ W = W' := by
  have h1 := and_abs b h
  go_enter Tryz.func133, Tryz.ntmps133
  go_wp2
  go_ret
  exact ⟨rfl, rfl⟩

theorem isInf_zero (b : Nat) (h : b < 9223372036854775808) (W : World) (q : Bool) (hq : (FloatKind.f64.format.order b 9218868437227405311 == some .gt) = q) :
    Calls Tryz.prog 129 #[.float .f64 b, .int .i64 0] W fun e W' => e = .returned (.bool q) ∧ W = W' := by
  go_enter Tryz.func129, Tryz.ntmps129
  go_wp2_with (go_at_call 133; refine (abs_any b h _).mono ?_; rintro e w' ⟨rfl, rfl⟩)
  go_ret
  exact ⟨rfl, rfl⟩

theorem normalize_big (b : Nat) (h : b < 9223372036854775808) (hq : (FloatKind.f64.format.order b 4503599627370496 == some .lt) = false) (W : World) :
    Calls Tryz.prog 135 #[.float .f64 b] W fun e W' => e = .returned (.tuple #[.float .f64 b, .int .i64 0]) ∧ W = W' := by
  go_enter Tryz.func135, Tryz.ntmps135
  go_wp2_with (go_at_call 133; refine (abs_any b h _).mono ?_; rintro e w' ⟨rfl, rfl⟩)
  go_ret2
  exact ⟨rfl, rfl⟩

theorem normalize_small (b : Nat) (h : b < 9223372036854775808) (hq : (FloatKind.f64.format.order b 4503599627370496 == some .lt) = true)
    (v : Nat) (hv : floatBits .mul .f64 b 4841369599423283200 = some v) (W : World) :
    Calls Tryz.prog 135 #[.float .f64 b] W fun e W' => e = .returned (.tuple #[.float .f64 v, .int .i64 (-52)]) ∧ W = W' := by
  have r1 : ∀ W : World, (binOp .mul 155 (.float .f64 b) (.float .f64 4841369599423283200)).run Tryz.prog W = .ok (.float .f64 v) W := fun W => run_float_arith W .mul 155 .f64 b 4841369599423283200 v hv
  clear hv
  go_enter Tryz.func135, Tryz.ntmps135
  go_wp2_with (go_at_call 133; refine (abs_any b h _).mono ?_; rintro e w' ⟨rfl, rfl⟩)
  go_ret2
  exact ⟨rfl, rfl⟩

/-- What the library's frexp gives, out of what normalize does. -/
theorem frexp_of (b v x f : Nat) (d : Int) (h : b < 9223372036854775808) (hv : v < 9223372036854775808) (hd0 : -52 ≤ d) (hd : d ≤ 0)
    (f1 : (FloatKind.f64.format.order b b != some .eq) = false) (f2 : (FloatKind.f64.format.order b 0 == some .eq) = false) (f3 : (FloatKind.f64.format.order b 9218868437227405311 == some .gt) = false)
    (cn : ∀ W, Calls Tryz.prog 135 #[.float .f64 b] W fun e W' => e = .returned (.tuple #[.float .f64 v, .int .i64 d]) ∧ W = W')
    (hx : v / 4503599627370496 = x) (hf : v % 4503599627370496 = f) (W : World) :
    Calls Tryz.prog 132 #[.float .f64 b] W fun e W' => e = .returned (.tuple #[.float .f64 (4602678819172646912 + f), .int .i64 (d + ((x : Int) - 1022))]) ∧ W = W' := by
  have c1 := fun W => isNaN_any b W false f1
  have c2 := fun W => isInf_zero b h W false f3
  have a1 := and_frac v hv
  have a2 := or_half f (by omega)
  have a3 := and_exp x (by omega)
  have a4 : (v : Int) / 4503599627370496 = (x : Int) := by omega
  have a5 : (x : Int) < 2048 := by omega
  rw [hf] at a1
  obtain ⟨u, hu⟩ : ∃ u, u = 4602678819172646912 + f := ⟨_, rfl⟩
  rw [← hu] at a2 ⊢
  have HU := Lib.hid hu
  have a6 : (x : Int) - 1023 + 1 = (x : Int) - 1022 := by omega
  rw [← a6]
  clear f1 f3 hx hf hu a6 h hv
  go_enter Tryz.func132, Tryz.ntmps132
  go_wp2_with (first | (go_at_call 128; refine (c1 _).mono ?_; rintro e w' ⟨rfl, rfl⟩) | (go_at_call 129; refine (c2 _).mono ?_; rintro e w' ⟨rfl, rfl⟩) | (go_at_call 135; refine (cn _).mono ?_; rintro e w' ⟨rfl, rfl⟩))
  go_ret2
  exact ⟨rfl, rfl⟩

theorem frexp_any (b u : Nat) (x : Int) (W : World)
    (c : ∀ W, Calls Tryz.prog 132 #[.float .f64 b] W fun e W' => e = .returned (.tuple #[.float .f64 u, .int .i64 x]) ∧ W = W') :
    Calls Tryz.prog 125 #[.float .f64 b] W fun e W' => e = .returned (.tuple #[.float .f64 u, .int .i64 x]) ∧ W = W' := by
  go_enter Tryz.func125, Tryz.ntmps125
  go_wp2_with (go_at_call 132; refine (c _).mono ?_; rintro e w' ⟨rfl, rfl⟩)
  go_ret2
  exact ⟨rfl, rfl⟩

/-- The table of the library's TrailingZeros64 in its variable. -/
def DK (W : World) : Prop := ∀ k, k < 64 → W.cell? ⟨5, k, none⟩ = some (.int .u8 (Lib.deBruijn64tab.getD k 0 : Nat))

theorem tz64_key (x a : Nat) (hx : x < 18446744073709551616) (hx0 : x ≠ 0) (hlow : x &&& (18446744073709551616 - x) = a) :
    IntKind.u64.wrap (bits BinOp.and IntKind.u64 (x : Int) (IntKind.u64.wrap (-(x : Int))) * 285870213051353865) / 288230376151711744 = ((a * 285870213051353865 % 18446744073709551616 / 288230376151711744 : Nat) : Int) := by
  have e1 : IntKind.u64.wrap (-(x : Int)) = ((18446744073709551616 - x : Nat) : Int) := by rw [IntKind.wrap_u64]; omega
  rw [e1, u64_and_nat x _ hx (by omega), hlow, IntKind.wrap_u64]
  omega

theorem tz64_core (x k idx : Nat) (w : World) (hx0 : ((x : Int) == 0) = false)
    (key : IntKind.u64.wrap (bits BinOp.and IntKind.u64 (x : Int) (IntKind.u64.wrap (-(x : Int))) * 285870213051353865) / 288230376151711744 = (idx : Int))
    (hi : idx < 64) (hk : k < 64) (hcell : w.cell? ⟨5, idx, none⟩ = some (.int .u8 k)) :
    Calls Tryz.prog 123 #[.int .u64 x] w fun e w' => e = .returned (.int .i64 k) ∧ w = w' := by
  go_enter Tryz.func123, Tryz.ntmps123
  go_wp2_with (simp only [key])
  go_ret
  exact ⟨rfl, rfl⟩

theorem tz64_any (x : Nat) (hx : x < 18446744073709551616) (hx0 : x ≠ 0) (w : World) (hT : DK w) :
    Calls Tryz.prog 123 #[.int .u64 x] w fun e w' => e = .returned (.int .i64 (Lib.ctz 64 x : Nat)) ∧ w = w' := by
  obtain ⟨hlow, hk⟩ := Lib.lowest_bit 64 x hx0 hx
  obtain ⟨hi, htab⟩ := Lib.deBruijn64_at _ hk
  have hc := hT _ hi
  rw [htab] at hc
  exact tz64_core x _ _ w (by simp; omega) (tz64_key x _ hx hx0 hlow) hi hk hc

/-- real.Parts of what is above 0, out of what its calls tell. -/
theorem parts_of (b u f v z r : Nat) (x s : Int) (W : World) (hf : f < 4503599627370496) (hx0 : -1200 ≤ x) (hx : x ≤ 1200) (hz : z < 64)
    (cc : ∀ W, Calls Tryz.prog 124 #[.int .u64 b] W fun e W' => e = .returned (.int .i64 5) ∧ W = W')
    (cf : ∀ W, Calls Tryz.prog 125 #[.float .f64 b] W fun e W' => e = .returned (.tuple #[.float .f64 u, .int .i64 x]) ∧ W = W')
    (hv : floatBits .mul .f64 u 4845873199050653696 = some v) (hk : floatToIntVal .f64 v .u64 = some ((4503599627370496 + f : Nat) : Int))
    (ct : Calls Tryz.prog 123 #[.int .u64 ((4503599627370496 + f : Nat) : Int)] W fun e w' => e = .returned (.int .i64 (z : Nat)) ∧ W = w')
    (hr : (4503599627370496 + f) / 2 ^ z = r) (hs : x - 53 + (z : Int) = s) :
    Calls Tryz.prog 118 #[.int .u64 b] W fun e W' => e = .returned (.tuple #[.int .u64 r, .int .i64 s, .bool true]) ∧ W = W' := by
  obtain ⟨m, hm⟩ : ∃ m, m = 4503599627370496 + f := ⟨_, rfl⟩
  rw [← hm] at hk ct hr
  have hm2 : m < 9007199254740992 := by omega
  have r1 : ∀ W : World, (binOp .mul 155 (.float .f64 u) (.float .f64 4845873199050653696)).run Tryz.prog W = .ok (.float .f64 v) W := fun W => run_float_arith W .mul 155 .f64 u 4845873199050653696 v hv
  have r2 : ∀ W : World, (convert 155 23 (.float .f64 v)).run Tryz.prog W = .ok (.int .u64 m) W := fun W => run_convert_float_int W 155 23 .f64 .u64 v m (by kernel_rfl) Tryz.underlying23 hk
  have hr2 : (m : Int) / 2 ^ z = (r : Int) := by rw [int_div_pow, hr]
  subst hs
  clear hv hk hr hm hf
  go_enter Tryz.func118, Tryz.ntmps118
  go_wp2_with (first | (go_at_call 124; refine (cc _).mono ?_; rintro e w' ⟨rfl, rfl⟩) | (go_at_call 125; refine (cf _).mono ?_; rintro e w' ⟨rfl, rfl⟩) | (go_at_call 123; refine ct.mono ?_; rintro e w' ⟨rfl, rfl⟩))
  go_ret3
  exact ⟨rfl, rfl⟩

/-- Frexp's number by 2 to the power of 53, its power, and what they are of the odd part. -/
theorem frexp_says (b : Nat) (h0 : 0 < b) (hb : b < 9218868437227405312) :
    ∃ (f : Nat) (x : Int), f < 4503599627370496 ∧ -1200 ≤ x ∧ x ≤ 1200 ∧ (4503599627370496 + f) / 2 ^ Lib.ctz 64 (4503599627370496 + f) = od b ∧ x - 53 + ((Lib.ctz 64 (4503599627370496 + f) : Nat) : Int) = -1074 + ((ex b + tz b : Nat) : Int) ∧
      (∀ W, Calls Tryz.prog 125 #[.float .f64 b] W fun e W' => e = .returned (.tuple #[.float .f64 (4602678819172646912 + f), .int .i64 x]) ∧ W = W') := by
  have hc : cls b ≠ 0 := by unfold cls; rw [if_pos (by omega), if_neg (by omega), if_pos hb]; decide
  have f1 : (FloatKind.f64.format.order b b != some .eq) = false := by rw [fmt64, order_self b (by omega) hc]; rfl
  have f2 : (FloatKind.f64.format.order b 0 == some .eq) = false := by rw [fmt64, order_pp b 0 hb (by decide), Nat.compare_eq_gt.2 (by omega)]; rfl
  have f3 : (FloatKind.f64.format.order b 9218868437227405311 == some .gt) = false := by
    rw [fmt64, order_pp b _ hb (by decide)]
    have : compare b 9218868437227405311 ≠ .gt := by rw [Ne, Nat.compare_eq_gt]; omega
    simp [this]
  obtain ⟨m1, m2, m3⟩ := od_spec b h0
  by_cases hs : b < 4503599627370496
  · have f4 : (FloatKind.f64.format.order b 4503599627370496 == some .lt) = true := by rw [fmt64, order_pp b _ hb (by decide), Nat.compare_eq_lt.2 hs]; rfl
    obtain ⟨hl, z1, z2⟩ := sub_field b h0 hs
    have hv : floatBits .mul .f64 b 4841369599423283200 = some ((0 + b.log2) * 4503599627370496 + b * 2 ^ (52 - b.log2)) := mul_sub b _ 0 h0 hs (by omega) c52
    obtain ⟨hm, hex⟩ := mg_small b (by omega)
    have hctz : Lib.ctz 64 (b * 2 ^ (52 - b.log2)) = tz b + (52 - b.log2) := by
      obtain ⟨k, k1, _⟩ := ctz_spec (b * 2 ^ (52 - b.log2)) (by omega) (by omega)
      obtain ⟨j, j1, _⟩ := ctz_spec b h0 (by omega)
      have ej : tz b = Lib.ctz 64 b := by unfold tz; rw [hm]
      rw [ej]
      refine pow_unique (m := k) (n := j) ?_
      rw [← k1, Nat.pow_add, Nat.mul_right_comm, ← j1]
    obtain ⟨L, hL⟩ : ∃ L, L = b.log2 := ⟨_, rfl⟩
    obtain ⟨z, hz⟩ : ∃ z, z = b * 2 ^ (52 - L) := ⟨_, rfl⟩
    rw [← hL] at hl z1 z2 hv hctz
    rw [← hz] at z1 z2 hv hctz
    obtain ⟨f, hf⟩ : ∃ f, z = 4503599627370496 + f := ⟨z - 4503599627370496, by omega⟩
    refine ⟨f, -52 + (((L + 1 : Nat) : Int) - 1022), by omega, by omega, by omega, ?_, ?_, ?_⟩
    · rw [← hf, hctz, Nat.pow_add, hz, Nat.mul_div_mul_right _ _ (Nat.two_pow_pos _)]
      unfold od
      rw [hm]
    · rw [← hf, hctz, hex]
      omega
    · intro W
      refine frexp_any b _ _ W fun W => ?_
      exact frexp_of b _ (L + 1) f (-52) (by omega) (by omega) (by omega) (by omega) f1 f2 f3 (fun W => normalize_small b (by omega) f4 _ hv W) (by omega) (by omega) W
  · have f4 : (FloatKind.f64.format.order b 4503599627370496 == some .lt) = false := by
      rw [fmt64, order_pp b _ hb (by decide)]
      have : compare b 4503599627370496 ≠ .lt := by rw [Ne, Nat.compare_eq_lt]; omega
      simp [this]
    have hm : mg b = 4503599627370496 + b % 4503599627370496 := by unfold mg; rw [if_neg hs]
    have hex : ex b + 1 = b / 4503599627370496 := by unfold ex; omega
    refine ⟨b % 4503599627370496, 0 + (((b / 4503599627370496 : Nat) : Int) - 1022), by omega, by omega, by omega, ?_, ?_, ?_⟩
    · rw [← hm]
      rfl
    · rw [← hm, ← hex]
      show _ - 53 + ((tz b : Nat) : Int) = _
      omega
    · intro W
      refine frexp_any b _ _ W fun W => ?_
      exact frexp_of b b _ _ 0 (by omega) (by omega) (by omega) (by omega) f1 f2 f3 (fun W => normalize_big b (by omega) f4 W) rfl rfl W

theorem parts_yes (b : Nat) (h0 : 0 < b) (hb : b < 9218868437227405312) (h5 : cls b = 5) (W : World) (hT : DK W) :
    Calls Tryz.prog 118 #[.int .u64 b] W fun e W' => e = .returned (.tuple #[.int .u64 (od b : Nat), .int .i64 (-1074 + ((ex b + tz b : Nat) : Int)), .bool true]) ∧ W = W' := by
  obtain ⟨f, x, hf, hx0, hx, hr, hs, cf⟩ := frexp_says b h0 hb
  obtain ⟨v, hv, hw⟩ := mul53_half f hf
  have cc := fun W => class_any b (by omega) W
  rw [h5] at cc
  have hct := (Lib.lowest_bit 64 (4503599627370496 + f) (by omega) (by omega)).2
  refine parts_of b _ f v _ _ x _ W hf hx0 hx hct cc cf hv ?_ (tz64_any _ (by omega) (by omega) W hT) hr hs
  unfold floatToIntVal
  rw [show FloatKind.decode .f64 v = Ieee.double.read v from rfl, hw]
  have hmin : IntKind.u64.min = 0 := rfl
  have hmax : IntKind.u64.max = 18446744073709551615 := rfl
  simp only [hmin, hmax]
  rw [if_pos (by omega)]

theorem parts_no (b c : Nat) (W : World) (q : Bool) (cc : ∀ W, Calls Tryz.prog 124 #[.int .u64 b] W fun e W' => e = .returned (.int .i64 (c : Nat)) ∧ W = W')
    (hc : ((c = 3 ∨ c = 4) ∧ q = true) ∨ ((c = 0 ∨ c = 1 ∨ c = 2 ∨ c = 6) ∧ q = false)) :
    Calls Tryz.prog 118 #[.int .u64 b] W fun e W' => e = .returned (.tuple #[.int .u64 0, .int .i64 0, .bool q]) ∧ W = W' := by
  rcases hc with ⟨rfl | rfl, rfl⟩ | ⟨rfl | rfl | rfl | rfl, rfl⟩
  all_goals
    go_enter Tryz.func118, Tryz.ntmps118
    go_wp2_with (go_at_call 124; refine (cc _).mono ?_; rintro e w' ⟨rfl, rfl⟩)
    go_ret3
    exact ⟨rfl, rfl⟩

end Go.Proofs.YtgococpbhbcpmaaGreatDoor

/-
  Walks of package price: divided, product, Due, Check, Over, Add.
-/
namespace Go.Proofs.YtgococpbhbcpmaaGreatDoor
open Go.RowKit
set_option linter.unusedVariables false
set_option linter.unusedSimpArgs false

theorem min_div (h j : Nat) (hh : h < 18446744073709551616) : (h : Int) / 2 ^ min j 64 = ((h / 2 ^ j : Nat) : Int) := by
  rw [int_div_pow]
  by_cases h64 : j ≤ 64
  · rw [Nat.min_eq_left h64]
  · rw [Nat.min_eq_right (by omega), Nat.div_eq_of_lt hh, Nat.div_eq_of_lt (Nat.lt_of_lt_of_le hh (Nat.pow_le_pow_right (by decide) (by omega) : 2 ^ 64 ≤ 2 ^ j))]

end Go.Proofs.YtgococpbhbcpmaaGreatDoor

/-
  Walks of package price: Due, Check, Over, Add; the parts of any number; the reference's Add.
-/
namespace Go.Proofs.YtgococpbhbcpmaaGreatDoor
open Go.RowKit
set_option linter.unusedVariables false
set_option linter.unusedSimpArgs false

theorem parts_any (b : Nat) (hb : b < 18446744073709551616) (W : World) (hT : DK W) :
    Calls Tryz.prog 118 #[.int .u64 b] W fun e W' => e = .returned (.tuple #[.int .u64 (partsM b : Nat), .int .i64 (partsE b), .bool (partsIs b)]) ∧ W = W' := by
  obtain ⟨s0, s1, s2, s3, s4, s5, s6⟩ := cls_says b hb
  by_cases h5 : cls b = 5
  · obtain ⟨g0, g1⟩ := s5 h5
    unfold partsM partsE partsIs
    rw [if_pos h5, if_pos h5, decide_eq_true (.inr (.inr h5))]
    exact parts_yes b g0 g1 h5 W hT
  · unfold partsM partsE partsIs
    rw [if_neg h5, if_neg h5]
    by_cases h34 : cls b = 3 ∨ cls b = 4
    · rw [decide_eq_true (by omega)]
      exact parts_no b (cls b) W true (class_any b hb) (.inl ⟨h34, rfl⟩)
    · rw [decide_eq_false (by omega)]
      exact parts_no b (cls b) W false (class_any b hb) (.inr ⟨by rcases cls_le b with h | h | h | h | h | h | h <;> omega, rfl⟩)

theorem partsM_lt (b : Nat) (hb : b < 18446744073709551616) : partsM b < 9007199254740992 := by
  obtain ⟨s0, s1, s2, s3, s4, s5, s6⟩ := cls_says b hb
  unfold partsM
  split
  · exact Nat.lt_of_le_of_lt (Nat.div_le_self _ _) (mg_lt b)
  · decide

theorem partsE_in (b : Nat) (hb : b < 18446744073709551616) : -1074 ≤ partsE b ∧ partsE b ≤ 2000 := by
  obtain ⟨s0, s1, s2, s3, s4, s5, s6⟩ := cls_says b hb
  unfold partsE
  split
  · rename_i h
    obtain ⟨g0, g1⟩ := s5 h
    have h1 := (od_spec b g0).2.2
    have h2 : ex b ≤ 2045 := by unfold ex; omega
    omega
  · omega

theorem due_parts (n b : Nat) : capM (scale (n * partsM b) (partsE b)) = dueV n b := by
  unfold partsM partsE dueV
  by_cases h : cls b = 5
  · rw [if_pos h, if_pos h, if_pos h]
  · rw [if_neg h, if_neg h, if_neg h]
    unfold scale
    rw [if_pos (by omega), Nat.mul_zero, Nat.zero_mul]
    rfl

theorem check_yes (b : Nat) (hb : b < 18446744073709551616) (hq : partsIs b = true) (W : World) (hT : DK W) :
    Calls Tryz.prog 98 #[.int .u64 b] W fun e W' => e = .returned (.tuple #[.int .u64 (canonV b : Nat), .int .i64 0]) ∧ W = W' := by
  have cp := parts_any b hb W hT
  rw [hq] at cp
  have hm := partsM_lt b hb
  obtain ⟨he0, he1⟩ := partsE_in b hb
  have cc := fun W => canon_any b hb W
  clear hq
  generalize partsM b = m at cp hm
  generalize partsE b = p at cp he0 he1
  generalize canonV b = c at cc ⊢
  go_enter Tryz.func98, Tryz.ntmps98
  go_wp2_with (first | (go_at_call 118; refine cp.mono ?_; rintro e w' ⟨rfl, rfl⟩) | (go_at_call 119; refine (cc _).mono ?_; rintro e w' ⟨rfl, rfl⟩))
  go_ret2
  exact ⟨rfl, rfl⟩

theorem check_no (b : Nat) (hb : b < 18446744073709551616) (hq : partsIs b = false) (W : World) (hT : DK W) :
    Calls Tryz.prog 98 #[.int .u64 b] W fun e W' => e = .returned (.tuple #[.int .u64 0, .int .i64 13]) ∧ W = W' := by
  have cp := parts_any b hb W hT
  rw [hq] at cp
  have hm := partsM_lt b hb
  obtain ⟨he0, he1⟩ := partsE_in b hb
  clear hq
  generalize partsM b = m at cp hm
  generalize partsE b = p at cp he0 he1
  go_enter Tryz.func98, Tryz.ntmps98
  go_wp2_with (go_at_call 118; refine cp.mono ?_; rintro e w' ⟨rfl, rfl⟩)
  go_ret2
  exact ⟨rfl, rfl⟩

/-- Would the sum be too great? -/
def overV (a b : Nat) : Bool := decide (18446744073709551616 ≤ a + b)

end Go.Proofs.YtgococpbhbcpmaaGreatDoor

/-
  The reference's answers: is a text a tenant's, a target's name?
-/
namespace Go.Proofs.YtgococpbhbcpmaaGreatDoor
open Go.RowKit
set_option linter.unusedVariables false
set_option linter.unusedSimpArgs false

set_option maxRecDepth 100000 in
set_option maxHeartbeats 2000000 in
theorem refTenant_any (s : ByteArray) (hs : s.size ≤ 10000) (W : World) :
    Calls Tryz.prog 18 #[.string s] W fun e W' => e = .returned (.bool (tenantB s.data.toList)) ∧ W' = W := by
  have hlen : s.data.toList.length = s.size := by simp
  have HT : Hid (tenantB s.data.toList = (decide (1 ≤ s.size) && decide (s.size ≤ 16) && (allR letR (s.data.toList.take 1) && allR tenR s.data.toList))) := Lib.hid (by unfold tenantB; rw [hlen])
  have hon := fun w => refOnly_any s tenT hs (by decide) w
  rw [allIn_ten] at hon
  clear hlen
  go_enter Tryz.func18, Tryz.ntmps18
  by_cases h1 : 1 ≤ s.size
  · have d1 : decide ((1 : Int) ≤ (s.size : Int)) = true := decide_eq_true (by omega)
    by_cases h16 : s.size ≤ 16
    · have d2 : decide ((s.size : Int) ≤ 16) = true := decide_eq_true (by omega)
      have H2 : Hid (tenantB s.data.toList = (allR letR (s.data.toList.take 1) && allR tenR s.data.toList)) := Lib.hid (by rw [HT.out, decide_eq_true h1, decide_eq_true h16]; rfl)
      have hby := byte_at s 0 h1
      obtain ⟨x, hx⟩ : ∃ x, s[0]'h1 = x := ⟨_, rfl⟩
      rw [hx] at hby
      have hl1 : allR letR (s.data.toList.take 1) = letR ((x.toNat : Nat) : Int) := by
        rw [allR_take letR _ 0 x hby]
        simp [allR]
      rw [hl1] at H2
      clear HT hl1 hby
      go_wp2_with fail
      refine (hon _).mono ?_
      rintro e W1 ⟨rfl, rfl⟩
      cases hq : allR tenR s.data.toList
      · rw [hq, Bool.and_false] at H2
        clear hq hon
        go_wp2_with fail
        go_ret
        exact ⟨by rw [H2.out]; rfl, rfl⟩
      · rw [hq, Bool.and_true] at H2
        clear hq hon
        by_cases h97 : (97 : Int) ≤ ((x.toNat : Nat) : Int)
        · have d3 : decide ((97 : Int) ≤ ((x.toNat : Nat) : Int)) = true := decide_eq_true h97
          go_wp2_with fail
          go_ret
          exact ⟨by rw [H2.out]; simp [letR, h97], rfl⟩
        · have d3 : decide ((97 : Int) ≤ ((x.toNat : Nat) : Int)) = false := decide_eq_false h97
          go_wp2_with fail
          go_ret
          exact ⟨by rw [H2.out]; simp [letR] <;> omega, rfl⟩
    · have d2 : decide ((s.size : Int) ≤ 16) = false := decide_eq_false (by omega)
      have H2 : Hid (tenantB s.data.toList = false) := Lib.hid (by rw [HT.out, decide_eq_false h16, Bool.and_false, Bool.false_and])
      clear HT hon
      go_wp2_with fail
      go_ret
      exact ⟨by rw [H2.out]; rfl, rfl⟩
  · have d1 : decide ((1 : Int) ≤ (s.size : Int)) = false := decide_eq_false (by omega)
    have H2 : Hid (tenantB s.data.toList = false) := Lib.hid (by rw [HT.out, decide_eq_false h1]; rfl)
    clear HT hon
    go_wp2_with fail
    go_ret
    exact ⟨by rw [H2.out]; rfl, rfl⟩

theorem ten_of_tar (z : Int) (h : tarR z = true) : tenR z = (decide (z ≠ 46) && decide (z ≠ 58)) := by
  unfold tarR at h
  cases ht : tenR z
  · rw [ht, Bool.false_or, Bool.or_eq_true, decide_eq_true_eq, decide_eq_true_eq] at h
    rcases h with h | h <;> simp [h]
  · have h1 : z ≠ 46 := by rintro rfl; revert ht; decide
    have h2 : z ≠ 58 := by rintro rfl; revert ht; decide
    simp [h1, h2]

end Go.Proofs.YtgococpbhbcpmaaGreatDoor
