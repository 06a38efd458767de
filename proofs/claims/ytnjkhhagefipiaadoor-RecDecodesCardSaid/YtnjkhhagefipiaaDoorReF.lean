/-
  Walks of the library's Frexp and TrailingZeros64, and of real.Parts.
-/
import Derived.Test.YtnjkhhagefipiaaDoorReD
namespace Go.Proofs.YtnjkhhagefipiaaDoor
open Go.RowKit
set_option linter.unusedVariables false
set_option linter.unusedSimpArgs false

theorem and_abs (b : Nat) (h : b < 9223372036854775808) : bits .andNot .u64 (b : Int) 9223372036854775808 = (b : Int) := by
  have h1 := u64_andNot_nat b 9223372036854775808 (by omega) (by decide)
  have h2 : b &&& (18446744073709551615 - 9223372036854775808) = b := by
    rw [show (18446744073709551615 - 9223372036854775808 : Nat) = 2 ^ 63 - 1 by decide, Nat.and_two_pow_sub_one_eq_mod]
    exact Nat.mod_eq_of_lt h
  rw [h2] at h1
  exact h1

theorem and_frac (w : Nat) (h : w < 9223372036854775808) : bits .andNot .u64 (w : Int) 9218868437227405312 = ((w % 4503599627370496 : Nat) : Int) := by
  have h1 := u64_andNot_nat w 9218868437227405312 (by omega) (by decide)
  have h2 : w &&& (18446744073709551615 - 9218868437227405312) = w % 4503599627370496 := by
    have e1 : (18446744073709551615 - 9218868437227405312 : Nat) = 2 ^ 63 ||| (2 ^ 52 - 1) := by decide
    rw [e1, Nat.and_or_distrib_left, Nat.and_two_pow_sub_one_eq_mod]
    have e2 : w &&& 2 ^ 63 = 0 := by
      apply Nat.eq_of_testBit_eq
      intro i
      rw [Nat.testBit_and, Nat.zero_testBit, Nat.testBit_two_pow]
      by_cases hi : 63 = i
      · subst hi
        rw [Nat.testBit_lt_two_pow (show w < 2 ^ 63 from h)]
        rfl
      · simp [hi]
    rw [e2, Nat.zero_or]
  rw [h2] at h1
  exact h1

theorem or_half (f : Nat) (h : f < 4503599627370496) : bits .or .u64 (f : Int) 4602678819172646912 = ((4602678819172646912 + f : Nat) : Int) := by
  have h1 := u64_or_nat f 4602678819172646912 (by omega) (by decide)
  have h2 := Nat.two_pow_add_eq_or_of_lt (i := 52) (show f < 2 ^ 52 from h) 1022
  rw [show (2 ^ 52 * 1022 : Nat) = 4602678819172646912 by decide] at h2
  rw [Nat.or_comm, ← h2] at h1
  exact h1

theorem and_exp (x : Nat) (h : x < 2048) : bits .and .u64 (x : Int) 2047 = (x : Int) := by
  have h1 := u64_and_nat x 2047 (by omega) (by decide)
  have h2 : x &&& 2047 = x := by
    rw [show (2047 : Nat) = 2 ^ 11 - 1 by decide, Nat.and_two_pow_sub_one_eq_mod]
    exact Nat.mod_eq_of_lt h
  rw [h2] at h1
  exact h1

theorem abs_any (b : Nat) (h : b < 9223372036854775808) (W : World) :
    Calls Tryd.prog 60 #[.float .f64 b] W fun e W' => e = .returned (.float .f64 b) ∧ W = W' := by
  have h1 := and_abs b h
  go_enter Tryd.func60, Tryd.ntmps60
  go_wp2
  go_ret
  exact ⟨rfl, rfl⟩

theorem isInf_zero (b : Nat) (h : b < 9223372036854775808) (W : World) (q : Bool) (hq : (FloatKind.f64.format.order b 9218868437227405311 == some .gt) = q) :
    Calls Tryd.prog 56 #[.float .f64 b, .int .i64 0] W fun e W' => e = .returned (.bool q) ∧ W = W' := by
  go_enter Tryd.func56, Tryd.ntmps56
  go_wp2_with (go_at_call 60; refine (abs_any b h _).mono ?_; rintro e w' ⟨rfl, rfl⟩)
  go_ret
  exact ⟨rfl, rfl⟩

theorem normalize_big (b : Nat) (h : b < 9223372036854775808) (hq : (FloatKind.f64.format.order b 4503599627370496 == some .lt) = false) (W : World) :
    Calls Tryd.prog 62 #[.float .f64 b] W fun e W' => e = .returned (.tuple #[.float .f64 b, .int .i64 0]) ∧ W = W' := by
  go_enter Tryd.func62, Tryd.ntmps62
  go_wp2_with (go_at_call 60; refine (abs_any b h _).mono ?_; rintro e w' ⟨rfl, rfl⟩)
  go_ret2
  exact ⟨rfl, rfl⟩

theorem normalize_small (b : Nat) (h : b < 9223372036854775808) (hq : (FloatKind.f64.format.order b 4503599627370496 == some .lt) = true)
    (v : Nat) (hv : floatBits .mul .f64 b 4841369599423283200 = some v) (W : World) :
    Calls Tryd.prog 62 #[.float .f64 b] W fun e W' => e = .returned (.tuple #[.float .f64 v, .int .i64 (-52)]) ∧ W = W' := by
  have r1 : ∀ W : World, (binOp .mul 79 (.float .f64 b) (.float .f64 4841369599423283200)).run Tryd.prog W = .ok (.float .f64 v) W := fun W => run_float_arith W .mul 79 .f64 b 4841369599423283200 v hv
  clear hv
  go_enter Tryd.func62, Tryd.ntmps62
  go_wp2_with (go_at_call 60; refine (abs_any b h _).mono ?_; rintro e w' ⟨rfl, rfl⟩)
  go_ret2
  exact ⟨rfl, rfl⟩

/-- What the library's frexp gives, out of what normalize does. -/
theorem frexp_of (b v x f : Nat) (d : Int) (h : b < 9223372036854775808) (hv : v < 9223372036854775808) (hd0 : -52 ≤ d) (hd : d ≤ 0)
    (f1 : (FloatKind.f64.format.order b b != some .eq) = false) (f2 : (FloatKind.f64.format.order b 0 == some .eq) = false) (f3 : (FloatKind.f64.format.order b 9218868437227405311 == some .gt) = false)
    (cn : ∀ W, Calls Tryd.prog 62 #[.float .f64 b] W fun e W' => e = .returned (.tuple #[.float .f64 v, .int .i64 d]) ∧ W = W')
    (hx : v / 4503599627370496 = x) (hf : v % 4503599627370496 = f) (W : World) :
    Calls Tryd.prog 59 #[.float .f64 b] W fun e W' => e = .returned (.tuple #[.float .f64 (4602678819172646912 + f), .int .i64 (d + ((x : Int) - 1022))]) ∧ W = W' := by
  have c1 := fun W => isNaN_any b W false f1
  have c2 := fun W => isInf_zero b h W false f3
  have a1 := and_frac v hv
  have a2 := or_half f (by omega)
  have a3 := and_exp x (by omega)
  have a4 : (v : Int) / 4503599627370496 = (x : Int) := by omega
  have a5 : (x : Int) < 2048 := by omega
  rw [hf] at a1
  obtain ⟨u, hu⟩ : ∃ u, u = 4602678819172646912 + f := ⟨_, rfl⟩
  rw [← hu] at a2 ⊢
  have HU := Lib.hid hu
  have a6 : (x : Int) - 1023 + 1 = (x : Int) - 1022 := by omega
  rw [← a6]
  clear f1 f3 hx hf hu a6 h hv
  go_enter Tryd.func59, Tryd.ntmps59
  go_wp2_with (first | (go_at_call 55; refine (c1 _).mono ?_; rintro e w' ⟨rfl, rfl⟩) | (go_at_call 56; refine (c2 _).mono ?_; rintro e w' ⟨rfl, rfl⟩) | (go_at_call 62; refine (cn _).mono ?_; rintro e w' ⟨rfl, rfl⟩))
  go_ret2
  exact ⟨rfl, rfl⟩

theorem frexp_any (b u : Nat) (x : Int) (W : World)
    (c : ∀ W, Calls Tryd.prog 59 #[.float .f64 b] W fun e W' => e = .returned (.tuple #[.float .f64 u, .int .i64 x]) ∧ W = W') :
    Calls Tryd.prog 52 #[.float .f64 b] W fun e W' => e = .returned (.tuple #[.float .f64 u, .int .i64 x]) ∧ W = W' := by
  go_enter Tryd.func52, Tryd.ntmps52
  go_wp2_with (go_at_call 59; refine (c _).mono ?_; rintro e w' ⟨rfl, rfl⟩)
  go_ret2
  exact ⟨rfl, rfl⟩

/-- The table of the library's TrailingZeros64 in its variable. -/
def DK (W : World) : Prop := ∀ k, k < 64 → W.cell? ⟨1, k, none⟩ = some (.int .u8 (Lib.deBruijn64tab.getD k 0 : Nat))

theorem tz64_key (x a : Nat) (hx : x < 18446744073709551616) (hx0 : x ≠ 0) (hlow : x &&& (18446744073709551616 - x) = a) :
    IntKind.u64.wrap (bits BinOp.and IntKind.u64 (x : Int) (IntKind.u64.wrap (-(x : Int))) * 285870213051353865) / 288230376151711744 = ((a * 285870213051353865 % 18446744073709551616 / 288230376151711744 : Nat) : Int) := by
  have e1 : IntKind.u64.wrap (-(x : Int)) = ((18446744073709551616 - x : Nat) : Int) := by rw [IntKind.wrap_u64]; omega
  rw [e1, u64_and_nat x _ hx (by omega), hlow, IntKind.wrap_u64]
  omega

theorem tz64_core (x k idx : Nat) (w : World) (hx0 : ((x : Int) == 0) = false)
    (key : IntKind.u64.wrap (bits BinOp.and IntKind.u64 (x : Int) (IntKind.u64.wrap (-(x : Int))) * 285870213051353865) / 288230376151711744 = (idx : Int))
    (hi : idx < 64) (hk : k < 64) (hcell : w.cell? ⟨1, idx, none⟩ = some (.int .u8 k)) :
    Calls Tryd.prog 54 #[.int .u64 x] w fun e w' => e = .returned (.int .i64 k) ∧ w = w' := by
  go_enter Tryd.func54, Tryd.ntmps54
  go_wp2_with (simp only [key])
  go_ret
  exact ⟨rfl, rfl⟩

theorem tz64_any (x : Nat) (hx : x < 18446744073709551616) (hx0 : x ≠ 0) (w : World) (hT : DK w) :
    Calls Tryd.prog 54 #[.int .u64 x] w fun e w' => e = .returned (.int .i64 (Lib.ctz 64 x : Nat)) ∧ w = w' := by
  obtain ⟨hlow, hk⟩ := Lib.lowest_bit 64 x hx0 hx
  obtain ⟨hi, htab⟩ := Lib.deBruijn64_at _ hk
  have hc := hT _ hi
  rw [htab] at hc
  exact tz64_core x _ _ w (by simp; omega) (tz64_key x _ hx hx0 hlow) hi hk hc

/-- real.Parts of what is above 0, out of what its calls tell. -/
theorem parts_of (b u f v z r : Nat) (x s : Int) (W : World) (hf : f < 4503599627370496) (hx0 : -1200 ≤ x) (hx : x ≤ 1200) (hz : z < 64)
    (cc : ∀ W, Calls Tryd.prog 51 #[.int .u64 b] W fun e W' => e = .returned (.int .i64 5) ∧ W = W')
    (cf : ∀ W, Calls Tryd.prog 52 #[.float .f64 b] W fun e W' => e = .returned (.tuple #[.float .f64 u, .int .i64 x]) ∧ W = W')
    (hv : floatBits .mul .f64 u 4845873199050653696 = some v) (hk : floatToIntVal .f64 v .u64 = some ((4503599627370496 + f : Nat) : Int))
    (ct : Calls Tryd.prog 54 #[.int .u64 ((4503599627370496 + f : Nat) : Int)] W fun e w' => e = .returned (.int .i64 (z : Nat)) ∧ W = w')
    (hr : (4503599627370496 + f) / 2 ^ z = r) (hs : x - 53 + (z : Int) = s) :
    Calls Tryd.prog 48 #[.int .u64 b] W fun e W' => e = .returned (.tuple #[.int .u64 r, .int .i64 s, .bool true]) ∧ W = W' := by
  obtain ⟨m, hm⟩ : ∃ m, m = 4503599627370496 + f := ⟨_, rfl⟩
  rw [← hm] at hk ct hr
  have hm2 : m < 9007199254740992 := by omega
  have r1 : ∀ W : World, (binOp .mul 79 (.float .f64 u) (.float .f64 4845873199050653696)).run Tryd.prog W = .ok (.float .f64 v) W := fun W => run_float_arith W .mul 79 .f64 u 4845873199050653696 v hv
  have r2 : ∀ W : World, (convert 79 22 (.float .f64 v)).run Tryd.prog W = .ok (.int .u64 m) W := fun W => run_convert_float_int W 79 22 .f64 .u64 v m (by kernel_rfl) Tryd.underlying22 hk
  have hr2 : (m : Int) / 2 ^ z = (r : Int) := by rw [int_div_pow, hr]
  subst hs
  clear hv hk hr hm hf
  go_enter Tryd.func48, Tryd.ntmps48
  go_wp2_with (first | (go_at_call 51; refine (cc _).mono ?_; rintro e w' ⟨rfl, rfl⟩) | (go_at_call 52; refine (cf _).mono ?_; rintro e w' ⟨rfl, rfl⟩) | (go_at_call 54; refine ct.mono ?_; rintro e w' ⟨rfl, rfl⟩))
  go_ret3
  exact ⟨rfl, rfl⟩

/-- Frexp's number by 2 to the power of 53, its power, and what they are of the odd part. -/
theorem frexp_says (b : Nat) (h0 : 0 < b) (hb : b < 9218868437227405312) :
    ∃ (f : Nat) (x : Int), f < 4503599627370496 ∧ -1200 ≤ x ∧ x ≤ 1200 ∧ (4503599627370496 + f) / 2 ^ Lib.ctz 64 (4503599627370496 + f) = od b ∧ x - 53 + ((Lib.ctz 64 (4503599627370496 + f) : Nat) : Int) = -1074 + ((ex b + tz b : Nat) : Int) ∧
      (∀ W, Calls Tryd.prog 52 #[.float .f64 b] W fun e W' => e = .returned (.tuple #[.float .f64 (4602678819172646912 + f), .int .i64 x]) ∧ W = W') := by
  have hc : cls b ≠ 0 := by unfold cls; rw [if_pos (by omega), if_neg (by omega), if_pos hb]; decide
  have f1 : (FloatKind.f64.format.order b b != some .eq) = false := by rw [fmt64, order_self b (by omega) hc]; rfl
  have f2 : (FloatKind.f64.format.order b 0 == some .eq) = false := by rw [fmt64, order_pp b 0 hb (by decide), Nat.compare_eq_gt.2 (by omega)]; rfl
  have f3 : (FloatKind.f64.format.order b 9218868437227405311 == some .gt) = false := by
    rw [fmt64, order_pp b _ hb (by decide)]
    have : compare b 9218868437227405311 ≠ .gt := by rw [Ne, Nat.compare_eq_gt]; omega
    simp [this]
  obtain ⟨m1, m2, m3⟩ := od_spec b h0
  by_cases hs : b < 4503599627370496
  · have f4 : (FloatKind.f64.format.order b 4503599627370496 == some .lt) = true := by rw [fmt64, order_pp b _ hb (by decide), Nat.compare_eq_lt.2 hs]; rfl
    obtain ⟨hl, z1, z2⟩ := sub_field b h0 hs
    have hv : floatBits .mul .f64 b 4841369599423283200 = some ((0 + b.log2) * 4503599627370496 + b * 2 ^ (52 - b.log2)) := mul_sub b _ 0 h0 hs (by omega) c52
    obtain ⟨hm, hex⟩ := mg_small b (by omega)
    have hctz : Lib.ctz 64 (b * 2 ^ (52 - b.log2)) = tz b + (52 - b.log2) := by
      obtain ⟨k, k1, _⟩ := ctz_spec (b * 2 ^ (52 - b.log2)) (by omega) (by omega)
      obtain ⟨j, j1, _⟩ := ctz_spec b h0 (by omega)
      have ej : tz b = Lib.ctz 64 b := by unfold tz; rw [hm]
      rw [ej]
      refine pow_unique (m := k) (n := j) ?_
      rw [← k1, Nat.pow_add, Nat.mul_right_comm, ← j1]
    obtain ⟨L, hL⟩ : ∃ L, L = b.log2 := ⟨_, rfl⟩
    obtain ⟨z, hz⟩ : ∃ z, z = b * 2 ^ (52 - L) := ⟨_, rfl⟩
    rw [← hL] at hl z1 z2 hv hctz
    rw [← hz] at z1 z2 hv hctz
    obtain ⟨f, hf⟩ : ∃ f, z = 4503599627370496 + f := ⟨z - 4503599627370496, by omega⟩
    refine ⟨f, -52 + (((L + 1 : Nat) : Int) - 1022), by omega, by omega, by omega, ?_, ?_, ?_⟩
    · rw [← hf, hctz, Nat.pow_add, hz, Nat.mul_div_mul_right _ _ (Nat.two_pow_pos _)]
      unfold od
      rw [hm]
    · rw [← hf, hctz, hex]
      omega
    · intro W
      refine frexp_any b _ _ W fun W => ?_
      exact frexp_of b _ (L + 1) f (-52) (by omega) (by omega) (by omega) (by omega) f1 f2 f3 (fun W => normalize_small b (by omega) f4 _ hv W) (by omega) (by omega) W
  · have f4 : (FloatKind.f64.format.order b 4503599627370496 == some .lt) = false := by
      rw [fmt64, order_pp b _ hb (by decide)]
      have : compare b 4503599627370496 ≠ .lt := by rw [Ne, Nat.compare_eq_lt]; omega
      simp [this]
    have hm : mg b = 4503599627370496 + b % 4503599627370496 := by unfold mg; rw [if_neg hs]
    have hex : ex b + 1 = b / 4503599627370496 := by unfold ex; omega
    refine ⟨b % 4503599627370496, 0 + (((b / 4503599627370496 : Nat) : Int) - 1022), by omega, by omega, by omega, ?_, ?_, ?_⟩
    · rw [← hm]
      rfl
    · rw [← hm, ← hex]
      show _ - 53 + ((tz b : Nat) : Int) = _
      omega
    · intro W
      refine frexp_any b _ _ W fun W => ?_
      exact frexp_of b b _ _ 0 (by omega) (by omega) (by omega) (by omega) f1 f2 f3 (fun W => normalize_big b (by omega) f4 W) rfl rfl W

theorem parts_yes (b : Nat) (h0 : 0 < b) (hb : b < 9218868437227405312) (h5 : cls b = 5) (W : World) (hT : DK W) :
    Calls Tryd.prog 48 #[.int .u64 b] W fun e W' => e = .returned (.tuple #[.int .u64 (od b : Nat), .int .i64 (-1074 + ((ex b + tz b : Nat) : Int)), .bool true]) ∧ W = W' := by
  obtain ⟨f, x, hf, hx0, hx, hr, hs, cf⟩ := frexp_says b h0 hb
  obtain ⟨v, hv, hw⟩ := mul53_half f hf
  have cc := fun W => class_any b (by omega) W
  rw [h5] at cc
  have hct := (Lib.lowest_bit 64 (4503599627370496 + f) (by omega) (by omega)).2
  refine parts_of b _ f v _ _ x _ W hf hx0 hx hct cc cf hv ?_ (tz64_any _ (by omega) (by omega) W hT) hr hs
  unfold floatToIntVal
  rw [show FloatKind.decode .f64 v = Ieee.double.read v from rfl, hw]
  have hmin : IntKind.u64.min = 0 := rfl
  have hmax : IntKind.u64.max = 18446744073709551615 := rfl
  simp only [hmin, hmax]
  rw [if_pos (by omega)]

theorem parts_no (b c : Nat) (W : World) (q : Bool) (cc : ∀ W, Calls Tryd.prog 51 #[.int .u64 b] W fun e W' => e = .returned (.int .i64 (c : Nat)) ∧ W = W')
    (hc : ((c = 3 ∨ c = 4) ∧ q = true) ∨ ((c = 0 ∨ c = 1 ∨ c = 2 ∨ c = 6) ∧ q = false)) :
    Calls Tryd.prog 48 #[.int .u64 b] W fun e W' => e = .returned (.tuple #[.int .u64 0, .int .i64 0, .bool q]) ∧ W = W' := by
  rcases hc with ⟨rfl | rfl, rfl⟩ | ⟨rfl | rfl | rfl | rfl, rfl⟩
  all_goals
    go_enter Tryd.func48, Tryd.ntmps48
    go_wp2_with (go_at_call 51; refine (cc _).mono ?_; rintro e w' ⟨rfl, rfl⟩)
    go_ret3
    exact ⟨rfl, rfl⟩

end Go.Proofs.YtnjkhhagefipiaaDoor
