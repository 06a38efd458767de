/-
  Walks of package real: Pick, the library's Mul64; awake of law05.
-/
import Derived.Test.YtcjlokjjjmmomaaDoorReB
import Derived.Lib.Mul64
import Derived.Laws.Bits64b
namespace Go.Proofs.YtcjlokjjjmmomaaDoor
open Go.RowKit
set_option linter.unusedVariables false
set_option linter.unusedSimpArgs false

theorem m64_mask (a : Nat) (ha : a < 18446744073709551616) : bits .and .u64 (a : Int) 4294967295 = ((a % 4294967296 : Nat) : Int) := by
  have h := bits_and_u64_nat a 4294967295 ha (by omega)
  have e : a &&& 4294967295 = a % 4294967296 := Nat.and_two_pow_sub_one_eq_mod a 32
  rw [e] at h
  exact h
theorem m64_div (a : Nat) : (a : Int) / 4294967296 = ((a / 4294967296 : Nat) : Int) := by omega
theorem m64_mul (a b : Nat) : (a : Int) * (b : Int) = ((a * b : Nat) : Int) := (Int.natCast_mul a b).symm
theorem m64_add (a b : Nat) : (a : Int) + (b : Int) = ((a + b : Nat) : Int) := (Int.natCast_add a b).symm
theorem m64_wrap (a : Nat) (ha : a < 18446744073709551616) : IntKind.u64.wrap (a : Int) = (a : Int) := by rw [IntKind.wrap_u64]; omega
theorem m64_wrapM (a : Nat) : IntKind.u64.wrap (a : Int) = ((a % 18446744073709551616 : Nat) : Int) := by rw [IntKind.wrap_u64]; omega

set_option maxHeartbeats 1000000 in
theorem mul64_any (x y : Nat) (hx : x < 18446744073709551616) (hy : y < 18446744073709551616) (w : World) :
    Calls Tryd.prog 20 #[.int .u64 x, .int .u64 y] w fun e w' => e = .returned (.tuple #[.int .u64 ((x * y / 18446744073709551616 : Nat) : Int), .int .u64 ((x * y % 18446744073709551616 : Nat) : Int)]) ∧ w = w' := by
  obtain ⟨bd, bt, bw, hhi⟩ := Lib.mul64_hi x y hx hy
  have ba := Lib.half_mul_le (a := x / 4294967296) (b := y / 4294967296) (by omega) (by omega)
  have bb := Lib.half_mul_le (a := x / 4294967296) (b := y % 4294967296) (by omega) (by omega)
  have bc := Lib.half_mul_le (a := x % 4294967296) (b := y / 4294967296) (by omega) (by omega)
  have ba' : x / 4294967296 * (y / 4294967296) < 18446744073709551616 := by omega
  have bb' : x / 4294967296 * (y % 4294967296) < 18446744073709551616 := by omega
  have bc' : x % 4294967296 * (y / 4294967296) < 18446744073709551616 := by omega
  have bh1 : x / 4294967296 * (y / 4294967296) + (x / 4294967296 * (y % 4294967296) + x % 4294967296 * (y % 4294967296) / 4294967296) / 4294967296 < 18446744073709551616 := by omega
  have bh : x / 4294967296 * (y / 4294967296) + (x / 4294967296 * (y % 4294967296) + x % 4294967296 * (y % 4294967296) / 4294967296) / 4294967296 + ((x / 4294967296 * (y % 4294967296) + x % 4294967296 * (y % 4294967296) / 4294967296) % 4294967296 + x % 4294967296 * (y / 4294967296)) / 4294967296 < 18446744073709551616 := by omega
  go_enter Tryd.func20, Tryd.ntmps20
  go_wp2
  simp only [m64_mask x hx, m64_mask y hy, m64_div, m64_mul, m64_add, m64_wrap _ bd, m64_wrap _ bb', m64_wrap _ bt, m64_mask _ bt, m64_wrap _ bc', m64_wrap _ bw, m64_wrap _ ba', m64_wrap _ bh1, m64_wrap _ bh, m64_wrapM (x * y)]
  rw [hhi]
  go_ret2
  exact ⟨rfl, rfl⟩

theorem pick_none (b : Nat) (n : Int) (hn : n < 1) (W : World) :
    Calls Tryd.prog 13 #[.int .u64 b, .int .i64 n] W fun e W' => e = .returned (.int .i64 (-1)) ∧ W = W' := by
  go_enter Tryd.func13, Tryd.ntmps13
  go_wp2
  go_ret
  exact ⟨rfl, rfl⟩

theorem pick_nan (b : Nat) (n : Nat) (hn : 0 < n) (f1 : (FloatKind.f64.format.order b b != some .eq) = true) (W : World) :
    Calls Tryd.prog 13 #[.int .u64 b, .int .i64 n] W fun e W' => e = .returned (.int .i64 0) ∧ W = W' := by
  have c1 := isNaN_any b W true f1
  have t1 : ¬ (n : Int) < 1 := by omega
  clear f1
  go_enter Tryd.func13, Tryd.ntmps13
  go_wp2_with (go_at_call 15; refine c1.mono ?_; rintro e w' ⟨rfl, rfl⟩)
  go_ret
  exact ⟨rfl, rfl⟩

theorem pick_low (b : Nat) (n : Nat) (hn : 0 < n) (f1 : (FloatKind.f64.format.order b b != some .eq) = false) (f2 : (FloatKind.f64.format.order b 0 == some .lt || FloatKind.f64.format.order b 0 == some .eq) = true) (W : World) :
    Calls Tryd.prog 13 #[.int .u64 b, .int .i64 n] W fun e W' => e = .returned (.int .i64 0) ∧ W = W' := by
  have c1 := isNaN_any b W false f1
  have t1 : ¬ (n : Int) < 1 := by omega
  clear f1
  go_enter Tryd.func13, Tryd.ntmps13
  go_wp2_with (go_at_call 15; refine c1.mono ?_; rintro e w' ⟨rfl, rfl⟩)
  go_ret
  exact ⟨rfl, rfl⟩

theorem pick_high (b : Nat) (n : Nat) (hn : 0 < n) (hn2 : n < 9223372036854775808) (f1 : (FloatKind.f64.format.order b b != some .eq) = false) (f2 : (FloatKind.f64.format.order b 0 == some .lt || FloatKind.f64.format.order b 0 == some .eq) = false)
    (f3 : (FloatKind.f64.format.order b 4607182418800017408 == some .gt || FloatKind.f64.format.order b 4607182418800017408 == some .eq) = true) (W : World) :
    Calls Tryd.prog 13 #[.int .u64 b, .int .i64 n] W fun e W' => e = .returned (.int .i64 ((n - 1 : Nat) : Int)) ∧ W = W' := by
  have c1 := isNaN_any b W false f1
  have t1 : ¬ (n : Int) < 1 := by omega
  have t2 : (1 : Int) ≤ n := by omega
  have t3 : (n : Int) < 9223372036854775808 := by omega
  obtain ⟨m, hm⟩ : ∃ m, m = n - 1 := ⟨_, rfl⟩
  rw [← hm]
  have HM := Lib.hid (show (n : Int) - 1 = m by omega)
  clear f1 hm hn hn2
  go_enter Tryd.func13, Tryd.ntmps13
  go_wp2_with (go_at_call 15; refine c1.mono ?_; rintro e w' ⟨rfl, rfl⟩)
  go_ret
  exact ⟨by rw [← HM.out]; rfl, rfl⟩

theorem pick_sum (p : Nat) (h : p < 9007199254740992 * 9223372036854775808) :
    wrap64 (bits .or .u64 (IntKind.u64.wrap ((p : Int) / 18446744073709551616 * 2048)) ((p : Int) % 18446744073709551616 / 9007199254740992)) = ((p / 9007199254740992 : Nat) : Int) := by
  obtain ⟨a, ha⟩ : ∃ a, a = p / 18446744073709551616 := ⟨_, rfl⟩
  obtain ⟨c, hc⟩ : ∃ c, c = p % 18446744073709551616 / 9007199254740992 := ⟨_, rfl⟩
  have hp : p / 9007199254740992 = 2048 * a + c := by omega
  have hc2 : c < 2 ^ 11 := by omega
  have ha2 : a < 4503599627370496 := by omega
  have e1 : IntKind.u64.wrap ((p : Int) / 18446744073709551616 * 2048) = ((2048 * a : Nat) : Int) := by rw [IntKind.wrap_u64]; omega
  have e2 : (p : Int) % 18446744073709551616 / 9007199254740992 = ((c : Nat) : Int) := by omega
  have e3 := Nat.two_pow_add_eq_or_of_lt hc2 a
  have e4 : 2 ^ 11 * a = 2048 * a := rfl
  rw [e4] at e3
  rw [e1, e2, u64_or_nat (2048 * a) c (by omega) (by omega), ← e3, hp]
  clear e1 e2 e3 e4 hp ha hc h
  unfold wrap64
  omega

theorem pick_mid (b : Nat) (n : Nat) (hn : 0 < n) (hn2 : n < 9223372036854775808) (f1 : (FloatKind.f64.format.order b b != some .eq) = false) (f2 : (FloatKind.f64.format.order b 0 == some .lt || FloatKind.f64.format.order b 0 == some .eq) = false)
    (f3 : (FloatKind.f64.format.order b 4607182418800017408 == some .gt || FloatKind.f64.format.order b 4607182418800017408 == some .eq) = false)
    (v k : Nat) (hv : floatBits .mul .f64 b 4845873199050653696 = some v) (hk : floatToIntVal .f64 v .u64 = some (k : Int)) (hk2 : k < 9007199254740992) (W : World) :
    Calls Tryd.prog 13 #[.int .u64 b, .int .i64 n] W fun e W' => e = .returned (.int .i64 ((k * n / 9007199254740992 : Nat) : Int)) ∧ W = W' := by
  have c1 := isNaN_any b W false f1
  have t1 : ¬ (n : Int) < 1 := by omega
  have t3 : (n : Int) < 9223372036854775808 := by omega
  have r1 : ∀ W : World, (binOp .mul 28 (.float .f64 b) (.float .f64 4845873199050653696)).run Tryd.prog W = .ok (.float .f64 v) W := fun W => run_float_arith W .mul 28 .f64 b 4845873199050653696 v hv
  have r2 : ∀ W : World, (convert 28 22 (.float .f64 v)).run Tryd.prog W = .ok (.int .u64 k) W := fun W => run_convert_float_int W 28 22 .f64 .u64 v k (by kernel_rfl) Tryd.underlying22 hk
  have hp : k * n < 9007199254740992 * 9223372036854775808 := Nat.mul_lt_mul_of_lt_of_le hk2 (by omega) (by decide)
  have c2 := fun W => mul64_any k n (by omega) (by omega) W
  have HP := Lib.hid (And.intro hp (And.intro hn hn2))
  clear f1 hv hk hk2 hp hn hn2
  go_enter Tryd.func13, Tryd.ntmps13
  go_wp2_with (first | (go_at_call 15; refine c1.mono ?_; rintro e w' ⟨rfl, rfl⟩) | (go_at_call 20; refine (c2 _).mono ?_; rintro e w' ⟨rfl, rfl⟩))
  go_ret
  refine ⟨?_, rfl⟩
  obtain ⟨h1, h2, h3⟩ := HP.out
  rw [← pick_sum _ h1, Int.natCast_mul]
  rfl

/-- The place that a fraction picks of so many. -/
theorem pick_any (b : Nat) (hb : b < 18446744073709551616) (n : Nat) (hn : 0 < n) (hn2 : n < 9223372036854775808) (W : World) :
    Calls Tryd.prog 13 #[.int .u64 b, .int .i64 n] W fun e W' => e = .returned (.int .i64 (pickV b n : Nat)) ∧ W = W' := by
  obtain ⟨s0, s1, s2, s3, s4, s5, s6⟩ := cls_says b hb
  by_cases h0 : cls b = 0
  · have e : pickV b n = 0 := by unfold pickV; rw [if_neg (by omega)]
    rw [e]
    exact pick_nan b n hn (by rw [fmt64, order_nan b b hb h0]; rfl) W
  have f1 : (FloatKind.f64.format.order b b != some .eq) = false := by rw [fmt64, order_self b hb h0]; rfl
  by_cases hlow : cls b = 1 ∨ cls b = 2 ∨ cls b = 3 ∨ cls b = 4
  · have e : pickV b n = 0 := by unfold pickV; rw [if_neg (by omega)]
    have f2 : FloatKind.f64.format.order b 0 = some .lt ∨ FloatKind.f64.format.order b 0 = some .eq := by
      rw [fmt64]
      rcases hlow with h | h | h | h
      · rw [s1 h]; exact .inl (order_minf 0 (by decide))
      · have := s2 h
        rw [order_np b 0 (by omega) (by omega) (by decide), if_neg (by omega)]
        exact .inl rfl
      · rw [order_np b 0 (by rw [s3 h]; decide) (by rw [s3 h]; decide) (by decide), if_pos ⟨s3 h, rfl⟩]
        exact .inr rfl
      · rw [order_pp b 0 (by rw [s4 h]; decide) (by decide), Nat.compare_eq_eq.2 (s4 h)]
        exact .inr rfl
    rw [e]
    exact pick_low b n hn f1 (by rcases f2 with f2 | f2 <;> rw [f2] <;> rfl) W
  have h56 : cls b = 5 ∨ cls b = 6 := by rcases cls_le b with h | h | h | h | h | h | h <;> omega
  have hpos : FloatKind.f64.format.order b 0 = some .gt := by
    rw [fmt64]
    rcases h56 with h | h
    · rw [order_pp b 0 (s5 h).2 (by decide), Nat.compare_eq_gt.2 (s5 h).1]
    · rw [s6 h]; exact order_inf 0 (by decide)
  have f2 : (FloatKind.f64.format.order b 0 == some .lt || FloatKind.f64.format.order b 0 == some .eq) = false := by rw [hpos]; rfl
  by_cases h1 : 4607182418800017408 ≤ b
  · have e : pickV b n = n - 1 := by unfold pickV; rw [if_pos h56, if_pos h1]
    rw [e]
    refine pick_high b n hn hn2 f1 f2 ?_ W
    have f3 : FloatKind.f64.format.order b 4607182418800017408 = some .gt ∨ FloatKind.f64.format.order b 4607182418800017408 = some .eq := by
      rw [fmt64]
      rcases h56 with h | h
      · rw [order_pp b _ (s5 h).2 (by decide)]
        rcases Nat.lt_or_eq_of_le h1 with g | g
        · exact .inl (by rw [Nat.compare_eq_gt.2 g])
        · exact .inr (by rw [Nat.compare_eq_eq.2 g.symm])
      · rw [s6 h]; exact .inl (order_inf _ (by decide))
    rcases f3 with f3 | f3 <;> rw [f3] <;> rfl
  · have e : pickV b n = frac b * n / 9007199254740992 := by unfold pickV; rw [if_pos h56, if_neg h1]
    have hb0 : 0 < b := by
      rcases h56 with h | h
      · exact (s5 h).1
      · have := s6 h; omega
    have hlt : b < 4607182418800017408 := by omega
    obtain ⟨v, hv, hw⟩ := mul53 b hb0 hlt
    have hk := frac_lt b hlt
    rw [e]
    refine pick_mid b n hn hn2 f1 f2 ?_ v (frac b) hv ?_ hk W
    · rw [fmt64, order_pp b _ (by omega) (by decide), Nat.compare_eq_lt.2 hlt]; rfl
    · unfold floatToIntVal
      rw [show FloatKind.decode .f64 v = Ieee.double.read v from rfl, hw]
      have hmin : IntKind.u64.min = 0 := rfl
      have hmax : IntKind.u64.max = 18446744073709551615 := rfl
      simp only [hmin, hmax]
      rw [if_pos (by omega)]

theorem awake5_any (W : World) : Calls Tryd.prog 6 #[] W fun e W' => e = .returned (.bool true) ∧ W = W' := by
  have c1 : ∀ W, Calls Tryd.prog 13 #[.int .u64 4602678819172646912, .int .i64 3] W fun e W' => e = .returned (.int .i64 1) ∧ W = W' := by
    intro W
    have h := pick_any 4602678819172646912 (by decide) 3 (by decide) (by decide) W
    rw [show pickV 4602678819172646912 3 = 1 by decide +kernel] at h
    exact h
  have c2 : ∀ W, Calls Tryd.prog 7 #[.int .u64 9218868437227405312] W fun e W' => e = .returned (.int .i64 6) ∧ W = W' := by
    intro W
    have h := class_any 9218868437227405312 (by decide) W
    rw [show cls 9218868437227405312 = 6 by decide] at h
    exact h
  have c3 : ∀ W, Calls Tryd.prog 14 #[.int .u64 9223372036854775808] W fun e W' => e = .returned (.int .u64 9223372036854775807) ∧ W = W' := by
    intro W
    have h := key_any 9223372036854775808 (by decide) W
    rw [show keyV 9223372036854775808 = 9223372036854775807 by decide] at h
    exact h
  have c4 : ∀ W, Calls Tryd.prog 14 #[.int .u64 0] W fun e W' => e = .returned (.int .u64 9223372036854775808) ∧ W = W' := by
    intro W
    have h := key_any 0 (by decide) W
    rw [show keyV 0 = 9223372036854775808 by decide] at h
    exact h
  go_enter Tryd.func6, Tryd.ntmps6
  go_wp2_with (first | (go_at_call 13; ((with_reducible refine (c1 _).mono ?_); rintro e w' ⟨rfl, rfl⟩)) | (go_at_call 7; ((with_reducible refine (c2 _).mono ?_); rintro e w' ⟨rfl, rfl⟩)) | (go_at_call 14; ((with_reducible refine (c3 _).mono ?_); rintro e w' ⟨rfl, rfl⟩)) | (go_at_call 14; ((with_reducible refine (c4 _).mono ?_); rintro e w' ⟨rfl, rfl⟩)))
  go_ret
  exact ⟨rfl, rfl⟩

end Go.Proofs.YtcjlokjjjmmomaaDoor
