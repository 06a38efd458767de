/-
  Walks of package real, of the library's questions, and of the reference: Class, Key, Less, Canon.
-/
import Derived.Test.YtnjkhhagefipiaaDoorReN
import Derived.Test.YtnjkhhagefipiaaDoorBase
namespace Go.Proofs.YtnjkhhagefipiaaDoor
open Go.RowKit
set_option linter.unusedVariables false
set_option linter.unusedSimpArgs false

theorem fmt64 : FloatKind.f64.format = Ieee.double := rfl

@[go_sem] theorem unary_neg_float (k : FloatKind) (b : Nat) : Op.unary .neg (.float k b) = pure (.float k (Op.negFloat k b)) := rfl
@[go_sem] theorem run_frombits (n : Int) (w : World) : (callFunc 53 #[.int .u64 n]).run Tryd.prog w = .ok (.value (.float .f64 n.toNat)) w := by
  rw [run_callFunc_extern (e := Extern.MathFloatBits.float64frombits) Tryd.func53 (by kernel_rfl) (by kernel_rfl) (by kernel_rfl) (by kernel_rfl)]
  rfl
@[go_sem] theorem run_tobits (b : Nat) (w : World) : (callFunc 61 #[.float .f64 b]).run Tryd.prog w = .ok (.value (.int .u64 b)) w := by
  rw [run_callFunc_extern (e := Extern.MathFloatBits.float64bits) Tryd.func61 (by kernel_rfl) (by kernel_rfl) (by kernel_rfl) (by kernel_rfl)]
  rfl

/-- What is not a number: by a test of a number against itself. -/
theorem isNaN_any (b : Nat) (W : World) (q : Bool) (hq : (FloatKind.f64.format.order b b != some .eq) = q) :
    Calls Tryd.prog 55 #[.float .f64 b] W fun e W' => e = .returned (.bool q) ∧ W = W' := by
  go_enter Tryd.func55, Tryd.ntmps55
  go_wp2
  go_ret
  exact ⟨rfl, rfl⟩

theorem isInf_minus (b : Nat) (W : World) (q : Bool) (hq : (FloatKind.f64.format.order (Op.negFloat .f64 b) 9218868437227405311 == some .gt) = q) :
    Calls Tryd.prog 56 #[.float .f64 b, .int .i64 (-1)] W fun e W' => e = .returned (.bool q) ∧ W = W' := by
  go_enter Tryd.func56, Tryd.ntmps56
  go_wp2
  go_ret
  exact ⟨rfl, rfl⟩

theorem isInf_plus (b : Nat) (W : World) (q : Bool) (hq : (FloatKind.f64.format.order b 9218868437227405311 == some .gt) = q) :
    Calls Tryd.prog 56 #[.float .f64 b, .int .i64 1] W fun e W' => e = .returned (.bool q) ∧ W = W' := by
  go_enter Tryd.func56, Tryd.ntmps56
  go_wp2
  go_ret
  exact ⟨rfl, rfl⟩

theorem signbit_zero (W : World) : Calls Tryd.prog 57 #[.float .f64 0] W fun e W' => e = .returned (.bool false) ∧ W = W' := by
  go_enter Tryd.func57, Tryd.ntmps57
  go_wp2
  go_ret
  exact ⟨rfl, rfl⟩

theorem signbit_minus (W : World) : Calls Tryd.prog 57 #[.float .f64 9223372036854775808] W fun e W' => e = .returned (.bool true) ∧ W = W' := by
  have hw : IntKind.i64.wrap 9223372036854775808 = -9223372036854775808 := by decide
  go_enter Tryd.func57, Tryd.ntmps57
  go_wp2
  go_ret
  exact ⟨rfl, rfl⟩

theorem negF (b : Nat) : Op.negFloat .f64 b = b ^^^ 9223372036854775808 := rfl
theorem xor_up (b : Nat) (h : b < 9223372036854775808) : b ^^^ 9223372036854775808 = b + 9223372036854775808 := by
  have h1 : b ^^^ 9223372036854775808 = b ||| 9223372036854775808 := by
    apply Nat.eq_of_testBit_eq
    intro i
    rw [Nat.testBit_xor, Nat.testBit_or, show (9223372036854775808 : Nat) = 2 ^ 63 by decide, Nat.testBit_two_pow]
    by_cases hi : 63 = i
    · subst hi
      rw [Nat.testBit_lt_two_pow (show b < 2 ^ 63 from h)]
      simp
    · simp [hi]
  rw [h1, Nat.or_comm]
  have := Nat.two_pow_add_eq_or_of_lt (i := 63) (show b < 2 ^ 63 from h) 1
  rw [Nat.mul_one] at this
  rw [show (9223372036854775808 : Nat) = 2 ^ 63 by decide, ← this, Nat.add_comm]
theorem xor_down (b : Nat) (h0 : 9223372036854775808 ≤ b) (h : b < 18446744073709551616) : b ^^^ 9223372036854775808 = b - 9223372036854775808 := by
  obtain ⟨c, hc⟩ : ∃ c, c = b - 9223372036854775808 := ⟨_, rfl⟩
  have e : b = c ^^^ 9223372036854775808 := by rw [xor_up c (by omega)]; omega
  rw [← hc, e, Nat.xor_assoc, Nat.xor_self, Nat.xor_zero]

/-- The class of any word, out of the answers of the library's questions. -/
theorem class_of (b : Nat) (W : World) (c : Nat) (q1 q2 q3 q4 q5 : Bool)
    (f1 : (FloatKind.f64.format.order b b != some .eq) = q1)
    (f2 : (FloatKind.f64.format.order (Op.negFloat .f64 b) 9218868437227405311 == some .gt) = q2)
    (f3 : (FloatKind.f64.format.order b 9218868437227405311 == some .gt) = q3)
    (f4 : (FloatKind.f64.format.order b 0 == some .eq) = q4)
    (f5 : (FloatKind.f64.format.order b 0 == some .lt) = q5)
    (hz : q4 = true → b = 0 ∨ b = 9223372036854775808)
    (hc : c = if q1 then 0 else if q2 then 1 else if q3 then 6 else if q4 then (if b = 0 then 4 else 3) else if q5 then 2 else 5) :
    Calls Tryd.prog 51 #[.int .u64 b] W fun e W' => e = .returned (.int .i64 (c : Nat)) ∧ W = W' := by
  have c1 := isNaN_any b W q1 f1
  have c2 := isInf_minus b W q2 f2
  have c3 := isInf_plus b W q3 f3
  have HC := Lib.hid hc
  have HZ := Lib.hid hz
  clear f1 f2 f3 hc hz
  cases q1
  case true =>
    obtain rfl : c = 0 := HC.out
    go_enter Tryd.func51, Tryd.ntmps51
    go_wp2_with (go_at_call 55; refine c1.mono ?_; rintro e w' ⟨rfl, rfl⟩)
    go_ret
    exact ⟨rfl, rfl⟩
  cases q2
  case true =>
    obtain rfl : c = 1 := HC.out
    go_enter Tryd.func51, Tryd.ntmps51
    go_wp2_with (first | (go_at_call 55; refine c1.mono ?_; rintro e w' ⟨rfl, rfl⟩) | (go_at_call 56; ((with_reducible refine c2.mono ?_); rintro e w' ⟨rfl, rfl⟩)))
    go_ret
    exact ⟨rfl, rfl⟩
  cases q3
  case true =>
    obtain rfl : c = 6 := HC.out
    go_enter Tryd.func51, Tryd.ntmps51
    go_wp2_with (first | (go_at_call 55; refine c1.mono ?_; rintro e w' ⟨rfl, rfl⟩) | (go_at_call 56; ((with_reducible refine c2.mono ?_); rintro e w' ⟨rfl, rfl⟩)) | (go_at_call 56; ((with_reducible refine c3.mono ?_); rintro e w' ⟨rfl, rfl⟩)))
    go_ret
    exact ⟨rfl, rfl⟩
  cases q4
  case true =>
    rcases HZ.out rfl with rfl | rfl
    · obtain rfl : c = 4 := HC.out
      clear HC HZ
      go_enter Tryd.func51, Tryd.ntmps51
      go_wp2_with (first | (go_at_call 55; refine c1.mono ?_; rintro e w' ⟨rfl, rfl⟩) | (go_at_call 56; ((with_reducible refine c2.mono ?_); rintro e w' ⟨rfl, rfl⟩)) | (go_at_call 56; ((with_reducible refine c3.mono ?_); rintro e w' ⟨rfl, rfl⟩)) | (go_at_call 57; refine (signbit_zero _).mono ?_; rintro e w' ⟨rfl, rfl⟩))
      go_ret
      exact ⟨rfl, rfl⟩
    · obtain rfl : c = 3 := HC.out
      clear HC HZ
      go_enter Tryd.func51, Tryd.ntmps51
      go_wp2_with (first | (go_at_call 55; refine c1.mono ?_; rintro e w' ⟨rfl, rfl⟩) | (go_at_call 56; ((with_reducible refine c2.mono ?_); rintro e w' ⟨rfl, rfl⟩)) | (go_at_call 56; ((with_reducible refine c3.mono ?_); rintro e w' ⟨rfl, rfl⟩)) | (go_at_call 57; refine (signbit_minus _).mono ?_; rintro e w' ⟨rfl, rfl⟩))
      go_ret
      exact ⟨rfl, rfl⟩
  cases q5
  case true =>
    obtain rfl : c = 2 := HC.out
    go_enter Tryd.func51, Tryd.ntmps51
    go_wp2_with (first | (go_at_call 55; refine c1.mono ?_; rintro e w' ⟨rfl, rfl⟩) | (go_at_call 56; ((with_reducible refine c2.mono ?_); rintro e w' ⟨rfl, rfl⟩)) | (go_at_call 56; ((with_reducible refine c3.mono ?_); rintro e w' ⟨rfl, rfl⟩)))
    go_ret
    exact ⟨rfl, rfl⟩
  · obtain rfl : c = 5 := HC.out
    go_enter Tryd.func51, Tryd.ntmps51
    go_wp2_with (first | (go_at_call 55; refine c1.mono ?_; rintro e w' ⟨rfl, rfl⟩) | (go_at_call 56; ((with_reducible refine c2.mono ?_); rintro e w' ⟨rfl, rfl⟩)) | (go_at_call 56; ((with_reducible refine c3.mono ?_); rintro e w' ⟨rfl, rfl⟩)))
    go_ret
    exact ⟨rfl, rfl⟩

theorem neg_inf : Op.negFloat .f64 9218868437227405312 = 18442240474082181120 := by decide
theorem neg_minf : Op.negFloat .f64 18442240474082181120 = 9218868437227405312 := by decide
theorem cls_inf : cls 9218868437227405312 = 6 := by decide
theorem cls_minf : cls 18442240474082181120 = 1 := by decide
theorem cls_zero : cls 0 = 4 := by decide
theorem cls_minus : cls 9223372036854775808 = 3 := by decide

theorem class_nan (b : Nat) (hb : b < 18446744073709551616) (h0 : cls b = 0) (W : World) :
    Calls Tryd.prog 51 #[.int .u64 b] W fun e W' => e = .returned (.int .i64 (cls b : Nat)) ∧ W = W' :=
  class_of b W (cls b) true _ _ _ _ (by rw [fmt64, order_nan b b hb h0]; rfl) rfl rfl rfl rfl (by rw [fmt64, order_nan b 0 hb h0]; intro h; cases h) h0

theorem class_inf (b : Nat) (h : b = 9218868437227405312) (f1 : (FloatKind.f64.format.order b b != some .eq) = false) (W : World) :
    Calls Tryd.prog 51 #[.int .u64 b] W fun e W' => e = .returned (.int .i64 (cls b : Nat)) ∧ W = W' := by
  have hc : cls b = 6 := by rw [h]; exact cls_inf
  have e2 : Op.negFloat .f64 b = 18442240474082181120 := by rw [h]; exact neg_inf
  have e3 : ∀ c, c < 9218868437227405312 → Ieee.double.order b c = some .gt := by rw [h]; exact order_inf
  clear h
  refine class_of b W _ false false true false false f1 ?_ ?_ ?_ ?_ (fun h => by cases h) hc
  · rw [e2, fmt64, order_minf _ (by decide)]; rfl
  · rw [fmt64, e3 _ (by decide)]; rfl
  · rw [fmt64, e3 _ (by decide)]; rfl
  · rw [fmt64, e3 _ (by decide)]; rfl

theorem class_minf (b : Nat) (h : b = 18442240474082181120) (f1 : (FloatKind.f64.format.order b b != some .eq) = false) (W : World) :
    Calls Tryd.prog 51 #[.int .u64 b] W fun e W' => e = .returned (.int .i64 (cls b : Nat)) ∧ W = W' := by
  have hc : cls b = 1 := by rw [h]; exact cls_minf
  have e2 : Op.negFloat .f64 b = 9218868437227405312 := by rw [h]; exact neg_minf
  have e3 : ∀ c, c < 9218868437227405312 → Ieee.double.order b c = some .lt := by rw [h]; exact order_minf
  clear h
  refine class_of b W _ false true false false true f1 ?_ ?_ ?_ ?_ (fun h => by cases h) hc
  · rw [e2, fmt64, order_inf _ (by decide)]; rfl
  · rw [fmt64, e3 _ (by decide)]; rfl
  · rw [fmt64, e3 _ (by decide)]; rfl
  · rw [fmt64, e3 _ (by decide)]; rfl

theorem class_pos (b : Nat) (h3 : b < 9218868437227405312) (f1 : (FloatKind.f64.format.order b b != some .eq) = false) (W : World) :
    Calls Tryd.prog 51 #[.int .u64 b] W fun e W' => e = .returned (.int .i64 (cls b : Nat)) ∧ W = W' := by
  have e2 : (FloatKind.f64.format.order (Op.negFloat .f64 b) 9218868437227405311 == some .gt) = false := by
    rw [negF, fmt64, xor_up b (by omega), order_np _ _ (by omega) (by omega) (by decide), if_neg (by omega)]; rfl
  have e3 : (FloatKind.f64.format.order b 9218868437227405311 == some .gt) = false := by
    rw [fmt64, order_pp b _ h3 (by decide)]
    have : compare b 9218868437227405311 ≠ .gt := by rw [Ne, Nat.compare_eq_gt]; omega
    simp [this]
  by_cases hz : b = 0
  · have e : Ieee.double.order b 0 = some .eq := by
      rw [order_pp b 0 h3 (by decide), Nat.compare_eq_eq.2 hz]
    have hc : cls b = if b = 0 then 4 else 3 := by rw [hz]; exact cls_zero
    exact class_of b W _ false false false true false f1 e2 e3 (by rw [fmt64, e]; rfl) (by rw [fmt64, e]; rfl) (fun _ => .inl hz) hc
  · have e : Ieee.double.order b 0 = some .gt := by
      rw [order_pp b 0 h3 (by decide), Nat.compare_eq_gt.2 (by omega)]
    have hc : cls b = 5 := by
      unfold cls
      rw [if_pos (by omega), if_neg hz, if_pos h3]
    exact class_of b W _ false false false false false f1 e2 e3 (by rw [fmt64, e]; rfl) (by rw [fmt64, e]; rfl) (fun h => by cases h) hc

theorem class_neg (b : Nat) (hb : b < 18446744073709551616) (h4 : 9223372036854775808 ≤ b ∧ b < 18442240474082181120) (f1 : (FloatKind.f64.format.order b b != some .eq) = false) (W : World) :
    Calls Tryd.prog 51 #[.int .u64 b] W fun e W' => e = .returned (.int .i64 (cls b : Nat)) ∧ W = W' := by
  have e2 : (FloatKind.f64.format.order (Op.negFloat .f64 b) 9218868437227405311 == some .gt) = false := by
    obtain ⟨r, hr⟩ : ∃ r, r = b - 9223372036854775808 := ⟨_, rfl⟩
    rw [negF, fmt64, xor_down b h4.1 hb, ← hr, order_pp r _ (by omega) (by decide)]
    have : compare r 9218868437227405311 ≠ .gt := by rw [Ne, Nat.compare_eq_gt]; omega
    simp [this]
  have e3 : (FloatKind.f64.format.order b 9218868437227405311 == some .gt) = false := by
    rw [fmt64, order_np b _ h4.1 h4.2 (by decide), if_neg (by omega)]; rfl
  have e4 := order_np b 0 h4.1 h4.2 (by decide)
  by_cases hz : b = 9223372036854775808
  · rw [if_pos ⟨hz, rfl⟩] at e4
    have hc : cls b = if b = 0 then 4 else 3 := by rw [hz]; exact cls_minus
    exact class_of b W _ false false false true false f1 e2 e3 (by rw [fmt64, e4]; rfl) (by rw [fmt64, e4]; rfl) (fun _ => .inr hz) hc
  · rw [if_neg (by omega)] at e4
    have hc : cls b = 2 := by
      unfold cls
      rw [if_neg (by omega), if_neg hz, if_pos h4.2]
    exact class_of b W _ false false false false true f1 e2 e3 (by rw [fmt64, e4]; rfl) (by rw [fmt64, e4]; rfl) (fun h => by cases h) hc

/-- The class of any word. -/
theorem class_any (b : Nat) (hb : b < 18446744073709551616) (W : World) :
    Calls Tryd.prog 51 #[.int .u64 b] W fun e W' => e = .returned (.int .i64 (cls b : Nat)) ∧ W = W' := by
  by_cases h0 : cls b = 0
  · exact class_nan b hb h0 W
  have f1 : (FloatKind.f64.format.order b b != some .eq) = false := by rw [fmt64, order_self b hb h0]; rfl
  by_cases h1 : b = 9218868437227405312
  · exact class_inf b h1 f1 W
  by_cases h2 : b = 18442240474082181120
  · exact class_minf b h2 f1 W
  by_cases h3 : b < 9218868437227405312
  · exact class_pos b h3 f1 W
  · refine class_neg b hb ⟨?_, ?_⟩ f1 W
    · apply Nat.le_of_not_lt
      intro hlt
      unfold cls at h0
      rw [if_pos hlt, if_neg (by omega), if_neg h3, if_neg h1] at h0
      exact h0 rfl
    · apply Nat.lt_of_not_le
      intro hle
      unfold cls at h0
      rw [if_neg (by omega), if_neg (by omega), if_neg (by omega), if_neg h2] at h0
      exact h0 rfl

end Go.Proofs.YtnjkhhagefipiaaDoor