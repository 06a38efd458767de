/-
  What bytes come to, as plain arithmetic: a product of a whole number and a rung, cut to a whole number. No program stands here.
-/
import Derived.Test.YtgococpbhbcpmaaGreatDoorZz12
import Derived.Test.YtgococpbhbcpmaaGreatDoorZz1
namespace Go.Proofs.YtgococpbhbcpmaaGreatDoor
set_option linter.unusedVariables false
set_option linter.unusedSimpArgs false

/-- At most all bits. -/
def capM (x : Nat) : Nat := min x 18446744073709551615
/-- Times 2 to the power of e, rounded down. -/
def scale (p : Nat) (e : Int) : Nat := if 0 ≤ e then p * 2 ^ e.toNat else p / 2 ^ (-e).toNat
/-- What n bytes come to at the price b. -/
def dueV (n b : Nat) : Nat := if cls b = 5 then capM (scale (n * od b) (-1074 + ((ex b + tz b : Nat) : Int))) else 0

theorem capM_le (x : Nat) : capM x ≤ 18446744073709551615 := Nat.min_le_right _ _
theorem capM_max {x : Nat} (h : 18446744073709551615 ≤ x) : capM x = 18446744073709551615 := Nat.min_eq_right h
theorem capM_id {x : Nat} (h : x ≤ 18446744073709551615) : capM x = x := Nat.min_eq_left h
theorem capM_mono {x y : Nat} (h : x ≤ y) : capM x ≤ capM y := by unfold capM; omega

theorem scale_rung (n r : Nat) (h0 : 0 < r) : scale (n * od r) (-1074 + ((ex r + tz r : Nat) : Int)) = n * (mg r * 2 ^ ex r) / 2 ^ 1074 := by
  obtain ⟨h1, _, _⟩ := od_spec r h0
  obtain ⟨s, hs⟩ : ∃ s, s = ex r + tz r := ⟨_, rfl⟩
  have e1 : n * (mg r * 2 ^ ex r) = n * od r * 2 ^ s := by
    rw [h1, Nat.mul_assoc, Nat.mul_assoc, ← Nat.pow_add, hs, Nat.add_comm (tz r)]
  rw [← hs, e1]
  unfold scale
  obtain ⟨u, hu⟩ : ∃ u, u = 1074 := ⟨_, rfl⟩
  rw [← hu]
  by_cases h : 1074 ≤ s
  · rw [if_pos (by omega), show (-1074 + (s : Int)).toNat = s - u by omega]
    have e2 : 2 ^ s = 2 ^ (s - u) * 2 ^ u := by rw [← Nat.pow_add]; congr 1; omega
    rw [e2, ← Nat.mul_assoc, Nat.mul_div_cancel _ (Nat.two_pow_pos _)]
  · rw [if_neg (by omega), show (-(-1074 + (s : Int))).toNat = u - s by omega]
    have e2 : 2 ^ u = 2 ^ (u - s) * 2 ^ s := by rw [← Nat.pow_add]; congr 1; omega
    rw [e2, Nat.mul_div_mul_right _ _ (Nat.two_pow_pos _)]

theorem rung_mono {r q : Nat} (h : r ≤ q) : mg r * 2 ^ ex r ≤ mg q * 2 ^ ex q := by
  rcases Nat.lt_or_eq_of_le h with h | h
  · obtain ⟨h1, h2⟩ := rise r q h
    calc mg r * 2 ^ ex r ≤ (mg q * 2 ^ (ex q - ex r)) * 2 ^ ex r := Nat.mul_le_mul_right _ (by omega)
      _ = mg q * 2 ^ ex q := by rw [Nat.mul_assoc, ← Nat.pow_add]; congr 2; omega
  · rw [h]; exact Nat.le_refl _

theorem dueV_le (n b : Nat) : dueV n b ≤ 18446744073709551615 := by
  unfold dueV
  split
  · exact capM_le _
  · omega

theorem dueV_zero (b : Nat) : dueV 0 b = 0 := by
  unfold dueV
  split
  · unfold scale
    rw [Nat.zero_mul, Nat.zero_mul, Nat.zero_div]
    split <;> rfl
  · rfl

/-- More bytes at a price that is not less. -/
theorem dueV_mono {m n b c : Nat} (hb : 0 < b) (hc : 0 < c) (h1 : m ≤ n) (h2 : b ≤ c) (hc5 : cls b = 5) (hc6 : cls c = 5) : dueV m b ≤ dueV n c := by
  unfold dueV
  rw [if_pos hc5, if_pos hc6, scale_rung m b hb, scale_rung n c hc]
  exact capM_mono (Nat.div_le_div_right (Nat.mul_le_mul h1 (rung_mono h2)))

/-- Two words, divided by 2 to the power of k. -/
theorem two_far (h l k : Nat) (hl : l < 18446744073709551616) (hk : 64 ≤ k) : (h * 18446744073709551616 + l) / 2 ^ k = h / 2 ^ (k - 64) := by
  have e : 2 ^ k = 18446744073709551616 * 2 ^ (k - 64) := by
    rw [show (18446744073709551616 : Nat) = 2 ^ 64 by decide, ← Nat.pow_add]; congr 1; omega
  rw [e, ← Nat.div_div_eq_div_mul]
  congr 1
  omega

theorem two_near (h l k : Nat) (hl : l < 18446744073709551616) (hk : k < 64) (hh : h < 2 ^ k) :
    (h * 18446744073709551616 + l) / 2 ^ k = h * 2 ^ (64 - k) + l / 2 ^ k ∧ l / 2 ^ k < 2 ^ (64 - k) ∧ h * 2 ^ (64 - k) + l / 2 ^ k < 18446744073709551616 := by
  have e : (18446744073709551616 : Nat) = 2 ^ (64 - k) * 2 ^ k := by rw [← Nat.pow_add, show 64 - k + k = 64 by omega]
  have hp := Nat.two_pow_pos k
  have h1 : l / 2 ^ k < 2 ^ (64 - k) := (Nat.div_lt_iff_lt_mul hp).2 (by rw [← e]; exact hl)
  refine ⟨?_, h1, ?_⟩
  · rw [e, ← Nat.mul_assoc, Nat.add_comm, Nat.add_mul_div_right _ _ hp, Nat.add_comm]
  · rw [e, Nat.mul_comm (2 ^ (64 - k))]
    have h2 : (h + 1) * 2 ^ (64 - k) ≤ 2 ^ k * 2 ^ (64 - k) := Nat.mul_le_mul_right _ hh
    rw [Nat.add_mul] at h2
    omega

theorem two_high (h l k : Nat) (hk : k < 64) (hh : 2 ^ k ≤ h) : 18446744073709551616 ≤ (h * 18446744073709551616 + l) / 2 ^ k := by
  have hp := Nat.two_pow_pos k
  refine (Nat.le_div_iff_mul_le hp).2 ?_
  have : 18446744073709551616 * 2 ^ k ≤ 18446744073709551616 * h := Nat.mul_le_mul_left _ hh
  omega

/-- A word turned up and back again: whether it lost bits. -/
theorem turn_back (y k : Nat) (hy : y < 18446744073709551616) :
    (y * 2 ^ min k 64 % 18446744073709551616 / 2 ^ min k 64 ≠ y ∧ capM (y * 2 ^ k) = 18446744073709551615) ∨
    (y * 2 ^ min k 64 % 18446744073709551616 / 2 ^ min k 64 = y ∧ capM (y * 2 ^ k) = y * 2 ^ min k 64 % 18446744073709551616) := by
  have hp := Nat.two_pow_pos (min k 64)
  by_cases h : y * 2 ^ min k 64 < 18446744073709551616
  · refine .inr ?_
    rw [Nat.mod_eq_of_lt h, Nat.mul_div_cancel _ hp]
    refine ⟨rfl, ?_⟩
    by_cases hk : k ≤ 64
    · rw [Nat.min_eq_left hk] at h ⊢
      unfold capM
      omega
    · rw [Nat.min_eq_right (by omega)] at h ⊢
      have : y = 0 := by omega
      subst this
      rw [Nat.zero_mul, Nat.zero_mul]
      rfl
  · refine .inl ⟨?_, ?_⟩
    · intro he
      have h1 : y * 2 ^ min k 64 % 18446744073709551616 < 18446744073709551616 := Nat.mod_lt _ (by decide)
      have h2 : y * 2 ^ min k 64 % 18446744073709551616 / 2 ^ min k 64 * 2 ^ min k 64 ≤ y * 2 ^ min k 64 % 18446744073709551616 := Nat.div_mul_le_self _ _
      rw [he] at h2
      omega
    · have h1 : y * 2 ^ min k 64 ≤ y * 2 ^ k := Nat.mul_le_mul_left _ (Nat.pow_le_pow_right (by decide) (Nat.min_le_left _ _))
      unfold capM
      omega

end Go.Proofs.YtgococpbhbcpmaaGreatDoor

/-
  Walks of package real, of the library's questions, and of the reference: Class, Key, Less, Canon.
-/
namespace Go.Proofs.YtgococpbhbcpmaaGreatDoor
open Go.RowKit
set_option linter.unusedVariables false
set_option linter.unusedSimpArgs false

theorem fmt64 : FloatKind.f64.format = Ieee.double := rfl

@[go_sem] theorem unary_neg_float (k : FloatKind) (b : Nat) : Op.unary .neg (.float k b) = pure (.float k (Op.negFloat k b)) := rfl
@[go_sem] theorem run_frombits (n : Int) (w : World) : (callFunc 126 #[.int .u64 n]).run Tryz.prog w = .ok (.value (.float .f64 n.toNat)) w := by
  rw [run_callFunc_extern (e := Extern.MathFloatBits.float64frombits) Tryz.func126 (by kernel_rfl) (by kernel_rfl) (by kernel_rfl) (by kernel_rfl)]
  rfl
@[go_sem] theorem run_tobits (b : Nat) (w : World) : (callFunc 134 #[.float .f64 b]).run Tryz.prog w = .ok (.value (.int .u64 b)) w := by
  rw [run_callFunc_extern (e := Extern.MathFloatBits.float64bits) Tryz.func134 (by kernel_rfl) (by kernel_rfl) (by kernel_rfl) (by kernel_rfl)]
  rfl

/-- What is not a number: by a test of a number against itself. -/
theorem isNaN_any (b : Nat) (W : World) (q : Bool) (hq : (FloatKind.f64.format.order b b != some .eq) = q) :
    Calls Tryz.prog 128 #[.float .f64 b] W fun e W' => e = .returned (.bool q) ∧ W = W' := by
  go_enter Tryz.func128, Tryz.ntmps128
  go_wp2
  go_ret
  exact ⟨rfl, rfl⟩

theorem isInf_minus (b : Nat) (W : World) (q : Bool) (hq : (FloatKind.f64.format.order (Op.negFloat .f64 b) 9218868437227405311 == some .gt) = q) :
    Calls Tryz.prog 129 #[.float .f64 b, .int .i64 (-1)] W fun e W' => e = .returned (.bool q) ∧ W = W' := by
  go_enter Tryz.func129, Tryz.ntmps129
  go_wp2
  go_ret
  exact ⟨rfl, rfl⟩

theorem isInf_plus (b : Nat) (W : World) (q : Bool) (hq : (FloatKind.f64.format.order b 9218868437227405311 == some .gt) = q) :
    Calls Tryz.prog 129 #[.float .f64 b, .int .i64 1] W fun e W' => e = .returned (.bool q) ∧ W = W' := by
  go_enter Tryz.func129, Tryz.ntmps129
  go_wp2
  go_ret
  exact ⟨rfl, rfl⟩

theorem signbit_zero (W : World) : Calls Tryz.prog 130 #[.float .f64 0] W fun e W' => e = .returned (.bool false) ∧ W = W' := by
  go_enter Tryz.func130, Tryz.ntmps130
  go_wp2
  go_ret
  exact ⟨rfl, rfl⟩

theorem signbit_minus (W : World) : Calls Tryz.prog 130 #[.float .f64 9223372036854775808] W fun e W' => e = .returned (.bool true) ∧ W = W' := by
  have hw : IntKind.i64.wrap 9223372036854775808 = -9223372036854775808 := by decide
  go_enter Tryz.func130, Tryz.ntmps130
  go_wp2
  go_ret
  exact ⟨rfl, rfl⟩

theorem negF (b : Nat) : Op.negFloat .f64 b = b ^^^ 9223372036854775808 := rfl
theorem xor_up (b : Nat) (h : b < 9223372036854775808) : b ^^^ 9223372036854775808 = b + 9223372036854775808 := by
  have h1 : b ^^^ 9223372036854775808 = b ||| 9223372036854775808 := by
    apply Nat.eq_of_testBit_eq
    intro i
    rw [Nat.testBit_xor, Nat.testBit_or, show (9223372036854775808 : Nat) = 2 ^ 63 by decide, Nat.testBit_two_pow]
    by_cases hi : 63 = i
    · subst hi
      rw [Nat.testBit_lt_two_pow (show b < 2 ^ 63 from h)]
      simp
    · simp [hi]
  rw [h1, Nat.or_comm]
  have := Nat.two_pow_add_eq_or_of_lt (i := 63) (show b < 2 ^ 63 from h) 1
  rw [Nat.mul_one] at this
  rw [show (9223372036854775808 : Nat) = 2 ^ 63 by decide, ← this, Nat.add_comm]
theorem xor_down (b : Nat) (h0 : 9223372036854775808 ≤ b) (h : b < 18446744073709551616) : b ^^^ 9223372036854775808 = b - 9223372036854775808 := by
  obtain ⟨c, hc⟩ : ∃ c, c = b - 9223372036854775808 := ⟨_, rfl⟩
  have e : b = c ^^^ 9223372036854775808 := by rw [xor_up c (by omega)]; omega
  rw [← hc, e, Nat.xor_assoc, Nat.xor_self, Nat.xor_zero]

/-- The class of any word, out of the answers of the library's questions. -/
theorem class_of (b : Nat) (W : World) (c : Nat) (q1 q2 q3 q4 q5 : Bool)
    (f1 : (FloatKind.f64.format.order b b != some .eq) = q1)
    (f2 : (FloatKind.f64.format.order (Op.negFloat .f64 b) 9218868437227405311 == some .gt) = q2)
    (f3 : (FloatKind.f64.format.order b 9218868437227405311 == some .gt) = q3)
    (f4 : (FloatKind.f64.format.order b 0 == some .eq) = q4)
    (f5 : (FloatKind.f64.format.order b 0 == some .lt) = q5)
    (hz : q4 = true → b = 0 ∨ b = 9223372036854775808)
    (hc : c = if q1 then 0 else if q2 then 1 else if q3 then 6 else if q4 then (if b = 0 then 4 else 3) else if q5 then 2 else 5) :
    Calls Tryz.prog 124 #[.int .u64 b] W fun e W' => e = .returned (.int .i64 (c : Nat)) ∧ W = W' := by
  have c1 := isNaN_any b W q1 f1
  have c2 := isInf_minus b W q2 f2
  have c3 := isInf_plus b W q3 f3
  have HC := Lib.hid hc
  have HZ := Lib.hid hz
  clear f1 f2 f3 hc hz
  cases q1
  case true =>
    obtain rfl : c = 0 := HC.out
    go_enter Tryz.func124, Tryz.ntmps124
    go_wp2_with (go_at_call 128; refine c1.mono ?_; rintro e w' ⟨rfl, rfl⟩)
    go_ret
    exact ⟨rfl, rfl⟩
  cases q2
  case true =>
    obtain rfl : c = 1 := HC.out
    go_enter Tryz.func124, Tryz.ntmps124
    go_wp2_with (first | (go_at_call 128; refine c1.mono ?_; rintro e w' ⟨rfl, rfl⟩) | (go_at_call 129; ((with_reducible refine c2.mono ?_); rintro e w' ⟨rfl, rfl⟩)))
    go_ret
    exact ⟨rfl, rfl⟩
  cases q3
  case true =>
    obtain rfl : c = 6 := HC.out
    go_enter Tryz.func124, Tryz.ntmps124
    go_wp2_with (first | (go_at_call 128; refine c1.mono ?_; rintro e w' ⟨rfl, rfl⟩) | (go_at_call 129; ((with_reducible refine c2.mono ?_); rintro e w' ⟨rfl, rfl⟩)) | (go_at_call 129; ((with_reducible refine c3.mono ?_); rintro e w' ⟨rfl, rfl⟩)))
    go_ret
    exact ⟨rfl, rfl⟩
  cases q4
  case true =>
    rcases HZ.out rfl with rfl | rfl
    · obtain rfl : c = 4 := HC.out
      clear HC HZ
      go_enter Tryz.func124, Tryz.ntmps124
      go_wp2_with (first | (go_at_call 128; refine c1.mono ?_; rintro e w' ⟨rfl, rfl⟩) | (go_at_call 129; ((with_reducible refine c2.mono ?_); rintro e w' ⟨rfl, rfl⟩)) | (go_at_call 129; ((with_reducible refine c3.mono ?_); rintro e w' ⟨rfl, rfl⟩)) | (go_at_call 130; refine (signbit_zero _).mono ?_; rintro e w' ⟨rfl, rfl⟩))
      go_ret
      exact ⟨rfl, rfl⟩
    · obtain rfl : c = 3 := HC.out
      clear HC HZ
      go_enter Tryz.func124, Tryz.ntmps124
      go_wp2_with (first | (go_at_call 128; refine c1.mono ?_; rintro e w' ⟨rfl, rfl⟩) | (go_at_call 129; ((with_reducible refine c2.mono ?_); rintro e w' ⟨rfl, rfl⟩)) | (go_at_call 129; ((with_reducible refine c3.mono ?_); rintro e w' ⟨rfl, rfl⟩)) | (go_at_call 130; refine (signbit_minus _).mono ?_; rintro e w' ⟨rfl, rfl⟩))
      go_ret
      exact ⟨rfl, rfl⟩
  cases q5
  case true =>
    obtain rfl : c = 2 := HC.out
    go_enter Tryz.func124, Tryz.ntmps124
    go_wp2_with (first | (go_at_call 128; refine c1.mono ?_; rintro e w' ⟨rfl, rfl⟩) | (go_at_call 129; ((with_reducible refine c2.mono ?_); rintro e w' ⟨rfl, rfl⟩)) | (go_at_call 129; ((with_reducible refine c3.mono ?_); rintro e w' ⟨rfl, rfl⟩)))
    go_ret
    exact ⟨rfl, rfl⟩
  · obtain rfl : c = 5 := HC.out
    go_enter Tryz.func124, Tryz.ntmps124
    go_wp2_with (first | (go_at_call 128; refine c1.mono ?_; rintro e w' ⟨rfl, rfl⟩) | (go_at_call 129; ((with_reducible refine c2.mono ?_); rintro e w' ⟨rfl, rfl⟩)) | (go_at_call 129; ((with_reducible refine c3.mono ?_); rintro e w' ⟨rfl, rfl⟩)))
    go_ret
    exact ⟨rfl, rfl⟩

theorem neg_inf : Op.negFloat .f64 9218868437227405312 = 18442240474082181120 := by decide
theorem neg_minf : Op.negFloat .f64 18442240474082181120 = 9218868437227405312 := by decide
theorem cls_inf : cls 9218868437227405312 = 6 := by decide
theorem cls_minf : cls 18442240474082181120 = 1 := by decide
theorem cls_zero : cls 0 = 4 := by decide
theorem cls_minus : cls 9223372036854775808 = 3 := by decide

theorem class_nan (b : Nat) (hb : b < 18446744073709551616) (h0 : cls b = 0) (W : World) :
    Calls Tryz.prog 124 #[.int .u64 b] W fun e W' => e = .returned (.int .i64 (cls b : Nat)) ∧ W = W' :=
  class_of b W (cls b) true _ _ _ _ (by rw [fmt64, order_nan b b hb h0]; rfl) rfl rfl rfl rfl (by rw [fmt64, order_nan b 0 hb h0]; intro h; cases h) h0

theorem class_inf (b : Nat) (h : b = 9218868437227405312) (f1 : (FloatKind.f64.format.order b b != some .eq) = false) (W : World) :
    Calls Tryz.prog 124 #[.int .u64 b] W fun e W' => e = .returned (.int .i64 (cls b : Nat)) ∧ W = W' := by
  have hc : cls b = 6 := by rw [h]; exact cls_inf
  have e2 : Op.negFloat .f64 b = 18442240474082181120 := by rw [h]; exact neg_inf
  have e3 : ∀ c, c < 9218868437227405312 → Ieee.double.order b c = some .gt := by rw [h]; exact order_inf
  clear h
  refine class_of b W _ false false true false false f1 ?_ ?_ ?_ ?_ (fun h => by cases h) hc
  · rw [e2, fmt64, order_minf _ (by decide)]; rfl
  · rw [fmt64, e3 _ (by decide)]; rfl
  · rw [fmt64, e3 _ (by decide)]; rfl
  · rw [fmt64, e3 _ (by decide)]; rfl

theorem class_minf (b : Nat) (h : b = 18442240474082181120) (f1 : (FloatKind.f64.format.order b b != some .eq) = false) (W : World) :
    Calls Tryz.prog 124 #[.int .u64 b] W fun e W' => e = .returned (.int .i64 (cls b : Nat)) ∧ W = W' := by
  have hc : cls b = 1 := by rw [h]; exact cls_minf
  have e2 : Op.negFloat .f64 b = 9218868437227405312 := by rw [h]; exact neg_minf
  have e3 : ∀ c, c < 9218868437227405312 → Ieee.double.order b c = some .lt := by rw [h]; exact order_minf
  clear h
  refine class_of b W _ false true false false true f1 ?_ ?_ ?_ ?_ (fun h => by cases h) hc
  · rw [e2, fmt64, order_inf _ (by decide)]; rfl
  · rw [fmt64, e3 _ (by decide)]; rfl
  · rw [fmt64, e3 _ (by decide)]; rfl
  · rw [fmt64, e3 _ (by decide)]; rfl

theorem class_pos (b : Nat) (h3 : b < 9218868437227405312) (f1 : (FloatKind.f64.format.order b b != some .eq) = false) (W : World) :
    Calls Tryz.prog 124 #[.int .u64 b] W fun e W' => e = .returned (.int .i64 (cls b : Nat)) ∧ W = W' := by
  have e2 : (FloatKind.f64.format.order (Op.negFloat .f64 b) 9218868437227405311 == some .gt) = false := by
    rw [negF, fmt64, xor_up b (by omega), order_np _ _ (by omega) (by omega) (by decide), if_neg (by omega)]; rfl
  have e3 : (FloatKind.f64.format.order b 9218868437227405311 == some .gt) = false := by
    rw [fmt64, order_pp b _ h3 (by decide)]
    have : compare b 9218868437227405311 ≠ .gt := by rw [Ne, Nat.compare_eq_gt]; omega
    simp [this]
  by_cases hz : b = 0
  · have e : Ieee.double.order b 0 = some .eq := by
      rw [order_pp b 0 h3 (by decide), Nat.compare_eq_eq.2 hz]
    have hc : cls b = if b = 0 then 4 else 3 := by rw [hz]; exact cls_zero
    exact class_of b W _ false false false true false f1 e2 e3 (by rw [fmt64, e]; rfl) (by rw [fmt64, e]; rfl) (fun _ => .inl hz) hc
  · have e : Ieee.double.order b 0 = some .gt := by
      rw [order_pp b 0 h3 (by decide), Nat.compare_eq_gt.2 (by omega)]
    have hc : cls b = 5 := by
      unfold cls
      rw [if_pos (by omega), if_neg hz, if_pos h3]
    exact class_of b W _ false false false false false f1 e2 e3 (by rw [fmt64, e]; rfl) (by rw [fmt64, e]; rfl) (fun h => by cases h) hc

theorem class_neg (b : Nat) (hb : b < 18446744073709551616) (h4 : 9223372036854775808 ≤ b ∧ b < 18442240474082181120) (f1 : (FloatKind.f64.format.order b b != some .eq) = false) (W : World) :
    Calls Tryz.prog 124 #[.int .u64 b] W fun e W' => e = .returned (.int .i64 (cls b : Nat)) ∧ W = W' := by
  have e2 : (FloatKind.f64.format.order (Op.negFloat .f64 b) 9218868437227405311 == some .gt) = false := by
    obtain ⟨r, hr⟩ : ∃ r, r = b - 9223372036854775808 := ⟨_, rfl⟩
    rw [negF, fmt64, xor_down b h4.1 hb, ← hr, order_pp r _ (by omega) (by decide)]
    have : compare r 9218868437227405311 ≠ .gt := by rw [Ne, Nat.compare_eq_gt]; omega
    simp [this]
  have e3 : (FloatKind.f64.format.order b 9218868437227405311 == some .gt) = false := by
    rw [fmt64, order_np b _ h4.1 h4.2 (by decide), if_neg (by omega)]; rfl
  have e4 := order_np b 0 h4.1 h4.2 (by decide)
  by_cases hz : b = 9223372036854775808
  · rw [if_pos ⟨hz, rfl⟩] at e4
    have hc : cls b = if b = 0 then 4 else 3 := by rw [hz]; exact cls_minus
    exact class_of b W _ false false false true false f1 e2 e3 (by rw [fmt64, e4]; rfl) (by rw [fmt64, e4]; rfl) (fun _ => .inr hz) hc
  · rw [if_neg (by omega)] at e4
    have hc : cls b = 2 := by
      unfold cls
      rw [if_neg (by omega), if_neg hz, if_pos h4.2]
    exact class_of b W _ false false false false true f1 e2 e3 (by rw [fmt64, e4]; rfl) (by rw [fmt64, e4]; rfl) (fun h => by cases h) hc

/-- The class of any word. -/
theorem class_any (b : Nat) (hb : b < 18446744073709551616) (W : World) :
    Calls Tryz.prog 124 #[.int .u64 b] W fun e W' => e = .returned (.int .i64 (cls b : Nat)) ∧ W = W' := by
  by_cases h0 : cls b = 0
  · exact class_nan b hb h0 W
  have f1 : (FloatKind.f64.format.order b b != some .eq) = false := by rw [fmt64, order_self b hb h0]; rfl
  by_cases h1 : b = 9218868437227405312
  · exact class_inf b h1 f1 W
  by_cases h2 : b = 18442240474082181120
  · exact class_minf b h2 f1 W
  by_cases h3 : b < 9218868437227405312
  · exact class_pos b h3 f1 W
  · refine class_neg b hb ⟨?_, ?_⟩ f1 W
    · apply Nat.le_of_not_lt
      intro hlt
      unfold cls at h0
      rw [if_pos hlt, if_neg (by omega), if_neg h3, if_neg h1] at h0
      exact h0 rfl
    · apply Nat.lt_of_not_le
      intro hle
      unfold cls at h0
      rw [if_neg (by omega), if_neg (by omega), if_neg (by omega), if_neg h2] at h0
      exact h0 rfl

end Go.Proofs.YtgococpbhbcpmaaGreatDoor
