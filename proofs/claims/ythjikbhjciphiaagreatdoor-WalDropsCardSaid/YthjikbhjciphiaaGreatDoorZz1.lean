/-
  Floating numbers by their bits, as plain arithmetic: their classes, how they stand to each other, products with a power of two, whole parts. No program stands here.
-/
import Ieee.Word
import Ieee.Arith
import Derived.Lib.TrailingZeros
namespace Go.Proofs.YthjikbhjciphiaaGreatDoor
set_option linter.unusedVariables false
set_option linter.unusedSimpArgs false
open Ieee

/-- The class of a word. -/
def cls (b : Nat) : Nat :=
  if b < 9223372036854775808 then
    if b = 0 then 4 else if b < 9218868437227405312 then 5 else if b = 9218868437227405312 then 6 else 0
  else if b = 9223372036854775808 then 3 else if b < 18442240474082181120 then 2 else if b = 18442240474082181120 then 1 else 0

theorem cls_nan {b : Nat} (h : cls b = 0) : (9218868437227405312 < b ∧ b < 9223372036854775808) ∨ 18442240474082181120 < b := by
  unfold cls at h
  split at h
  · split at h
    · omega
    · split at h
      · omega
      · split at h <;> omega
  · split at h
    · omega
    · split at h
      · omega
      · split at h <;> omega

theorem sw : double.signWeight = 9223372036854775808 := by decide
theorem bi : double.binade = 4503599627370496 := by decide
theorem ir : double.infRung = 9218868437227405312 := by decide
theorem lp : double.leastPlace = -1074 := by decide

/-- The whole number that a rung stands for, but for its place. -/
def mg (r : Nat) : Nat := if r < 4503599627370496 then r else 4503599627370496 + r % 4503599627370496
/-- Its place, from the least one on. -/
def ex (r : Nat) : Nat := r / 4503599627370496 - 1

theorem read_pos (b : Nat) (h : b < 9218868437227405312) : double.read b = .number false (mg b) (-1074 + ex b) := by
  have e1 : (b / 9223372036854775808 % 2 == 1) = false := by simp; omega
  have e2 : b % 9223372036854775808 = b := by omega
  unfold Format.read
  rw [sw, bi, ir, lp, e1, e2]
  unfold mg ex
  by_cases hs : b < 4503599627370496
  · have e3 : b / 4503599627370496 = 0 := by omega
    simp [hs, e3]
  · simp [hs, h]

theorem read_neg (b : Nat) (h0 : 9223372036854775808 ≤ b) (h : b < 18442240474082181120) : double.read b = .number true (mg (b - 9223372036854775808)) (-1074 + ex (b - 9223372036854775808)) := by
  have e1 : (b / 9223372036854775808 % 2 == 1) = true := by simp; omega
  have e2 : b % 9223372036854775808 = b - 9223372036854775808 := by omega
  unfold Format.read
  rw [sw, bi, ir, lp, e1, e2]
  generalize hr : b - 9223372036854775808 = r
  unfold mg ex
  by_cases hs : r < 4503599627370496
  · have e3 : r / 4503599627370496 = 0 := by omega
    simp [hs, e3]
  · have hl : r < 9218868437227405312 := by omega
    simp [hs, hl]

theorem read_inf (b : Nat) (h : b = 9218868437227405312) : double.read b = .infinity false := by subst h; decide
theorem read_minf (b : Nat) (h : b = 18442240474082181120) : double.read b = .infinity true := by subst h; decide
theorem read_nan (b : Nat) (hb : b < 18446744073709551616) (h : cls b = 0) : ∃ s f, double.read b = .nan s f := by
  have h := cls_nan h
  unfold Format.read
  rw [sw, bi, ir]
  generalize hr : b % 9223372036854775808 = r
  have h1 : ¬ r < 4503599627370496 := by omega
  have h2 : ¬ r < 9218868437227405312 := by omega
  have h3 : ¬ r = 9218868437227405312 := by omega
  simp only [h1, h2, h3, if_false]
  exact ⟨_, _, rfl⟩

theorem mg_lt (r : Nat) : mg r < 9007199254740992 := by unfold mg; split <;> omega
theorem mg_ge (r : Nat) (h : 4503599627370496 ≤ r) : 4503599627370496 ≤ mg r := by unfold mg; rw [if_neg (by omega)]; omega
theorem mg_small (r : Nat) (h : r < 9007199254740992) : mg r = r ∧ ex r = 0 := by
  unfold mg ex
  constructor
  · split <;> omega
  · omega

/-- What stands higher is more. -/
theorem rise (r q : Nat) (h : r < q) : ex r ≤ ex q ∧ mg r < mg q * 2 ^ (ex q - ex r) := by
  have hle : ex r ≤ ex q := by unfold ex; omega
  refine ⟨hle, ?_⟩
  by_cases he : ex q = ex r
  · rw [he, Nat.sub_self, Nat.pow_zero, Nat.mul_one]
    by_cases hq : q < 9007199254740992
    · rw [(mg_small q hq).1, (mg_small r (by omega)).1]; exact h
    · unfold ex at he
      unfold mg
      rw [if_neg (by omega), if_neg (by omega)]
      omega
  · obtain ⟨k, hk⟩ : ∃ k, ex q - ex r = k + 1 := ⟨ex q - ex r - 1, by omega⟩
    rw [hk]
    have h1 := mg_lt r
    have h2 := mg_ge q (by unfold ex at he hle; omega)
    have h3 : 2 ≤ 2 ^ (k + 1) := by
      rw [Nat.pow_succ]
      have := Nat.two_pow_pos k
      omega
    calc mg r < 4503599627370496 * 2 := by omega
      _ ≤ mg q * 2 ^ (k + 1) := Nat.mul_le_mul h2 h3

/-- The two at one place: as the rungs stand. -/
theorem cmp_rungs (r q : Nat) :
    compare (((mg r <<< ((-1074 + (ex r : Int)) - min (-1074 + (ex r : Int)) (-1074 + (ex q : Int))).toNat : Nat)) : Int) (((mg q <<< ((-1074 + (ex q : Int)) - min (-1074 + (ex r : Int)) (-1074 + (ex q : Int))).toNat : Nat)) : Int) = compare r q := by
  rcases Nat.lt_trichotomy r q with h | h | h
  · obtain ⟨hle, hlt⟩ := rise r q h
    have e1 : ((-1074 + (ex r : Int)) - min (-1074 + (ex r : Int)) (-1074 + (ex q : Int))).toNat = 0 := by omega
    have e2 : ((-1074 + (ex q : Int)) - min (-1074 + (ex r : Int)) (-1074 + (ex q : Int))).toNat = ex q - ex r := by omega
    rw [e1, e2, Nat.shiftLeft_eq, Nat.shiftLeft_eq, Nat.pow_zero, Nat.mul_one, Nat.compare_eq_lt.2 h]
    exact Int.compare_eq_lt.2 (by omega)
  · subst h
    rw [Int.min_self, Nat.compare_eq_eq.2 rfl]
    exact Int.compare_eq_eq.2 rfl
  · obtain ⟨hle, hlt⟩ := rise q r h
    have e1 : ((-1074 + (ex q : Int)) - min (-1074 + (ex r : Int)) (-1074 + (ex q : Int))).toNat = 0 := by omega
    have e2 : ((-1074 + (ex r : Int)) - min (-1074 + (ex r : Int)) (-1074 + (ex q : Int))).toNat = ex r - ex q := by omega
    rw [e1, e2, Nat.shiftLeft_eq, Nat.shiftLeft_eq, Nat.pow_zero, Nat.mul_one, Nat.compare_eq_gt.2 h]
    exact Int.compare_eq_gt.2 (by omega)

theorem order_pp (a c : Nat) (ha : a < 9218868437227405312) (hc : c < 9218868437227405312) : double.order a c = some (compare a c) := by
  unfold Format.order
  rw [read_pos a ha, read_pos c hc]
  simp only [Datum.order, signed]
  exact congrArg some (cmp_rungs a c)

/-- A number below 0, or -0, beside one that is not. -/
theorem order_np (a c : Nat) (h0 : 9223372036854775808 ≤ a) (ha : a < 18442240474082181120) (hc : c < 9218868437227405312) :
    double.order a c = some (if a = 9223372036854775808 ∧ c = 0 then .eq else .lt) := by
  unfold Format.order
  rw [read_neg a h0 ha, read_pos c hc]
  simp only [Datum.order, signed]
  generalize hr : a - 9223372036854775808 = r
  generalize (-1074 + (ex r : Int) - min (-1074 + (ex r : Int)) (-1074 + (ex c : Int))).toNat = x
  generalize (-1074 + (ex c : Int) - min (-1074 + (ex r : Int)) (-1074 + (ex c : Int))).toNat = y
  have m0 : ∀ q, mg q = 0 → q = 0 := by intro q h; unfold mg at h; split at h <;> omega
  have px := Nat.two_pow_pos x
  have py := Nat.two_pow_pos y
  rw [Nat.shiftLeft_eq, Nat.shiftLeft_eq]
  by_cases h : a = 9223372036854775808 ∧ c = 0
  · rw [if_pos h]
    obtain ⟨h1, h2⟩ := h
    have : r = 0 := by omega
    subst this h2
    simp [mg]
  · rw [if_neg h]
    refine congrArg some (Int.compare_eq_lt.2 ?_)
    simp only [if_true, if_false, Bool.false_eq_true]
    by_cases hc0 : c = 0
    · have hr0 : r ≠ 0 := by omega
      have := m0 r
      have h1 : 0 < mg r * 2 ^ x := Nat.mul_pos (by omega) px
      omega
    · have := m0 c
      have h1 : 0 < mg c * 2 ^ y := Nat.mul_pos (by omega) py
      omega

theorem order_self (a : Nat) (ha : a < 18446744073709551616) (h : cls a ≠ 0) : double.order a a = some .eq := by
  unfold Format.order
  by_cases h1 : a < 9218868437227405312
  · rw [read_pos a h1]; simp [Datum.order]
  · by_cases h2 : a = 9218868437227405312
    · rw [read_inf a h2]; rfl
    · by_cases h3 : 9223372036854775808 ≤ a ∧ a < 18442240474082181120
      · rw [read_neg a h3.1 h3.2]; simp [Datum.order]
      · have h4 : a = 18442240474082181120 := by
          unfold cls at h
          split at h
          · rw [if_neg (by omega)] at h
            exact absurd rfl h
          · rw [if_neg (by omega), if_neg (by omega)] at h
            split at h
            · assumption
            · exact absurd rfl h
        rw [read_minf a h4]; rfl

theorem order_nan (a c : Nat) (ha : a < 18446744073709551616) (h : cls a = 0) : double.order a c = none := by
  unfold Format.order
  obtain ⟨s, f, hf⟩ := read_nan a ha h
  rw [hf]
  rfl

theorem order_inf (c : Nat) (hc : c < 9218868437227405312) : double.order 9218868437227405312 c = some .gt := by
  unfold Format.order
  rw [read_inf _ rfl, read_pos c hc]
  rfl
theorem order_minf (c : Nat) (hc : c < 9218868437227405312) : double.order 18442240474082181120 c = some .lt := by
  unfold Format.order
  rw [read_minf _ rfl, read_pos c hc]
  rfl

theorem log2_up {m : Nat} (h : m ≠ 0) (k : Nat) : (m * 2 ^ k).log2 = m.log2 + k := by
  have hp := Nat.two_pow_pos k
  refine (Nat.log2_eq_iff (Nat.mul_ne_zero h (by omega))).2 ⟨?_, ?_⟩
  · rw [Nat.pow_add]; exact Nat.mul_le_mul_right _ (Nat.log2_self_le h)
  · rw [show m.log2 + k + 1 = (m.log2 + 1) + k by omega, Nat.pow_add]; exact Nat.mul_lt_mul_of_pos_right Nat.lt_log2_self hp

/-- A product with 2 to the power of 52 and more is written without rounding. -/
theorem nearest_exact (m : Nat) (hm : m ≠ 0) (hL : m.log2 ≤ 52) (p : Nat) :
    double.nearest false (m * 4503599627370496) (-1074 + (p : Int)) = min ((p + m.log2) * 4503599627370496 + m * 2 ^ (52 - m.log2)) 9218868437227405312 := by
  have hlog : (m * 4503599627370496).log2 = m.log2 + 52 := log2_up hm 52
  have hne : ¬ m * 4503599627370496 = 0 := by omega
  unfold Format.nearest
  rw [if_neg hne, lp, hlog, bi, ir]
  have hf : double.fractionBits = 52 := rfl
  rw [hf]
  generalize hLL : m.log2 = L at hL
  have e1 : max (-1074 + (p : Int) + ((L + 52 : Nat) : Int) - ((52 : Nat) : Int)) (-1074) = -1074 + (p : Int) + (L : Int) := by omega
  have e2 : (-1074 + (p : Int) - (-1074 + (p : Int) + (L : Int))).toNat = 0 := by omega
  have e3 : (-1074 + (p : Int) + (L : Int) - (-1074 + (p : Int))).toNat = L := by omega
  have e4 : (-1074 + (p : Int) + (L : Int) - -1074).toNat = p + L := by omega
  simp only [e1, e2, e3, e4, Nat.shiftLeft_zero, Format.word, Bool.false_eq_true, if_false]
  have hcut : Toward.even.cut false (m * 4503599627370496) L = m * 2 ^ (52 - L) := by
    unfold Toward.cut
    rw [hlog, hLL]
    have e5 : min L (L + 52 + 2) = L := by omega
    have e6 : m * 4503599627370496 = m * 2 ^ (52 - L) * 2 ^ L := by
      rw [Nat.mul_assoc, ← Nat.pow_add, show 52 - L + L = 52 by omega]
    have hp := Nat.two_pow_pos L
    rw [e5, e6]
    simp only [Nat.shiftLeft_eq, Nat.one_mul, Nat.mul_mod_left, Nat.mul_div_cancel _ hp]
    have e7 : (decide (2 ^ L < 2 * 0) || (2 ^ L == 2 * 0 && m * 2 ^ (52 - L) % 2 == 1)) = false := by
      have : (2 ^ L == 2 * 0) = false := by simp
      rw [this]
      simp
    simp only [e7, Bool.toNat_false, Nat.add_zero]
  rw [hcut]

theorem mg_ne (r : Nat) (h : 0 < r) : mg r ≠ 0 := by unfold mg; split <;> omega
theorem mg_log (r : Nat) (h : 0 < r) : (mg r).log2 ≤ 52 := by
  have := (Nat.log2_lt (mg_ne r h)).2 (show mg r < 2 ^ 53 from mg_lt r)
  omega
theorem log_norm (m : Nat) (h1 : 4503599627370496 ≤ m) (h2 : m < 9007199254740992) : m.log2 = 52 :=
  (Nat.log2_eq_iff (by omega)).2 ⟨h1, h2⟩

/-- A number times 2 to the power of 52 + k. -/
theorem mul_up (r c k : Nat) (h0 : 0 < r) (h : r < 9218868437227405312) (hc : double.read c = .number false 4503599627370496 k) :
    double.mul r c = some (min ((ex r + k + (mg r).log2) * 4503599627370496 + mg r * 2 ^ (52 - (mg r).log2)) 9218868437227405312) := by
  unfold Format.mul
  rw [read_pos r h, hc]
  simp only [Datum.product, Option.map_some, Format.write, Bool.bne_false]
  rw [show (-1074 + (ex r : Int)) + (k : Int) = -1074 + ((ex r + k : Nat) : Int) by omega, nearest_exact _ (mg_ne r h0) (mg_log r h0)]

theorem c53 : double.read 4845873199050653696 = .number false 4503599627370496 (1 : Nat) := by decide
theorem c52 : double.read 4841369599423283200 = .number false 4503599627370496 (0 : Nat) := by decide

/-- A normal one: its exponent's field rises. -/
theorem mul_norm (r c k : Nat) (h0 : 4503599627370496 ≤ r) (h : r + (52 + k) * 4503599627370496 < 9218868437227405312) (hc : double.read c = .number false 4503599627370496 k) :
    double.mul r c = some (r + (52 + k) * 4503599627370496) := by
  rw [mul_up r c k (by omega) (by omega) hc]
  have hl := log_norm (mg r) (mg_ge r h0) (mg_lt r)
  rw [hl, Nat.sub_self, Nat.pow_zero, Nat.mul_one]
  have e : ex r * 4503599627370496 + mg r = r := by
    unfold ex mg
    rw [if_neg (by omega)]
    omega
  congr 1
  omega

/-- One below the normal ones. -/
theorem mul_sub (r c k : Nat) (h0 : 0 < r) (h : r < 4503599627370496) (hk : k ≤ 1) (hc : double.read c = .number false 4503599627370496 k) :
    double.mul r c = some ((k + r.log2) * 4503599627370496 + r * 2 ^ (52 - r.log2)) := by
  rw [mul_up r c k h0 (by omega) hc]
  obtain ⟨e1, e2⟩ := mg_small r (by omega)
  have hl := mg_log r h0
  rw [e1] at hl
  rw [e1, e2]
  have hb : r * 2 ^ (52 - r.log2) < 9007199254740992 := by
    have h1 : r < 2 ^ (r.log2 + 1) := Nat.lt_log2_self
    calc r * 2 ^ (52 - r.log2) < 2 ^ (r.log2 + 1) * 2 ^ (52 - r.log2) := Nat.mul_lt_mul_of_pos_right h1 (Nat.two_pow_pos _)
      _ = 2 ^ 53 := by rw [← Nat.pow_add]; congr 1; omega
      _ = 9007199254740992 := by decide
  congr 1
  generalize r * 2 ^ (52 - r.log2) = z at hb
  generalize r.log2 = L at hl
  omega

theorem sub_field (r : Nat) (h0 : 0 < r) (h : r < 4503599627370496) : r.log2 < 52 ∧ 4503599627370496 ≤ r * 2 ^ (52 - r.log2) ∧ r * 2 ^ (52 - r.log2) < 9007199254740992 := by
  have hl : r.log2 < 52 := (Nat.log2_lt (by omega)).2 (show r < 2 ^ 52 from h)
  refine ⟨hl, ?_, ?_⟩
  · calc 4503599627370496 = 2 ^ 52 := by decide
      _ = 2 ^ r.log2 * 2 ^ (52 - r.log2) := by rw [← Nat.pow_add]; congr 1; omega
      _ ≤ r * 2 ^ (52 - r.log2) := Nat.mul_le_mul_right _ (Nat.log2_self_le (by omega))
  · have h1 : r < 2 ^ (r.log2 + 1) := Nat.lt_log2_self
    calc r * 2 ^ (52 - r.log2) < 2 ^ (r.log2 + 1) * 2 ^ (52 - r.log2) := Nat.mul_lt_mul_of_pos_right h1 (Nat.two_pow_pos _)
      _ = 2 ^ 53 := by rw [← Nat.pow_add]; congr 1; omega
      _ = 9007199254740992 := by decide

theorem big_div {x d : Nat} (h : x < 9007199254740992) (hd : 53 ≤ d) : x / 2 ^ d = 0 := by
  refine Nat.div_eq_of_lt (Nat.lt_of_lt_of_le h ?_)
  exact (Nat.pow_le_pow_right (by decide) hd : 2 ^ 53 ≤ 2 ^ d)

theorem cut_zero (s : Bool) (n d : Nat) : Toward.zero.cut s n d = n / 2 ^ d := by
  unfold Toward.cut
  simp only [Bool.toNat_false, Nat.add_zero, Nat.shiftLeft_eq, Nat.one_mul]
  by_cases h : d ≤ n.log2 + 2
  · rw [Nat.min_eq_left h]
  · have h1 : n < 2 ^ (n.log2 + 1) := Nat.lt_log2_self
    have h2 : 2 ^ (n.log2 + 1) ≤ 2 ^ (n.log2 + 2) := Nat.pow_le_pow_right (by decide) (by omega)
    have h3 : 2 ^ (n.log2 + 1) ≤ 2 ^ d := Nat.pow_le_pow_right (by decide) (by omega)
    rw [Nat.min_eq_right (by omega), Nat.div_eq_of_lt (by omega), Nat.div_eq_of_lt (by omega)]

/-- The whole of a number that is not below 0. -/
theorem whole (w : Nat) (h : w < 9218868437227405312) (d : Nat) (hd : ex w + d = 1074) : (double.read w).toInt .zero = some ((mg w / 2 ^ d : Nat) : Int) := by
  rw [read_pos w h]
  unfold Datum.toInt Datum.integral
  have e1 : (-1074 + (ex w : Int)).toNat = 0 := by omega
  have e2 : (-(-1074 + (ex w : Int))).toNat = d := by omega
  simp only [e1, e2, Nat.shiftLeft_zero, cut_zero, signed, Bool.false_eq_true, if_false]

/-- The first 53 places of a fraction as a whole number. -/
def frac (r : Nat) : Nat := mg r * 2 ^ ex r / 2 ^ 1021

theorem frac_mono {r q : Nat} (h : r ≤ q) : frac r ≤ frac q := by
  unfold frac
  refine Nat.div_le_div_right ?_
  rcases Nat.lt_or_eq_of_le h with h | h
  · obtain ⟨h1, h2⟩ := rise r q h
    calc mg r * 2 ^ ex r ≤ (mg q * 2 ^ (ex q - ex r)) * 2 ^ ex r := Nat.mul_le_mul_right _ (by omega)
      _ = mg q * 2 ^ ex q := by rw [Nat.mul_assoc, ← Nat.pow_add]; congr 2; omega
  · rw [h]; exact Nat.le_refl _

theorem frac_at (r d : Nat) (hd : ex r + d = 1021) : frac r = mg r / 2 ^ d := by
  unfold frac
  rw [← hd, Nat.add_comm, Nat.pow_add, Nat.mul_div_mul_right _ _ (Nat.two_pow_pos _)]

theorem frac_lt (r : Nat) (h : r < 4607182418800017408) : frac r < 9007199254740992 := by
  rw [frac_at r (1021 - ex r) (by unfold ex; omega)]
  exact Nat.lt_of_le_of_lt (Nat.div_le_self _ _) (mg_lt r)

/-- A fraction times 2 to the power of 53, cut to a whole number. -/
theorem mul53 (r : Nat) (h0 : 0 < r) (h : r < 4607182418800017408) :
    ∃ w, double.mul r 4845873199050653696 = some w ∧ (double.read w).toInt .zero = some ((frac r : Nat) : Int) := by
  by_cases hs : r < 4503599627370496
  · obtain ⟨hl, h1, h2⟩ := sub_field r h0 hs
    refine ⟨_, mul_sub r _ 1 h0 hs (by omega) c53, ?_⟩
    have h3 : frac r = 0 := by
      obtain ⟨u, hu⟩ : ∃ u, u = 1021 := ⟨_, rfl⟩
      rw [frac_at r u (by rw [(mg_small r (by omega)).2]; omega)]
      exact big_div (mg_lt r) (by omega)
    generalize r * 2 ^ (52 - r.log2) = z at *
    generalize r.log2 = L at *
    have hx : ex ((1 + L) * 4503599627370496 + z) = L + 1 := by unfold ex; omega
    rw [whole _ (by omega) (1073 - L) (by rw [hx]; omega), h3]
    congr 2
    exact big_div (mg_lt _) (by omega)
  · refine ⟨_, mul_norm r _ 1 (by omega) (by omega) c53, ?_⟩
    have hx : ex (r + (52 + 1) * 4503599627370496) = ex r + 53 := by unfold ex; omega
    have hm : mg (r + (52 + 1) * 4503599627370496) = mg r := by
      unfold mg
      rw [if_neg (by omega), if_neg hs]
      omega
    have hr : ex r ≤ 1021 := by unfold ex; omega
    rw [whole _ (by omega) (1021 - ex r) (by rw [hx]; omega), hm, frac_at r (1021 - ex r) (by omega)]

/-- A number from 1/2 on, below 1, times 2 to the power of 53. -/
theorem mul53_half (f : Nat) (h : f < 4503599627370496) :
    ∃ w, double.mul (4602678819172646912 + f) 4845873199050653696 = some w ∧ (double.read w).toInt .zero = some ((4503599627370496 + f : Nat) : Int) := by
  obtain ⟨w, h1, h2⟩ := mul53 (4602678819172646912 + f) (by omega) (by omega)
  refine ⟨w, h1, ?_⟩
  rw [h2, frac_at _ 0 (by unfold ex; omega)]
  congr 2
  unfold mg
  rw [if_neg (by omega), Nat.pow_zero, Nat.div_one]
  omega

end Go.Proofs.YthjikbhjciphiaaGreatDoor

/-
  A number as an odd one times a power of two; the place that a fraction picks. Plain arithmetic. No program stands here.
-/
namespace Go.Proofs.YthjikbhjciphiaaGreatDoor
set_option linter.unusedVariables false
set_option linter.unusedSimpArgs false

/-- How often 2 divides what a rung stands for. -/
def tz (r : Nat) : Nat := Lib.ctz 64 (mg r)
/-- The odd part. -/
def od (r : Nat) : Nat := mg r / 2 ^ tz r

theorem ctz_spec (x : Nat) (h0 : 0 < x) (h : x < 18446744073709551616) : ∃ m, x = 2 ^ Lib.ctz 64 x * (2 * m + 1) ∧ Lib.ctz 64 x < 64 := by
  obtain ⟨m, h1, h2⟩ := Lib.ctzFrom_spec 64 x h0 h
  have e : Lib.ctz 64 x = Lib.ctzFrom 64 x := by simp [Lib.ctz]; omega
  exact ⟨m, by rw [e]; exact h1, by rw [e]; exact h2⟩

/-- The power of two in a number is one only. -/
theorem pow_unique {a b m n : Nat} (h : 2 ^ a * (2 * m + 1) = 2 ^ b * (2 * n + 1)) : a = b := by
  have go : ∀ (a b m n : Nat), a < b → 2 ^ a * (2 * m + 1) = 2 ^ b * (2 * n + 1) → False := by
    intro a b m n hab h
    obtain ⟨d, rfl⟩ : ∃ d, b = a + (d + 1) := ⟨b - a - 1, by omega⟩
    rw [Nat.pow_add, Nat.mul_assoc] at h
    have h2 := Nat.eq_of_mul_eq_mul_left (Nat.two_pow_pos a) h
    rw [Nat.pow_succ, Nat.mul_assoc] at h2
    have : 2 ^ d * (2 * (2 * n + 1)) = 2 * (2 ^ d * (2 * n + 1)) := by rw [Nat.mul_left_comm]
    omega
  rcases Nat.lt_trichotomy a b with h1 | h1 | h1
  · exact (go a b m n h1 h).elim
  · exact h1
  · exact (go b a n m h1 h.symm).elim

theorem od_spec (r : Nat) (h0 : 0 < r) : mg r = od r * 2 ^ tz r ∧ od r % 2 = 1 ∧ tz r < 53 := by
  have hm := mg_ne r h0
  have hl := mg_lt r
  obtain ⟨m, h1, h2⟩ := ctz_spec (mg r) (by omega) (by omega)
  have e : od r = 2 * m + 1 := by
    unfold od tz
    rw [h1]
    have : Lib.ctz 64 (2 ^ Lib.ctz 64 (mg r) * (2 * m + 1)) = Lib.ctz 64 (mg r) := by rw [← h1]
    rw [this, Nat.mul_div_cancel_left _ (Nat.two_pow_pos _)]
  refine ⟨by rw [e, Nat.mul_comm]; exact h1, by omega, ?_⟩
  apply Nat.lt_of_not_le
  intro h53
  have h3 : 2 ^ 53 ≤ 2 ^ tz r := Nat.pow_le_pow_right (by decide) h53
  have h4 : 2 ^ tz r ≤ 2 ^ tz r * (2 * m + 1) := Nat.le_mul_of_pos_right _ (by omega)
  have h5 : mg r = 2 ^ tz r * (2 * m + 1) := h1
  omega

/-- Half way: how often it has been halved. -/
theorem half_way (r t : Nat) (h0 : 0 < r) (ht : t < tz r) : mg r / 2 ^ t % 2 = 0 ∧ mg r / 2 ^ t / 2 = mg r / 2 ^ (t + 1) ∧ 0 < mg r / 2 ^ t := by
  obtain ⟨h1, h2, _⟩ := od_spec r h0
  obtain ⟨d, hd⟩ : ∃ d, tz r = t + (d + 1) := ⟨tz r - t - 1, by omega⟩
  have e : mg r / 2 ^ t = 2 * (od r * 2 ^ d) := by
    have hp := Nat.two_pow_pos t
    conv => lhs; rw [h1, hd, Nat.pow_add, Nat.mul_left_comm, Nat.mul_div_cancel_left _ hp, Nat.pow_succ]
    rw [← Nat.mul_assoc, Nat.mul_comm]
  refine ⟨by omega, by rw [Nat.div_div_eq_div_mul, ← Nat.pow_succ], ?_⟩
  have : 0 < od r * 2 ^ d := Nat.mul_pos (by omega) (Nat.two_pow_pos d)
  omega

theorem way_lt (r t : Nat) : mg r / 2 ^ t < 9007199254740992 := Nat.lt_of_le_of_lt (Nat.div_le_self _ _) (mg_lt r)

/-- What is 1 or more, by its odd part. -/
theorem one_up (r : Nat) (h : 4607182418800017408 ≤ r) (hp : ex r + tz r < 1074) : 1074 - (ex r + tz r) < 64 ∧ 0 < od r / 2 ^ (1074 - (ex r + tz r)) := by
  obtain ⟨h1, h2, h3⟩ := od_spec r (by omega)
  have hx : 1022 ≤ ex r := by unfold ex; omega
  refine ⟨by omega, Nat.div_pos ?_ (Nat.two_pow_pos _)⟩
  have hm := mg_ge r (by omega)
  have hp := Nat.two_pow_pos (tz r)
  apply Nat.le_of_not_lt
  intro hlt
  have h5 : od r * 2 ^ tz r < 2 ^ (1074 - (ex r + tz r)) * 2 ^ tz r := Nat.mul_lt_mul_of_pos_right hlt hp
  rw [← h1, ← Nat.pow_add] at h5
  have h6 : 2 ^ (1074 - (ex r + tz r) + tz r) ≤ 2 ^ 52 := Nat.pow_le_pow_right (by decide) (by omega)
  omega

/-- What is below 1, by its odd part. -/
theorem one_down (r : Nat) (h0 : 0 < r) (h : r < 4607182418800017408) : ex r + tz r < 1074 ∧ od r < 2 ^ (1074 - (ex r + tz r)) := by
  obtain ⟨h1, h2, h3⟩ := od_spec r h0
  have hx : ex r ≤ 1021 := by unfold ex; omega
  refine ⟨by omega, ?_⟩
  have hm := mg_lt r
  have hp := Nat.two_pow_pos (tz r)
  apply Nat.lt_of_not_le
  intro hle
  have h5 : 2 ^ (1074 - (ex r + tz r)) * 2 ^ tz r ≤ od r * 2 ^ tz r := Nat.mul_le_mul_right _ hle
  rw [← h1, ← Nat.pow_add] at h5
  have h6 : 2 ^ 53 ≤ 2 ^ (1074 - (ex r + tz r) + tz r) := Nat.pow_le_pow_right (by decide) (by omega)
  omega

/-- The places so far. -/
def kk (m q i : Nat) : Nat := m * 2 ^ i / 2 ^ q

theorem kk_zero (m q : Nat) (h : m < 2 ^ q) : kk m q 0 = 0 := by
  unfold kk
  rw [Nat.pow_zero, Nat.mul_one]
  exact Nat.div_eq_of_lt h

theorem kk_in (m q i : Nat) (h : i < q) : kk m q (i + 1) = 2 * kk m q i + m / 2 ^ (q - (i + 1)) % 2 := by
  obtain ⟨d, rfl⟩ : ∃ d, q = i + 1 + d := ⟨q - i - 1, by omega⟩
  have e1 : kk m (i + 1 + d) (i + 1) = m / 2 ^ d := by
    unfold kk
    rw [Nat.pow_add 2 (i + 1) d, Nat.mul_comm, Nat.mul_div_mul_left _ _ (Nat.two_pow_pos _)]
  have e2 : kk m (i + 1 + d) i = m / 2 ^ (d + 1) := by
    unfold kk
    rw [show i + 1 + d = i + (d + 1) by omega, Nat.pow_add, Nat.mul_comm, Nat.mul_div_mul_left _ _ (Nat.two_pow_pos _)]
  rw [e1, e2, show i + 1 + d - (i + 1) = d by omega, Nat.pow_succ, ← Nat.div_div_eq_div_mul]
  omega

theorem kk_out (m q i : Nat) (h : q ≤ i) : kk m q (i + 1) = 2 * kk m q i := by
  obtain ⟨d, rfl⟩ : ∃ d, i = q + d := ⟨i - q, by omega⟩
  unfold kk
  have hp := Nat.two_pow_pos q
  have e : ∀ j, m * 2 ^ (q + j) / 2 ^ q = m * 2 ^ j := by
    intro j
    rw [Nat.pow_add, Nat.mul_left_comm, Nat.mul_div_cancel_left _ hp]
  rw [show q + d + 1 = q + (d + 1) by omega, e, e, Nat.pow_succ, ← Nat.mul_assoc, Nat.mul_comm]

theorem kk_far (m q i : Nat) (hm : m < 9007199254740992) (h : i + 64 < q) : kk m q (i + 1) = 2 * kk m q i := by
  rw [kk_in m q i (by omega)]
  have h1 : 2 ^ 53 ≤ 2 ^ (q - (i + 1)) := Nat.pow_le_pow_right (by decide) (by omega)
  rw [Nat.div_eq_of_lt (by omega)]
  omega

theorem kk_le (m q i : Nat) (h : m < 2 ^ q) : kk m q i < 2 ^ i := by
  unfold kk
  exact (Nat.div_lt_iff_lt_mul (Nat.two_pow_pos q)).2 (by rw [Nat.mul_comm]; exact Nat.mul_lt_mul_of_pos_left h (Nat.two_pow_pos i))

theorem kk_end (r : Nat) (h0 : 0 < r) (h : r < 4607182418800017408) : kk (od r) (1074 - (ex r + tz r)) 53 = frac r := by
  obtain ⟨h1, h2, h3⟩ := od_spec r h0
  obtain ⟨h4, h5⟩ := one_down r h0 h
  unfold kk frac
  rw [h1, Nat.mul_assoc, ← Nat.pow_add]
  obtain ⟨s, hs⟩ : ∃ s, s = tz r + ex r := ⟨_, rfl⟩
  rw [← hs, show ex r + tz r = s by omega]
  obtain ⟨u, hu⟩ : ∃ u, u = 1021 := ⟨_, rfl⟩
  rw [← hu]
  have e1 : 2 ^ u * 2 ^ 53 = 2 ^ (1074 - s) * 2 ^ s := by rw [← Nat.pow_add, ← Nat.pow_add]; congr 1; omega
  rw [← Nat.mul_div_mul_right (od r * 2 ^ 53) _ (Nat.two_pow_pos s), ← Nat.mul_div_mul_right (od r * 2 ^ s) _ (Nat.two_pow_pos 53), e1, Nat.mul_right_comm]

/-- Long multiplication: what is out, and what rests. -/
theorem long_step (k n c o t : Nat) (hk : k < 9007199254740992) (ht : t < 9007199254740992) (h : o * 9007199254740992 + t = k * (n / 2 ^ (c + 1))) :
    (2 * o + (2 * t + (n / 2 ^ c % 2) * k) / 9007199254740992) * 9007199254740992 + (2 * t + (n / 2 ^ c % 2) * k) % 9007199254740992 = k * (n / 2 ^ c) := by
  have e : n / 2 ^ c = 2 * (n / 2 ^ (c + 1)) + n / 2 ^ c % 2 := by
    rw [Nat.pow_succ, ← Nat.div_div_eq_div_mul]; omega
  have e2 : k * (n / 2 ^ c) = 2 * (k * (n / 2 ^ (c + 1))) + (n / 2 ^ c % 2) * k := by
    conv => lhs; rw [e, Nat.mul_add, Nat.mul_left_comm, Nat.mul_comm k (n / 2 ^ c % 2)]
  rw [e2, ← h]
  generalize (n / 2 ^ c % 2) * k = z
  clear e e2 h
  omega

theorem long_out (k n c o t : Nat) (hk : k < 9007199254740992) (h : o * 9007199254740992 + t = k * (n / 2 ^ c)) : o ≤ n := by
  have h1 : n / 2 ^ c ≤ n := Nat.div_le_self _ _
  have h2 : k * (n / 2 ^ c) ≤ 9007199254740992 * n := Nat.mul_le_mul (by omega) h1
  omega

theorem long_end (k n o t : Nat) (ht : t < 9007199254740992) (h : o * 9007199254740992 + t = k * (n / 2 ^ 0)) : o = k * n / 9007199254740992 := by
  rw [Nat.pow_zero, Nat.div_one] at h
  rw [← h]
  omega

/-- The place that a fraction picks. -/
def pickV (b n : Nat) : Nat :=
  if cls b = 5 ∨ cls b = 6 then (if 4607182418800017408 ≤ b then n - 1 else frac b * n / 9007199254740992) else 0

theorem pick_lt (k n : Nat) (hk : k < 9007199254740992) (hn : 0 < n) : k * n / 9007199254740992 < n :=
  (Nat.div_lt_iff_lt_mul (by decide)).2 (by rw [Nat.mul_comm n]; exact Nat.mul_lt_mul_of_pos_right hk hn)

end Go.Proofs.YthjikbhjciphiaaGreatDoor

/-
  What bytes come to, as plain arithmetic: a product of a whole number and a rung, cut to a whole number. No program stands here.
-/
namespace Go.Proofs.YthjikbhjciphiaaGreatDoor
set_option linter.unusedVariables false
set_option linter.unusedSimpArgs false

/-- At most all bits. -/
def capM (x : Nat) : Nat := min x 18446744073709551615
/-- Times 2 to the power of e, rounded down. -/
def scale (p : Nat) (e : Int) : Nat := if 0 ≤ e then p * 2 ^ e.toNat else p / 2 ^ (-e).toNat
/-- What n bytes come to at the price b. -/
def dueV (n b : Nat) : Nat := if cls b = 5 then capM (scale (n * od b) (-1074 + ((ex b + tz b : Nat) : Int))) else 0

theorem capM_le (x : Nat) : capM x ≤ 18446744073709551615 := Nat.min_le_right _ _
theorem capM_max {x : Nat} (h : 18446744073709551615 ≤ x) : capM x = 18446744073709551615 := Nat.min_eq_right h
theorem capM_id {x : Nat} (h : x ≤ 18446744073709551615) : capM x = x := Nat.min_eq_left h
theorem capM_mono {x y : Nat} (h : x ≤ y) : capM x ≤ capM y := by unfold capM; omega

theorem scale_rung (n r : Nat) (h0 : 0 < r) : scale (n * od r) (-1074 + ((ex r + tz r : Nat) : Int)) = n * (mg r * 2 ^ ex r) / 2 ^ 1074 := by
  obtain ⟨h1, _, _⟩ := od_spec r h0
  obtain ⟨s, hs⟩ : ∃ s, s = ex r + tz r := ⟨_, rfl⟩
  have e1 : n * (mg r * 2 ^ ex r) = n * od r * 2 ^ s := by
    rw [h1, Nat.mul_assoc, Nat.mul_assoc, ← Nat.pow_add, hs, Nat.add_comm (tz r)]
  rw [← hs, e1]
  unfold scale
  obtain ⟨u, hu⟩ : ∃ u, u = 1074 := ⟨_, rfl⟩
  rw [← hu]
  by_cases h : 1074 ≤ s
  · rw [if_pos (by omega), show (-1074 + (s : Int)).toNat = s - u by omega]
    have e2 : 2 ^ s = 2 ^ (s - u) * 2 ^ u := by rw [← Nat.pow_add]; congr 1; omega
    rw [e2, ← Nat.mul_assoc, Nat.mul_div_cancel _ (Nat.two_pow_pos _)]
  · rw [if_neg (by omega), show (-(-1074 + (s : Int))).toNat = u - s by omega]
    have e2 : 2 ^ u = 2 ^ (u - s) * 2 ^ s := by rw [← Nat.pow_add]; congr 1; omega
    rw [e2, Nat.mul_div_mul_right _ _ (Nat.two_pow_pos _)]

theorem rung_mono {r q : Nat} (h : r ≤ q) : mg r * 2 ^ ex r ≤ mg q * 2 ^ ex q := by
  rcases Nat.lt_or_eq_of_le h with h | h
  · obtain ⟨h1, h2⟩ := rise r q h
    calc mg r * 2 ^ ex r ≤ (mg q * 2 ^ (ex q - ex r)) * 2 ^ ex r := Nat.mul_le_mul_right _ (by omega)
      _ = mg q * 2 ^ ex q := by rw [Nat.mul_assoc, ← Nat.pow_add]; congr 2; omega
  · rw [h]; exact Nat.le_refl _

theorem dueV_le (n b : Nat) : dueV n b ≤ 18446744073709551615 := by
  unfold dueV
  split
  · exact capM_le _
  · omega

theorem dueV_zero (b : Nat) : dueV 0 b = 0 := by
  unfold dueV
  split
  · unfold scale
    rw [Nat.zero_mul, Nat.zero_mul, Nat.zero_div]
    split <;> rfl
  · rfl

/-- More bytes at a price that is not less. -/
theorem dueV_mono {m n b c : Nat} (hb : 0 < b) (hc : 0 < c) (h1 : m ≤ n) (h2 : b ≤ c) (hc5 : cls b = 5) (hc6 : cls c = 5) : dueV m b ≤ dueV n c := by
  unfold dueV
  rw [if_pos hc5, if_pos hc6, scale_rung m b hb, scale_rung n c hc]
  exact capM_mono (Nat.div_le_div_right (Nat.mul_le_mul h1 (rung_mono h2)))

/-- Two words, divided by 2 to the power of k. -/
theorem two_far (h l k : Nat) (hl : l < 18446744073709551616) (hk : 64 ≤ k) : (h * 18446744073709551616 + l) / 2 ^ k = h / 2 ^ (k - 64) := by
  have e : 2 ^ k = 18446744073709551616 * 2 ^ (k - 64) := by
    rw [show (18446744073709551616 : Nat) = 2 ^ 64 by decide, ← Nat.pow_add]; congr 1; omega
  rw [e, ← Nat.div_div_eq_div_mul]
  congr 1
  omega

theorem two_near (h l k : Nat) (hl : l < 18446744073709551616) (hk : k < 64) (hh : h < 2 ^ k) :
    (h * 18446744073709551616 + l) / 2 ^ k = h * 2 ^ (64 - k) + l / 2 ^ k ∧ l / 2 ^ k < 2 ^ (64 - k) ∧ h * 2 ^ (64 - k) + l / 2 ^ k < 18446744073709551616 := by
  have e : (18446744073709551616 : Nat) = 2 ^ (64 - k) * 2 ^ k := by rw [← Nat.pow_add, show 64 - k + k = 64 by omega]
  have hp := Nat.two_pow_pos k
  have h1 : l / 2 ^ k < 2 ^ (64 - k) := (Nat.div_lt_iff_lt_mul hp).2 (by rw [← e]; exact hl)
  refine ⟨?_, h1, ?_⟩
  · rw [e, ← Nat.mul_assoc, Nat.add_comm, Nat.add_mul_div_right _ _ hp, Nat.add_comm]
  · rw [e, Nat.mul_comm (2 ^ (64 - k))]
    have h2 : (h + 1) * 2 ^ (64 - k) ≤ 2 ^ k * 2 ^ (64 - k) := Nat.mul_le_mul_right _ hh
    rw [Nat.add_mul] at h2
    omega

theorem two_high (h l k : Nat) (hk : k < 64) (hh : 2 ^ k ≤ h) : 18446744073709551616 ≤ (h * 18446744073709551616 + l) / 2 ^ k := by
  have hp := Nat.two_pow_pos k
  refine (Nat.le_div_iff_mul_le hp).2 ?_
  have : 18446744073709551616 * 2 ^ k ≤ 18446744073709551616 * h := Nat.mul_le_mul_left _ hh
  omega

/-- A word turned up and back again: whether it lost bits. -/
theorem turn_back (y k : Nat) (hy : y < 18446744073709551616) :
    (y * 2 ^ min k 64 % 18446744073709551616 / 2 ^ min k 64 ≠ y ∧ capM (y * 2 ^ k) = 18446744073709551615) ∨
    (y * 2 ^ min k 64 % 18446744073709551616 / 2 ^ min k 64 = y ∧ capM (y * 2 ^ k) = y * 2 ^ min k 64 % 18446744073709551616) := by
  have hp := Nat.two_pow_pos (min k 64)
  by_cases h : y * 2 ^ min k 64 < 18446744073709551616
  · refine .inr ?_
    rw [Nat.mod_eq_of_lt h, Nat.mul_div_cancel _ hp]
    refine ⟨rfl, ?_⟩
    by_cases hk : k ≤ 64
    · rw [Nat.min_eq_left hk] at h ⊢
      unfold capM
      omega
    · rw [Nat.min_eq_right (by omega)] at h ⊢
      have : y = 0 := by omega
      subst this
      rw [Nat.zero_mul, Nat.zero_mul]
      rfl
  · refine .inl ⟨?_, ?_⟩
    · intro he
      have h1 : y * 2 ^ min k 64 % 18446744073709551616 < 18446744073709551616 := Nat.mod_lt _ (by decide)
      have h2 : y * 2 ^ min k 64 % 18446744073709551616 / 2 ^ min k 64 * 2 ^ min k 64 ≤ y * 2 ^ min k 64 % 18446744073709551616 := Nat.div_mul_le_self _ _
      rw [he] at h2
      omega
    · have h1 : y * 2 ^ min k 64 ≤ y * 2 ^ k := Nat.mul_le_mul_left _ (Nat.pow_le_pow_right (by decide) (Nat.min_le_left _ _))
      unfold capM
      omega

end Go.Proofs.YthjikbhjciphiaaGreatDoor
