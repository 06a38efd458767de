/-
  Floating numbers by their bits, as plain arithmetic: their classes, how they stand to each other, products with a power of two, whole parts. No program stands here.
-/
import Ieee.Word
import Ieee.Arith
namespace Go.Proofs.YtgococpbhbcpmaaDoor
set_option linter.unusedVariables false
set_option linter.unusedSimpArgs false
open Ieee

/-- The class of a word. -/
def cls (b : Nat) : Nat :=
  if b < 9223372036854775808 then
    if b = 0 then 4 else if b < 9218868437227405312 then 5 else if b = 9218868437227405312 then 6 else 0
  else if b = 9223372036854775808 then 3 else if b < 18442240474082181120 then 2 else if b = 18442240474082181120 then 1 else 0

theorem cls_nan {b : Nat} (h : cls b = 0) : (9218868437227405312 < b ∧ b < 9223372036854775808) ∨ 18442240474082181120 < b := by
  unfold cls at h
  split at h
  · split at h
    · omega
    · split at h
      · omega
      · split at h <;> omega
  · split at h
    · omega
    · split at h
      · omega
      · split at h <;> omega

theorem sw : double.signWeight = 9223372036854775808 := by decide
theorem bi : double.binade = 4503599627370496 := by decide
theorem ir : double.infRung = 9218868437227405312 := by decide
theorem lp : double.leastPlace = -1074 := by decide

/-- The whole number that a rung stands for, but for its place. -/
def mg (r : Nat) : Nat := if r < 4503599627370496 then r else 4503599627370496 + r % 4503599627370496
/-- Its place, from the least one on. -/
def ex (r : Nat) : Nat := r / 4503599627370496 - 1

theorem read_pos (b : Nat) (h : b < 9218868437227405312) : double.read b = .number false (mg b) (-1074 + ex b) := by
  have e1 : (b / 9223372036854775808 % 2 == 1) = false := by simp; omega
  have e2 : b % 9223372036854775808 = b := by omega
  unfold Format.read
  rw [sw, bi, ir, lp, e1, e2]
  unfold mg ex
  by_cases hs : b < 4503599627370496
  · have e3 : b / 4503599627370496 = 0 := by omega
    simp [hs, e3]
  · simp [hs, h]

theorem read_neg (b : Nat) (h0 : 9223372036854775808 ≤ b) (h : b < 18442240474082181120) : double.read b = .number true (mg (b - 9223372036854775808)) (-1074 + ex (b - 9223372036854775808)) := by
  have e1 : (b / 9223372036854775808 % 2 == 1) = true := by simp; omega
  have e2 : b % 9223372036854775808 = b - 9223372036854775808 := by omega
  unfold Format.read
  rw [sw, bi, ir, lp, e1, e2]
  generalize hr : b - 9223372036854775808 = r
  unfold mg ex
  by_cases hs : r < 4503599627370496
  · have e3 : r / 4503599627370496 = 0 := by omega
    simp [hs, e3]
  · have hl : r < 9218868437227405312 := by omega
    simp [hs, hl]

theorem read_inf (b : Nat) (h : b = 9218868437227405312) : double.read b = .infinity false := by subst h; decide
theorem read_minf (b : Nat) (h : b = 18442240474082181120) : double.read b = .infinity true := by subst h; decide
theorem read_nan (b : Nat) (hb : b < 18446744073709551616) (h : cls b = 0) : ∃ s f, double.read b = .nan s f := by
  have h := cls_nan h
  unfold Format.read
  rw [sw, bi, ir]
  generalize hr : b % 9223372036854775808 = r
  have h1 : ¬ r < 4503599627370496 := by omega
  have h2 : ¬ r < 9218868437227405312 := by omega
  have h3 : ¬ r = 9218868437227405312 := by omega
  simp only [h1, h2, h3, if_false]
  exact ⟨_, _, rfl⟩

theorem mg_lt (r : Nat) : mg r < 9007199254740992 := by unfold mg; split <;> omega
theorem mg_ge (r : Nat) (h : 4503599627370496 ≤ r) : 4503599627370496 ≤ mg r := by unfold mg; rw [if_neg (by omega)]; omega
theorem mg_small (r : Nat) (h : r < 9007199254740992) : mg r = r ∧ ex r = 0 := by
  unfold mg ex
  constructor
  · split <;> omega
  · omega

/-- What stands higher is more. -/
theorem rise (r q : Nat) (h : r < q) : ex r ≤ ex q ∧ mg r < mg q * 2 ^ (ex q - ex r) := by
  have hle : ex r ≤ ex q := by unfold ex; omega
  refine ⟨hle, ?_⟩
  by_cases he : ex q = ex r
  · rw [he, Nat.sub_self, Nat.pow_zero, Nat.mul_one]
    by_cases hq : q < 9007199254740992
    · rw [(mg_small q hq).1, (mg_small r (by omega)).1]; exact h
    · unfold ex at he
      unfold mg
      rw [if_neg (by omega), if_neg (by omega)]
      omega
  · obtain ⟨k, hk⟩ : ∃ k, ex q - ex r = k + 1 := ⟨ex q - ex r - 1, by omega⟩
    rw [hk]
    have h1 := mg_lt r
    have h2 := mg_ge q (by unfold ex at he hle; omega)
    have h3 : 2 ≤ 2 ^ (k + 1) := by
      rw [Nat.pow_succ]
      have := Nat.two_pow_pos k
      omega
    calc mg r < 4503599627370496 * 2 := by omega
      _ ≤ mg q * 2 ^ (k + 1) := Nat.mul_le_mul h2 h3

/-- The two at one place: as the rungs stand. -/
theorem cmp_rungs (r q : Nat) :
    compare (((mg r <<< ((-1074 + (ex r : Int)) - min (-1074 + (ex r : Int)) (-1074 + (ex q : Int))).toNat : Nat)) : Int) (((mg q <<< ((-1074 + (ex q : Int)) - min (-1074 + (ex r : Int)) (-1074 + (ex q : Int))).toNat : Nat)) : Int) = compare r q := by
  rcases Nat.lt_trichotomy r q with h | h | h
  · obtain ⟨hle, hlt⟩ := rise r q h
    have e1 : ((-1074 + (ex r : Int)) - min (-1074 + (ex r : Int)) (-1074 + (ex q : Int))).toNat = 0 := by omega
    have e2 : ((-1074 + (ex q : Int)) - min (-1074 + (ex r : Int)) (-1074 + (ex q : Int))).toNat = ex q - ex r := by omega
    rw [e1, e2, Nat.shiftLeft_eq, Nat.shiftLeft_eq, Nat.pow_zero, Nat.mul_one, Nat.compare_eq_lt.2 h]
    exact Int.compare_eq_lt.2 (by omega)
  · subst h
    rw [Int.min_self, Nat.compare_eq_eq.2 rfl]
    exact Int.compare_eq_eq.2 rfl
  · obtain ⟨hle, hlt⟩ := rise q r h
    have e1 : ((-1074 + (ex q : Int)) - min (-1074 + (ex r : Int)) (-1074 + (ex q : Int))).toNat = 0 := by omega
    have e2 : ((-1074 + (ex r : Int)) - min (-1074 + (ex r : Int)) (-1074 + (ex q : Int))).toNat = ex r - ex q := by omega
    rw [e1, e2, Nat.shiftLeft_eq, Nat.shiftLeft_eq, Nat.pow_zero, Nat.mul_one, Nat.compare_eq_gt.2 h]
    exact Int.compare_eq_gt.2 (by omega)

theorem order_pp (a c : Nat) (ha : a < 9218868437227405312) (hc : c < 9218868437227405312) : double.order a c = some (compare a c) := by
  unfold Format.order
  rw [read_pos a ha, read_pos c hc]
  simp only [Datum.order, signed]
  exact congrArg some (cmp_rungs a c)

/-- A number below 0, or -0, beside one that is not. -/
theorem order_np (a c : Nat) (h0 : 9223372036854775808 ≤ a) (ha : a < 18442240474082181120) (hc : c < 9218868437227405312) :
    double.order a c = some (if a = 9223372036854775808 ∧ c = 0 then .eq else .lt) := by
  unfold Format.order
  rw [read_neg a h0 ha, read_pos c hc]
  simp only [Datum.order, signed]
  generalize hr : a - 9223372036854775808 = r
  generalize (-1074 + (ex r : Int) - min (-1074 + (ex r : Int)) (-1074 + (ex c : Int))).toNat = x
  generalize (-1074 + (ex c : Int) - min (-1074 + (ex r : Int)) (-1074 + (ex c : Int))).toNat = y
  have m0 : ∀ q, mg q = 0 → q = 0 := by intro q h; unfold mg at h; split at h <;> omega
  have px := Nat.two_pow_pos x
  have py := Nat.two_pow_pos y
  rw [Nat.shiftLeft_eq, Nat.shiftLeft_eq]
  by_cases h : a = 9223372036854775808 ∧ c = 0
  · rw [if_pos h]
    obtain ⟨h1, h2⟩ := h
    have : r = 0 := by omega
    subst this h2
    simp [mg]
  · rw [if_neg h]
    refine congrArg some (Int.compare_eq_lt.2 ?_)
    simp only [if_true, if_false, Bool.false_eq_true]
    by_cases hc0 : c = 0
    · have hr0 : r ≠ 0 := by omega
      have := m0 r
      have h1 : 0 < mg r * 2 ^ x := Nat.mul_pos (by omega) px
      omega
    · have := m0 c
      have h1 : 0 < mg c * 2 ^ y := Nat.mul_pos (by omega) py
      omega

theorem order_self (a : Nat) (ha : a < 18446744073709551616) (h : cls a ≠ 0) : double.order a a = some .eq := by
  unfold Format.order
  by_cases h1 : a < 9218868437227405312
  · rw [read_pos a h1]; simp [Datum.order]
  · by_cases h2 : a = 9218868437227405312
    · rw [read_inf a h2]; rfl
    · by_cases h3 : 9223372036854775808 ≤ a ∧ a < 18442240474082181120
      · rw [read_neg a h3.1 h3.2]; simp [Datum.order]
      · have h4 : a = 18442240474082181120 := by
          unfold cls at h
          split at h
          · rw [if_neg (by omega)] at h
            exact absurd rfl h
          · rw [if_neg (by omega), if_neg (by omega)] at h
            split at h
            · assumption
            · exact absurd rfl h
        rw [read_minf a h4]; rfl

theorem order_nan (a c : Nat) (ha : a < 18446744073709551616) (h : cls a = 0) : double.order a c = none := by
  unfold Format.order
  obtain ⟨s, f, hf⟩ := read_nan a ha h
  rw [hf]
  rfl

theorem order_inf (c : Nat) (hc : c < 9218868437227405312) : double.order 9218868437227405312 c = some .gt := by
  unfold Format.order
  rw [read_inf _ rfl, read_pos c hc]
  rfl
theorem order_minf (c : Nat) (hc : c < 9218868437227405312) : double.order 18442240474082181120 c = some .lt := by
  unfold Format.order
  rw [read_minf _ rfl, read_pos c hc]
  rfl

theorem log2_up {m : Nat} (h : m ≠ 0) (k : Nat) : (m * 2 ^ k).log2 = m.log2 + k := by
  have hp := Nat.two_pow_pos k
  refine (Nat.log2_eq_iff (Nat.mul_ne_zero h (by omega))).2 ⟨?_, ?_⟩
  · rw [Nat.pow_add]; exact Nat.mul_le_mul_right _ (Nat.log2_self_le h)
  · rw [show m.log2 + k + 1 = (m.log2 + 1) + k by omega, Nat.pow_add]; exact Nat.mul_lt_mul_of_pos_right Nat.lt_log2_self hp

/-- A product with 2 to the power of 52 and more is written without rounding. -/
theorem nearest_exact (m : Nat) (hm : m ≠ 0) (hL : m.log2 ≤ 52) (p : Nat) :
    double.nearest false (m * 4503599627370496) (-1074 + (p : Int)) = min ((p + m.log2) * 4503599627370496 + m * 2 ^ (52 - m.log2)) 9218868437227405312 := by
  have hlog : (m * 4503599627370496).log2 = m.log2 + 52 := log2_up hm 52
  have hne : ¬ m * 4503599627370496 = 0 := by omega
  unfold Format.nearest
  rw [if_neg hne, lp, hlog, bi, ir]
  have hf : double.fractionBits = 52 := rfl
  rw [hf]
  generalize hLL : m.log2 = L at hL
  have e1 : max (-1074 + (p : Int) + ((L + 52 : Nat) : Int) - ((52 : Nat) : Int)) (-1074) = -1074 + (p : Int) + (L : Int) := by omega
  have e2 : (-1074 + (p : Int) - (-1074 + (p : Int) + (L : Int))).toNat = 0 := by omega
  have e3 : (-1074 + (p : Int) + (L : Int) - (-1074 + (p : Int))).toNat = L := by omega
  have e4 : (-1074 + (p : Int) + (L : Int) - -1074).toNat = p + L := by omega
  simp only [e1, e2, e3, e4, Nat.shiftLeft_zero, Format.word, Bool.false_eq_true, if_false]
  have hcut : Toward.even.cut false (m * 4503599627370496) L = m * 2 ^ (52 - L) := by
    unfold Toward.cut
    rw [hlog, hLL]
    have e5 : min L (L + 52 + 2) = L := by omega
    have e6 : m * 4503599627370496 = m * 2 ^ (52 - L) * 2 ^ L := by
      rw [Nat.mul_assoc, ← Nat.pow_add, show 52 - L + L = 52 by omega]
    have hp := Nat.two_pow_pos L
    rw [e5, e6]
    simp only [Nat.shiftLeft_eq, Nat.one_mul, Nat.mul_mod_left, Nat.mul_div_cancel _ hp]
    have e7 : (decide (2 ^ L < 2 * 0) || (2 ^ L == 2 * 0 && m * 2 ^ (52 - L) % 2 == 1)) = false := by
      have : (2 ^ L == 2 * 0) = false := by simp
      rw [this]
      simp
    simp only [e7, Bool.toNat_false, Nat.add_zero]
  rw [hcut]

theorem mg_ne (r : Nat) (h : 0 < r) : mg r ≠ 0 := by unfold mg; split <;> omega
theorem mg_log (r : Nat) (h : 0 < r) : (mg r).log2 ≤ 52 := by
  have := (Nat.log2_lt (mg_ne r h)).2 (show mg r < 2 ^ 53 from mg_lt r)
  omega
theorem log_norm (m : Nat) (h1 : 4503599627370496 ≤ m) (h2 : m < 9007199254740992) : m.log2 = 52 :=
  (Nat.log2_eq_iff (by omega)).2 ⟨h1, h2⟩

/-- A number times 2 to the power of 52 + k. -/
theorem mul_up (r c k : Nat) (h0 : 0 < r) (h : r < 9218868437227405312) (hc : double.read c = .number false 4503599627370496 k) :
    double.mul r c = some (min ((ex r + k + (mg r).log2) * 4503599627370496 + mg r * 2 ^ (52 - (mg r).log2)) 9218868437227405312) := by
  unfold Format.mul
  rw [read_pos r h, hc]
  simp only [Datum.product, Option.map_some, Format.write, Bool.bne_false]
  rw [show (-1074 + (ex r : Int)) + (k : Int) = -1074 + ((ex r + k : Nat) : Int) by omega, nearest_exact _ (mg_ne r h0) (mg_log r h0)]

theorem c53 : double.read 4845873199050653696 = .number false 4503599627370496 (1 : Nat) := by decide
theorem c52 : double.read 4841369599423283200 = .number false 4503599627370496 (0 : Nat) := by decide

/-- A normal one: its exponent's field rises. -/
theorem mul_norm (r c k : Nat) (h0 : 4503599627370496 ≤ r) (h : r + (52 + k) * 4503599627370496 < 9218868437227405312) (hc : double.read c = .number false 4503599627370496 k) :
    double.mul r c = some (r + (52 + k) * 4503599627370496) := by
  rw [mul_up r c k (by omega) (by omega) hc]
  have hl := log_norm (mg r) (mg_ge r h0) (mg_lt r)
  rw [hl, Nat.sub_self, Nat.pow_zero, Nat.mul_one]
  have e : ex r * 4503599627370496 + mg r = r := by
    unfold ex mg
    rw [if_neg (by omega)]
    omega
  congr 1
  omega

/-- One below the normal ones. -/
theorem mul_sub (r c k : Nat) (h0 : 0 < r) (h : r < 4503599627370496) (hk : k ≤ 1) (hc : double.read c = .number false 4503599627370496 k) :
    double.mul r c = some ((k + r.log2) * 4503599627370496 + r * 2 ^ (52 - r.log2)) := by
  rw [mul_up r c k h0 (by omega) hc]
  obtain ⟨e1, e2⟩ := mg_small r (by omega)
  have hl := mg_log r h0
  rw [e1] at hl
  rw [e1, e2]
  have hb : r * 2 ^ (52 - r.log2) < 9007199254740992 := by
    have h1 : r < 2 ^ (r.log2 + 1) := Nat.lt_log2_self
    calc r * 2 ^ (52 - r.log2) < 2 ^ (r.log2 + 1) * 2 ^ (52 - r.log2) := Nat.mul_lt_mul_of_pos_right h1 (Nat.two_pow_pos _)
      _ = 2 ^ 53 := by rw [← Nat.pow_add]; congr 1; omega
      _ = 9007199254740992 := by decide
  congr 1
  generalize r * 2 ^ (52 - r.log2) = z at hb
  generalize r.log2 = L at hl
  omega

theorem sub_field (r : Nat) (h0 : 0 < r) (h : r < 4503599627370496) : r.log2 < 52 ∧ 4503599627370496 ≤ r * 2 ^ (52 - r.log2) ∧ r * 2 ^ (52 - r.log2) < 9007199254740992 := by
  have hl : r.log2 < 52 := (Nat.log2_lt (by omega)).2 (show r < 2 ^ 52 from h)
  refine ⟨hl, ?_, ?_⟩
  · calc 4503599627370496 = 2 ^ 52 := by decide
      _ = 2 ^ r.log2 * 2 ^ (52 - r.log2) := by rw [← Nat.pow_add]; congr 1; omega
      _ ≤ r * 2 ^ (52 - r.log2) := Nat.mul_le_mul_right _ (Nat.log2_self_le (by omega))
  · have h1 : r < 2 ^ (r.log2 + 1) := Nat.lt_log2_self
    calc r * 2 ^ (52 - r.log2) < 2 ^ (r.log2 + 1) * 2 ^ (52 - r.log2) := Nat.mul_lt_mul_of_pos_right h1 (Nat.two_pow_pos _)
      _ = 2 ^ 53 := by rw [← Nat.pow_add]; congr 1; omega
      _ = 9007199254740992 := by decide

theorem big_div {x d : Nat} (h : x < 9007199254740992) (hd : 53 ≤ d) : x / 2 ^ d = 0 := by
  refine Nat.div_eq_of_lt (Nat.lt_of_lt_of_le h ?_)
  exact (Nat.pow_le_pow_right (by decide) hd : 2 ^ 53 ≤ 2 ^ d)

theorem cut_zero (s : Bool) (n d : Nat) : Toward.zero.cut s n d = n / 2 ^ d := by
  unfold Toward.cut
  simp only [Bool.toNat_false, Nat.add_zero, Nat.shiftLeft_eq, Nat.one_mul]
  by_cases h : d ≤ n.log2 + 2
  · rw [Nat.min_eq_left h]
  · have h1 : n < 2 ^ (n.log2 + 1) := Nat.lt_log2_self
    have h2 : 2 ^ (n.log2 + 1) ≤ 2 ^ (n.log2 + 2) := Nat.pow_le_pow_right (by decide) (by omega)
    have h3 : 2 ^ (n.log2 + 1) ≤ 2 ^ d := Nat.pow_le_pow_right (by decide) (by omega)
    rw [Nat.min_eq_right (by omega), Nat.div_eq_of_lt (by omega), Nat.div_eq_of_lt (by omega)]

/-- The whole of a number that is not below 0. -/
theorem whole (w : Nat) (h : w < 9218868437227405312) (d : Nat) (hd : ex w + d = 1074) : (double.read w).toInt .zero = some ((mg w / 2 ^ d : Nat) : Int) := by
  rw [read_pos w h]
  unfold Datum.toInt Datum.integral
  have e1 : (-1074 + (ex w : Int)).toNat = 0 := by omega
  have e2 : (-(-1074 + (ex w : Int))).toNat = d := by omega
  simp only [e1, e2, Nat.shiftLeft_zero, cut_zero, signed, Bool.false_eq_true, if_false]

/-- The first 53 places of a fraction as a whole number. -/
def frac (r : Nat) : Nat := mg r * 2 ^ ex r / 2 ^ 1021

theorem frac_mono {r q : Nat} (h : r ≤ q) : frac r ≤ frac q := by
  unfold frac
  refine Nat.div_le_div_right ?_
  rcases Nat.lt_or_eq_of_le h with h | h
  · obtain ⟨h1, h2⟩ := rise r q h
    calc mg r * 2 ^ ex r ≤ (mg q * 2 ^ (ex q - ex r)) * 2 ^ ex r := Nat.mul_le_mul_right _ (by omega)
      _ = mg q * 2 ^ ex q := by rw [Nat.mul_assoc, ← Nat.pow_add]; congr 2; omega
  · rw [h]; exact Nat.le_refl _

theorem frac_at (r d : Nat) (hd : ex r + d = 1021) : frac r = mg r / 2 ^ d := by
  unfold frac
  rw [← hd, Nat.add_comm, Nat.pow_add, Nat.mul_div_mul_right _ _ (Nat.two_pow_pos _)]

theorem frac_lt (r : Nat) (h : r < 4607182418800017408) : frac r < 9007199254740992 := by
  rw [frac_at r (1021 - ex r) (by unfold ex; omega)]
  exact Nat.lt_of_le_of_lt (Nat.div_le_self _ _) (mg_lt r)

/-- A fraction times 2 to the power of 53, cut to a whole number. -/
theorem mul53 (r : Nat) (h0 : 0 < r) (h : r < 4607182418800017408) :
    ∃ w, double.mul r 4845873199050653696 = some w ∧ (double.read w).toInt .zero = some ((frac r : Nat) : Int) := by
  by_cases hs : r < 4503599627370496
  · obtain ⟨hl, h1, h2⟩ := sub_field r h0 hs
    refine ⟨_, mul_sub r _ 1 h0 hs (by omega) c53, ?_⟩
    have h3 : frac r = 0 := by
      obtain ⟨u, hu⟩ : ∃ u, u = 1021 := ⟨_, rfl⟩
      rw [frac_at r u (by rw [(mg_small r (by omega)).2]; omega)]
      exact big_div (mg_lt r) (by omega)
    generalize r * 2 ^ (52 - r.log2) = z at *
    generalize r.log2 = L at *
    have hx : ex ((1 + L) * 4503599627370496 + z) = L + 1 := by unfold ex; omega
    rw [whole _ (by omega) (1073 - L) (by rw [hx]; omega), h3]
    congr 2
    exact big_div (mg_lt _) (by omega)
  · refine ⟨_, mul_norm r _ 1 (by omega) (by omega) c53, ?_⟩
    have hx : ex (r + (52 + 1) * 4503599627370496) = ex r + 53 := by unfold ex; omega
    have hm : mg (r + (52 + 1) * 4503599627370496) = mg r := by
      unfold mg
      rw [if_neg (by omega), if_neg hs]
      omega
    have hr : ex r ≤ 1021 := by unfold ex; omega
    rw [whole _ (by omega) (1021 - ex r) (by rw [hx]; omega), hm, frac_at r (1021 - ex r) (by omega)]

/-- A number from 1/2 on, below 1, times 2 to the power of 53. -/
theorem mul53_half (f : Nat) (h : f < 4503599627370496) :
    ∃ w, double.mul (4602678819172646912 + f) 4845873199050653696 = some w ∧ (double.read w).toInt .zero = some ((4503599627370496 + f : Nat) : Int) := by
  obtain ⟨w, h1, h2⟩ := mul53 (4602678819172646912 + f) (by omega) (by omega)
  refine ⟨w, h1, ?_⟩
  rw [h2, frac_at _ 0 (by unfold ex; omega)]
  congr 2
  unfold mg
  rw [if_neg (by omega), Nat.pow_zero, Nat.div_one]
  omega

end Go.Proofs.YtgococpbhbcpmaaDoor
