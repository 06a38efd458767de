/-
  A number as an odd one times a power of two; the place that a fraction picks. Plain arithmetic. No program stands here.
-/
import Derived.Test.YtgococpbhbcpmaaDoorReM
import Derived.Lib.TrailingZeros
namespace Go.Proofs.YtgococpbhbcpmaaDoor
set_option linter.unusedVariables false
set_option linter.unusedSimpArgs false

/-- How often 2 divides what a rung stands for. -/
def tz (r : Nat) : Nat := Lib.ctz 64 (mg r)
/-- The odd part. -/
def od (r : Nat) : Nat := mg r / 2 ^ tz r

theorem ctz_spec (x : Nat) (h0 : 0 < x) (h : x < 18446744073709551616) : ∃ m, x = 2 ^ Lib.ctz 64 x * (2 * m + 1) ∧ Lib.ctz 64 x < 64 := by
  obtain ⟨m, h1, h2⟩ := Lib.ctzFrom_spec 64 x h0 h
  have e : Lib.ctz 64 x = Lib.ctzFrom 64 x := by simp [Lib.ctz]; omega
  exact ⟨m, by rw [e]; exact h1, by rw [e]; exact h2⟩

/-- The power of two in a number is one only. -/
theorem pow_unique {a b m n : Nat} (h : 2 ^ a * (2 * m + 1) = 2 ^ b * (2 * n + 1)) : a = b := by
  have go : ∀ (a b m n : Nat), a < b → 2 ^ a * (2 * m + 1) = 2 ^ b * (2 * n + 1) → False := by
    intro a b m n hab h
    obtain ⟨d, rfl⟩ : ∃ d, b = a + (d + 1) := ⟨b - a - 1, by omega⟩
    rw [Nat.pow_add, Nat.mul_assoc] at h
    have h2 := Nat.eq_of_mul_eq_mul_left (Nat.two_pow_pos a) h
    rw [Nat.pow_succ, Nat.mul_assoc] at h2
    have : 2 ^ d * (2 * (2 * n + 1)) = 2 * (2 ^ d * (2 * n + 1)) := by rw [Nat.mul_left_comm]
    omega
  rcases Nat.lt_trichotomy a b with h1 | h1 | h1
  · exact (go a b m n h1 h).elim
  · exact h1
  · exact (go b a n m h1 h.symm).elim

theorem od_spec (r : Nat) (h0 : 0 < r) : mg r = od r * 2 ^ tz r ∧ od r % 2 = 1 ∧ tz r < 53 := by
  have hm := mg_ne r h0
  have hl := mg_lt r
  obtain ⟨m, h1, h2⟩ := ctz_spec (mg r) (by omega) (by omega)
  have e : od r = 2 * m + 1 := by
    unfold od tz
    rw [h1]
    have : Lib.ctz 64 (2 ^ Lib.ctz 64 (mg r) * (2 * m + 1)) = Lib.ctz 64 (mg r) := by rw [← h1]
    rw [this, Nat.mul_div_cancel_left _ (Nat.two_pow_pos _)]
  refine ⟨by rw [e, Nat.mul_comm]; exact h1, by omega, ?_⟩
  apply Nat.lt_of_not_le
  intro h53
  have h3 : 2 ^ 53 ≤ 2 ^ tz r := Nat.pow_le_pow_right (by decide) h53
  have h4 : 2 ^ tz r ≤ 2 ^ tz r * (2 * m + 1) := Nat.le_mul_of_pos_right _ (by omega)
  have h5 : mg r = 2 ^ tz r * (2 * m + 1) := h1
  omega

/-- Half way: how often it has been halved. -/
theorem half_way (r t : Nat) (h0 : 0 < r) (ht : t < tz r) : mg r / 2 ^ t % 2 = 0 ∧ mg r / 2 ^ t / 2 = mg r / 2 ^ (t + 1) ∧ 0 < mg r / 2 ^ t := by
  obtain ⟨h1, h2, _⟩ := od_spec r h0
  obtain ⟨d, hd⟩ : ∃ d, tz r = t + (d + 1) := ⟨tz r - t - 1, by omega⟩
  have e : mg r / 2 ^ t = 2 * (od r * 2 ^ d) := by
    have hp := Nat.two_pow_pos t
    conv => lhs; rw [h1, hd, Nat.pow_add, Nat.mul_left_comm, Nat.mul_div_cancel_left _ hp, Nat.pow_succ]
    rw [← Nat.mul_assoc, Nat.mul_comm]
  refine ⟨by omega, by rw [Nat.div_div_eq_div_mul, ← Nat.pow_succ], ?_⟩
  have : 0 < od r * 2 ^ d := Nat.mul_pos (by omega) (Nat.two_pow_pos d)
  omega

theorem way_lt (r t : Nat) : mg r / 2 ^ t < 9007199254740992 := Nat.lt_of_le_of_lt (Nat.div_le_self _ _) (mg_lt r)

/-- What is 1 or more, by its odd part. -/
theorem one_up (r : Nat) (h : 4607182418800017408 ≤ r) (hp : ex r + tz r < 1074) : 1074 - (ex r + tz r) < 64 ∧ 0 < od r / 2 ^ (1074 - (ex r + tz r)) := by
  obtain ⟨h1, h2, h3⟩ := od_spec r (by omega)
  have hx : 1022 ≤ ex r := by unfold ex; omega
  refine ⟨by omega, Nat.div_pos ?_ (Nat.two_pow_pos _)⟩
  have hm := mg_ge r (by omega)
  have hp := Nat.two_pow_pos (tz r)
  apply Nat.le_of_not_lt
  intro hlt
  have h5 : od r * 2 ^ tz r < 2 ^ (1074 - (ex r + tz r)) * 2 ^ tz r := Nat.mul_lt_mul_of_pos_right hlt hp
  rw [← h1, ← Nat.pow_add] at h5
  have h6 : 2 ^ (1074 - (ex r + tz r) + tz r) ≤ 2 ^ 52 := Nat.pow_le_pow_right (by decide) (by omega)
  omega

/-- What is below 1, by its odd part. -/
theorem one_down (r : Nat) (h0 : 0 < r) (h : r < 4607182418800017408) : ex r + tz r < 1074 ∧ od r < 2 ^ (1074 - (ex r + tz r)) := by
  obtain ⟨h1, h2, h3⟩ := od_spec r h0
  have hx : ex r ≤ 1021 := by unfold ex; omega
  refine ⟨by omega, ?_⟩
  have hm := mg_lt r
  have hp := Nat.two_pow_pos (tz r)
  apply Nat.lt_of_not_le
  intro hle
  have h5 : 2 ^ (1074 - (ex r + tz r)) * 2 ^ tz r ≤ od r * 2 ^ tz r := Nat.mul_le_mul_right _ hle
  rw [← h1, ← Nat.pow_add] at h5
  have h6 : 2 ^ 53 ≤ 2 ^ (1074 - (ex r + tz r) + tz r) := Nat.pow_le_pow_right (by decide) (by omega)
  omega

/-- The places so far. -/
def kk (m q i : Nat) : Nat := m * 2 ^ i / 2 ^ q

theorem kk_zero (m q : Nat) (h : m < 2 ^ q) : kk m q 0 = 0 := by
  unfold kk
  rw [Nat.pow_zero, Nat.mul_one]
  exact Nat.div_eq_of_lt h

theorem kk_in (m q i : Nat) (h : i < q) : kk m q (i + 1) = 2 * kk m q i + m / 2 ^ (q - (i + 1)) % 2 := by
  obtain ⟨d, rfl⟩ : ∃ d, q = i + 1 + d := ⟨q - i - 1, by omega⟩
  have e1 : kk m (i + 1 + d) (i + 1) = m / 2 ^ d := by
    unfold kk
    rw [Nat.pow_add 2 (i + 1) d, Nat.mul_comm, Nat.mul_div_mul_left _ _ (Nat.two_pow_pos _)]
  have e2 : kk m (i + 1 + d) i = m / 2 ^ (d + 1) := by
    unfold kk
    rw [show i + 1 + d = i + (d + 1) by omega, Nat.pow_add, Nat.mul_comm, Nat.mul_div_mul_left _ _ (Nat.two_pow_pos _)]
  rw [e1, e2, show i + 1 + d - (i + 1) = d by omega, Nat.pow_succ, ← Nat.div_div_eq_div_mul]
  omega

theorem kk_out (m q i : Nat) (h : q ≤ i) : kk m q (i + 1) = 2 * kk m q i := by
  obtain ⟨d, rfl⟩ : ∃ d, i = q + d := ⟨i - q, by omega⟩
  unfold kk
  have hp := Nat.two_pow_pos q
  have e : ∀ j, m * 2 ^ (q + j) / 2 ^ q = m * 2 ^ j := by
    intro j
    rw [Nat.pow_add, Nat.mul_left_comm, Nat.mul_div_cancel_left _ hp]
  rw [show q + d + 1 = q + (d + 1) by omega, e, e, Nat.pow_succ, ← Nat.mul_assoc, Nat.mul_comm]

theorem kk_far (m q i : Nat) (hm : m < 9007199254740992) (h : i + 64 < q) : kk m q (i + 1) = 2 * kk m q i := by
  rw [kk_in m q i (by omega)]
  have h1 : 2 ^ 53 ≤ 2 ^ (q - (i + 1)) := Nat.pow_le_pow_right (by decide) (by omega)
  rw [Nat.div_eq_of_lt (by omega)]
  omega

theorem kk_le (m q i : Nat) (h : m < 2 ^ q) : kk m q i < 2 ^ i := by
  unfold kk
  exact (Nat.div_lt_iff_lt_mul (Nat.two_pow_pos q)).2 (by rw [Nat.mul_comm]; exact Nat.mul_lt_mul_of_pos_left h (Nat.two_pow_pos i))

theorem kk_end (r : Nat) (h0 : 0 < r) (h : r < 4607182418800017408) : kk (od r) (1074 - (ex r + tz r)) 53 = frac r := by
  obtain ⟨h1, h2, h3⟩ := od_spec r h0
  obtain ⟨h4, h5⟩ := one_down r h0 h
  unfold kk frac
  rw [h1, Nat.mul_assoc, ← Nat.pow_add]
  obtain ⟨s, hs⟩ : ∃ s, s = tz r + ex r := ⟨_, rfl⟩
  rw [← hs, show ex r + tz r = s by omega]
  obtain ⟨u, hu⟩ : ∃ u, u = 1021 := ⟨_, rfl⟩
  rw [← hu]
  have e1 : 2 ^ u * 2 ^ 53 = 2 ^ (1074 - s) * 2 ^ s := by rw [← Nat.pow_add, ← Nat.pow_add]; congr 1; omega
  rw [← Nat.mul_div_mul_right (od r * 2 ^ 53) _ (Nat.two_pow_pos s), ← Nat.mul_div_mul_right (od r * 2 ^ s) _ (Nat.two_pow_pos 53), e1, Nat.mul_right_comm]

/-- Long multiplication: what is out, and what rests. -/
theorem long_step (k n c o t : Nat) (hk : k < 9007199254740992) (ht : t < 9007199254740992) (h : o * 9007199254740992 + t = k * (n / 2 ^ (c + 1))) :
    (2 * o + (2 * t + (n / 2 ^ c % 2) * k) / 9007199254740992) * 9007199254740992 + (2 * t + (n / 2 ^ c % 2) * k) % 9007199254740992 = k * (n / 2 ^ c) := by
  have e : n / 2 ^ c = 2 * (n / 2 ^ (c + 1)) + n / 2 ^ c % 2 := by
    rw [Nat.pow_succ, ← Nat.div_div_eq_div_mul]; omega
  have e2 : k * (n / 2 ^ c) = 2 * (k * (n / 2 ^ (c + 1))) + (n / 2 ^ c % 2) * k := by
    conv => lhs; rw [e, Nat.mul_add, Nat.mul_left_comm, Nat.mul_comm k (n / 2 ^ c % 2)]
  rw [e2, ← h]
  generalize (n / 2 ^ c % 2) * k = z
  clear e e2 h
  omega

theorem long_out (k n c o t : Nat) (hk : k < 9007199254740992) (h : o * 9007199254740992 + t = k * (n / 2 ^ c)) : o ≤ n := by
  have h1 : n / 2 ^ c ≤ n := Nat.div_le_self _ _
  have h2 : k * (n / 2 ^ c) ≤ 9007199254740992 * n := Nat.mul_le_mul (by omega) h1
  omega

theorem long_end (k n o t : Nat) (ht : t < 9007199254740992) (h : o * 9007199254740992 + t = k * (n / 2 ^ 0)) : o = k * n / 9007199254740992 := by
  rw [Nat.pow_zero, Nat.div_one] at h
  rw [← h]
  omega

/-- The place that a fraction picks. -/
def pickV (b n : Nat) : Nat :=
  if cls b = 5 ∨ cls b = 6 then (if 4607182418800017408 ≤ b then n - 1 else frac b * n / 9007199254740992) else 0

theorem pick_lt (k n : Nat) (hk : k < 9007199254740992) (hn : 0 < n) : k * n / 9007199254740992 < n :=
  (Nat.div_lt_iff_lt_mul (by decide)).2 (by rw [Nat.mul_comm n]; exact Nat.mul_lt_mul_of_pos_right hk hn)

end Go.Proofs.YtgococpbhbcpmaaDoor
