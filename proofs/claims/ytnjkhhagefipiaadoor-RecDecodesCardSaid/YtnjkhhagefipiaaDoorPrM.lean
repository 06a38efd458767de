/-
  What bytes come to, as plain arithmetic: a product of a whole number and a rung, cut to a whole number. No program stands here.
-/
import Derived.Test.YtnjkhhagefipiaaDoorReN
namespace Go.Proofs.YtnjkhhagefipiaaDoor
set_option linter.unusedVariables false
set_option linter.unusedSimpArgs false

/-- At most all bits. -/
def capM (x : Nat) : Nat := min x 18446744073709551615
/-- Times 2 to the power of e, rounded down. -/
def scale (p : Nat) (e : Int) : Nat := if 0 ≤ e then p * 2 ^ e.toNat else p / 2 ^ (-e).toNat
/-- What n bytes come to at the price b. -/
def dueV (n b : Nat) : Nat := if cls b = 5 then capM (scale (n * od b) (-1074 + ((ex b + tz b : Nat) : Int))) else 0

theorem capM_le (x : Nat) : capM x ≤ 18446744073709551615 := Nat.min_le_right _ _
theorem capM_max {x : Nat} (h : 18446744073709551615 ≤ x) : capM x = 18446744073709551615 := Nat.min_eq_right h
theorem capM_id {x : Nat} (h : x ≤ 18446744073709551615) : capM x = x := Nat.min_eq_left h
theorem capM_mono {x y : Nat} (h : x ≤ y) : capM x ≤ capM y := by unfold capM; omega

theorem scale_rung (n r : Nat) (h0 : 0 < r) : scale (n * od r) (-1074 + ((ex r + tz r : Nat) : Int)) = n * (mg r * 2 ^ ex r) / 2 ^ 1074 := by
  obtain ⟨h1, _, _⟩ := od_spec r h0
  obtain ⟨s, hs⟩ : ∃ s, s = ex r + tz r := ⟨_, rfl⟩
  have e1 : n * (mg r * 2 ^ ex r) = n * od r * 2 ^ s := by
    rw [h1, Nat.mul_assoc, Nat.mul_assoc, ← Nat.pow_add, hs, Nat.add_comm (tz r)]
  rw [← hs, e1]
  unfold scale
  obtain ⟨u, hu⟩ : ∃ u, u = 1074 := ⟨_, rfl⟩
  rw [← hu]
  by_cases h : 1074 ≤ s
  · rw [if_pos (by omega), show (-1074 + (s : Int)).toNat = s - u by omega]
    have e2 : 2 ^ s = 2 ^ (s - u) * 2 ^ u := by rw [← Nat.pow_add]; congr 1; omega
    rw [e2, ← Nat.mul_assoc, Nat.mul_div_cancel _ (Nat.two_pow_pos _)]
  · rw [if_neg (by omega), show (-(-1074 + (s : Int))).toNat = u - s by omega]
    have e2 : 2 ^ u = 2 ^ (u - s) * 2 ^ s := by rw [← Nat.pow_add]; congr 1; omega
    rw [e2, Nat.mul_div_mul_right _ _ (Nat.two_pow_pos _)]

theorem rung_mono {r q : Nat} (h : r ≤ q) : mg r * 2 ^ ex r ≤ mg q * 2 ^ ex q := by
  rcases Nat.lt_or_eq_of_le h with h | h
  · obtain ⟨h1, h2⟩ := rise r q h
    calc mg r * 2 ^ ex r ≤ (mg q * 2 ^ (ex q - ex r)) * 2 ^ ex r := Nat.mul_le_mul_right _ (by omega)
      _ = mg q * 2 ^ ex q := by rw [Nat.mul_assoc, ← Nat.pow_add]; congr 2; omega
  · rw [h]; exact Nat.le_refl _

theorem dueV_le (n b : Nat) : dueV n b ≤ 18446744073709551615 := by
  unfold dueV
  split
  · exact capM_le _
  · omega

theorem dueV_zero (b : Nat) : dueV 0 b = 0 := by
  unfold dueV
  split
  · unfold scale
    rw [Nat.zero_mul, Nat.zero_mul, Nat.zero_div]
    split <;> rfl
  · rfl

/-- More bytes at a price that is not less. -/
theorem dueV_mono {m n b c : Nat} (hb : 0 < b) (hc : 0 < c) (h1 : m ≤ n) (h2 : b ≤ c) (hc5 : cls b = 5) (hc6 : cls c = 5) : dueV m b ≤ dueV n c := by
  unfold dueV
  rw [if_pos hc5, if_pos hc6, scale_rung m b hb, scale_rung n c hc]
  exact capM_mono (Nat.div_le_div_right (Nat.mul_le_mul h1 (rung_mono h2)))

/-- Two words, divided by 2 to the power of k. -/
theorem two_far (h l k : Nat) (hl : l < 18446744073709551616) (hk : 64 ≤ k) : (h * 18446744073709551616 + l) / 2 ^ k = h / 2 ^ (k - 64) := by
  have e : 2 ^ k = 18446744073709551616 * 2 ^ (k - 64) := by
    rw [show (18446744073709551616 : Nat) = 2 ^ 64 by decide, ← Nat.pow_add]; congr 1; omega
  rw [e, ← Nat.div_div_eq_div_mul]
  congr 1
  omega

theorem two_near (h l k : Nat) (hl : l < 18446744073709551616) (hk : k < 64) (hh : h < 2 ^ k) :
    (h * 18446744073709551616 + l) / 2 ^ k = h * 2 ^ (64 - k) + l / 2 ^ k ∧ l / 2 ^ k < 2 ^ (64 - k) ∧ h * 2 ^ (64 - k) + l / 2 ^ k < 18446744073709551616 := by
  have e : (18446744073709551616 : Nat) = 2 ^ (64 - k) * 2 ^ k := by rw [← Nat.pow_add, show 64 - k + k = 64 by omega]
  have hp := Nat.two_pow_pos k
  have h1 : l / 2 ^ k < 2 ^ (64 - k) := (Nat.div_lt_iff_lt_mul hp).2 (by rw [← e]; exact hl)
  refine ⟨?_, h1, ?_⟩
  · rw [e, ← Nat.mul_assoc, Nat.add_comm, Nat.add_mul_div_right _ _ hp, Nat.add_comm]
  · rw [e, Nat.mul_comm (2 ^ (64 - k))]
    have h2 : (h + 1) * 2 ^ (64 - k) ≤ 2 ^ k * 2 ^ (64 - k) := Nat.mul_le_mul_right _ hh
    rw [Nat.add_mul] at h2
    omega

theorem two_high (h l k : Nat) (hk : k < 64) (hh : 2 ^ k ≤ h) : 18446744073709551616 ≤ (h * 18446744073709551616 + l) / 2 ^ k := by
  have hp := Nat.two_pow_pos k
  refine (Nat.le_div_iff_mul_le hp).2 ?_
  have : 18446744073709551616 * 2 ^ k ≤ 18446744073709551616 * h := Nat.mul_le_mul_left _ hh
  omega

/-- A word turned up and back again: whether it lost bits. -/
theorem turn_back (y k : Nat) (hy : y < 18446744073709551616) :
    (y * 2 ^ min k 64 % 18446744073709551616 / 2 ^ min k 64 ≠ y ∧ capM (y * 2 ^ k) = 18446744073709551615) ∨
    (y * 2 ^ min k 64 % 18446744073709551616 / 2 ^ min k 64 = y ∧ capM (y * 2 ^ k) = y * 2 ^ min k 64 % 18446744073709551616) := by
  have hp := Nat.two_pow_pos (min k 64)
  by_cases h : y * 2 ^ min k 64 < 18446744073709551616
  · refine .inr ?_
    rw [Nat.mod_eq_of_lt h, Nat.mul_div_cancel _ hp]
    refine ⟨rfl, ?_⟩
    by_cases hk : k ≤ 64
    · rw [Nat.min_eq_left hk] at h ⊢
      unfold capM
      omega
    · rw [Nat.min_eq_right (by omega)] at h ⊢
      have : y = 0 := by omega
      subst this
      rw [Nat.zero_mul, Nat.zero_mul]
      rfl
  · refine .inl ⟨?_, ?_⟩
    · intro he
      have h1 : y * 2 ^ min k 64 % 18446744073709551616 < 18446744073709551616 := Nat.mod_lt _ (by decide)
      have h2 : y * 2 ^ min k 64 % 18446744073709551616 / 2 ^ min k 64 * 2 ^ min k 64 ≤ y * 2 ^ min k 64 % 18446744073709551616 := Nat.div_mul_le_self _ _
      rw [he] at h2
      omega
    · have h1 : y * 2 ^ min k 64 ≤ y * 2 ^ k := Nat.mul_le_mul_left _ (Nat.pow_le_pow_right (by decide) (Nat.min_le_left _ _))
      unfold capM
      omega

end Go.Proofs.YtnjkhhagefipiaaDoor
