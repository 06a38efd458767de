/-
  Walks of package price: divided, product, Due, Check, Over, Add.
-/
import Derived.Test.YtjegnbpkmhkeoaaDoorPrM
import Derived.Test.YtjegnbpkmhkeoaaDoorReF
import Derived.Laws.Externs
namespace Go.Proofs.YtjegnbpkmhkeoaaDoor
open Go.RowKit
set_option linter.unusedVariables false
set_option linter.unusedSimpArgs false

theorem min_div (h j : Nat) (hh : h < 18446744073709551616) : (h : Int) / 2 ^ min j 64 = ((h / 2 ^ j : Nat) : Int) := by
  rw [int_div_pow]
  by_cases h64 : j ≤ 64
  · rw [Nat.min_eq_left h64]
  · rw [Nat.min_eq_right (by omega), Nat.div_eq_of_lt hh, Nat.div_eq_of_lt (Nat.lt_of_lt_of_le hh (Nat.pow_le_pow_right (by decide) (by omega) : 2 ^ 64 ≤ 2 ^ j))]

theorem div_far (h l k : Nat) (hk : 64 ≤ k) (hk2 : k ≤ 2000) (hh : h < 18446744073709551616) (W : World) :
    Calls Tryd.prog 28 #[.int .u64 h, .int .u64 l, .int .i64 k] W fun e W' => e = .returned (.tuple #[.int .u64 0, .int .u64 ((h / 2 ^ (k - 64) : Nat) : Int)]) ∧ ∃ n, W' = W.drewN n := by
  obtain ⟨j, rfl⟩ : ∃ j, k = j + 64 := ⟨k - 64, by omega⟩
  obtain ⟨c, hc⟩ : ∃ c : Int, c = ((j + 64 : Nat) : Int) := ⟨_, rfl⟩
  rw [← hc]
  rw [show j + 64 - 64 = j by omega]
  have t1 : (64 : Int) ≤ c := by omega
  have t2 : c ≤ 2000 := by omega
  have e1 : c - 64 = (j : Int) := by omega
  have e2 := min_div h j hh
  obtain ⟨v, hv⟩ : ∃ v, v = h / 2 ^ j := ⟨_, rfl⟩
  rw [← hv] at e2 ⊢
  clear hv hc hk hk2
  go_enter Tryd.func28, Tryd.ntmps28
  go_wp2
  go_quiet (fail)
  go_wp2
  go_ret2
  exact ⟨rfl, _, rfl⟩

theorem div_near (h l k a b : Nat) (hk : k < 64) (hk1 : 0 < k) (hh : h < 18446744073709551616) (hl : l < 18446744073709551616) (ha : h / 2 ^ k = a)
    (hb : bits .or .u64 (IntKind.u64.wrap ((h : Int) * 2 ^ (64 - k))) ((l : Int) / 2 ^ k) = (b : Int)) (W : World) :
    Calls Tryd.prog 28 #[.int .u64 h, .int .u64 l, .int .i64 k] W fun e W' => e = .returned (.tuple #[.int .u64 a, .int .u64 b]) ∧ ∃ n, W' = W.drewN n := by
  have t1 : ¬ (64 : Int) ≤ k := by omega
  have e1 : (64 : Int) - k = ((64 - k : Nat) : Int) := by omega
  have e2 : (h : Int) / 2 ^ k = (a : Int) := by rw [int_div_pow, ha]
  obtain ⟨j, hj⟩ : ∃ j, j = 64 - k := ⟨_, rfl⟩
  rw [← hj] at e1 hb
  have t2 : j ≤ 64 := by omega
  clear ha hj
  go_enter Tryd.func28, Tryd.ntmps28
  go_wp2
  go_quiet (fail)
  go_wp2
  go_ret2
  exact ⟨rfl, _, rfl⟩


theorem prod_neg (n m k x y hi lo V : Nat) (hk : 0 < k) (hk2 : k ≤ 2000) (W : World)
    (cm : ∀ W, Calls Tryd.prog 27 #[.int .u64 n, .int .u64 m] W fun e W' => e = .returned (.tuple #[.int .u64 x, .int .u64 y]) ∧ W = W')
    (cd : ∀ W, Calls Tryd.prog 28 #[.int .u64 x, .int .u64 y, .int .i64 k] W fun e W' => e = .returned (.tuple #[.int .u64 hi, .int .u64 lo]) ∧ ∃ n, W' = W.drewN n)
    (hlo : lo < 18446744073709551616) (hV : (0 < hi ∧ V = 18446744073709551615) ∨ (hi = 0 ∧ V = lo)) :
    Calls Tryd.prog 16 #[.int .u64 n, .int .u64 m, .int .i64 (-(k : Int))] W fun e W' => e = .returned (.int .u64 V) ∧ ∃ n, W' = W.drewN n := by
  obtain ⟨c, hc⟩ : ∃ c : Int, c = -(k : Int) := ⟨_, rfl⟩
  have e1 : -c = (k : Int) := by omega
  rw [← hc]
  have t1 : c < 0 := by omega
  have t2 : -2000 ≤ c := by omega
  clear hc
  rcases hV with ⟨h0, rfl⟩ | ⟨rfl, rfl⟩
  · go_enter Tryd.func16, Tryd.ntmps16
    go_wp2_with (first | (go_at_call 27; refine (cm _).mono ?_; rintro e w' ⟨rfl, rfl⟩) | (go_at_call 28; refine (cd _).mono ?_; rintro e w' ⟨rfl, q, rfl⟩))
    go_ret
    exact ⟨rfl, _, rfl⟩
  · go_enter Tryd.func16, Tryd.ntmps16
    go_wp2_with (first | (go_at_call 27; refine (cm _).mono ?_; rintro e w' ⟨rfl, rfl⟩) | (go_at_call 28; refine (cd _).mono ?_; rintro e w' ⟨rfl, q, rfl⟩))
    go_ret
    exact ⟨rfl, _, rfl⟩

theorem prod_pos (n m k x y V : Nat) (hk2 : k ≤ 2000) (W : World)
    (cm : ∀ W, Calls Tryd.prog 27 #[.int .u64 n, .int .u64 m] W fun e W' => e = .returned (.tuple #[.int .u64 x, .int .u64 y]) ∧ W = W')
    (hy : y < 18446744073709551616) (hV : (0 < x ∧ V = 18446744073709551615) ∨ (x = 0 ∧ V = capM (y * 2 ^ k))) :
    Calls Tryd.prog 16 #[.int .u64 n, .int .u64 m, .int .i64 (k : Int)] W fun e W' => e = .returned (.int .u64 V) ∧ ∃ n, W' = W.drewN n := by
  have t1 : ¬ (k : Int) < 0 := by omega
  have t0 : decide ((k : Int) < 0) = false := by simp
  rcases hV with ⟨h0, rfl⟩ | ⟨rfl, hV⟩
  · go_enter Tryd.func16, Tryd.ntmps16
    go_wp2_with (first | (go_at_call 27; refine (cm _).mono ?_; rintro e w' ⟨rfl, rfl⟩))
    go_ret
    exact ⟨rfl, 0, rfl⟩
  · have HT := turn_back y k hy
    obtain ⟨r, hr⟩ : ∃ r, r = y * 2 ^ min k 64 % 18446744073709551616 := ⟨_, rfl⟩
    obtain ⟨q, hq⟩ : ∃ q, q = r / 2 ^ min k 64 := ⟨_, rfl⟩
    rw [← hr, ← hq] at HT
    have e1 : IntKind.u64.wrap ((y : Int) * 2 ^ min k 64) = (r : Int) := by
      rw [IntKind.wrap_u64, hr, Int.natCast_emod, Int.natCast_mul, Int.natCast_pow]
      rfl
    have e2 : (r : Int) / 2 ^ min k 64 = (q : Int) := by rw [hq]; exact int_div_pow r _
    rw [← hV] at HT
    clear hr hq hV
    rcases HT with ⟨h1, rfl⟩ | ⟨h1, rfl⟩
    · have e3 : ((q : Int) != (y : Int)) = true := by simp; omega
      clear h1
      go_enter Tryd.func16, Tryd.ntmps16
      go_wp2_with (first | (go_at_call 27; refine (cm _).mono ?_; rintro e w' ⟨rfl, rfl⟩))
      go_ret
      exact ⟨rfl, 0, rfl⟩
    · subst h1
      have e3 : ((q : Int) != (q : Int)) = false := by simp
      go_enter Tryd.func16, Tryd.ntmps16
      go_wp2_with (first | (go_at_call 27; refine (cm _).mono ?_; rintro e w' ⟨rfl, rfl⟩))
      go_ret
      exact ⟨rfl, 0, rfl⟩

/-- A product of two numbers, of 64 and of 53 places, times a power of two. -/
theorem prod_any (n m : Nat) (p : Int) (hn : n < 18446744073709551616) (hm : m < 9007199254740992) (hp0 : -1074 ≤ p) (hp : p ≤ 2000) (W : World) :
    Calls Tryd.prog 16 #[.int .u64 n, .int .u64 m, .int .i64 p] W fun e W' => e = .returned (.int .u64 ((capM (scale (n * m) p) : Nat) : Int)) ∧ ∃ n, W' = W.drewN n := by
  have cm := fun W => mul64_any n m hn (by omega) W
  obtain ⟨x, hx⟩ : ∃ x, x = n * m / 18446744073709551616 := ⟨_, rfl⟩
  obtain ⟨y, hy⟩ : ∃ y, y = n * m % 18446744073709551616 := ⟨_, rfl⟩
  have hb : n * m < 18446744073709551616 * 9007199254740992 := Nat.mul_lt_mul_of_lt_of_le hn (by omega) (by decide)
  rw [← hx, ← hy] at cm
  have e : n * m = x * 18446744073709551616 + y := by omega
  rw [e]
  have hx2 : x < 9007199254740992 := by omega
  have hy2 : y < 18446744073709551616 := by omega
  clear hx hy hb e
  unfold scale
  by_cases h0 : 0 ≤ p
  · obtain ⟨k, rfl⟩ := Int.eq_ofNat_of_zero_le h0
    rw [if_pos h0]
    refine prod_pos n m k x y _ (by omega) W cm hy2 ?_
    rw [Int.toNat_natCast]
    by_cases hx0 : x = 0
    · subst hx0
      exact .inr ⟨rfl, by rw [Nat.zero_mul, Nat.zero_add]⟩
    · refine .inl ⟨by omega, ?_⟩
      have h1 : x * 18446744073709551616 + y ≤ (x * 18446744073709551616 + y) * 2 ^ k := Nat.le_mul_of_pos_right _ (Nat.two_pow_pos k)
      unfold capM
      omega
  · obtain ⟨k, hk⟩ : ∃ k : Nat, p = -(k : Int) := ⟨(-p).toNat, by omega⟩
    subst hk
    rw [if_neg h0, show (- -(k : Int)).toNat = k by omega]
    by_cases h64 : 64 ≤ k
    · rw [two_far x y k hy2 h64]
      have hb2 : x / 2 ^ (k - 64) ≤ x := Nat.div_le_self _ _
      refine prod_neg n m k x y 0 (x / 2 ^ (k - 64)) _ (by omega) (by omega) W cm (fun W => div_far x y k h64 (by omega) (by omega) W) (by omega) (.inr ⟨rfl, ?_⟩)
      unfold capM
      omega
    · by_cases hh : x < 2 ^ k
      · obtain ⟨g1, g2, g3⟩ := two_near x y k hy2 (by omega) hh
        rw [g1]
        obtain ⟨u, hu⟩ : ∃ u, u = x * 2 ^ (64 - k) := ⟨_, rfl⟩
        obtain ⟨v, hv⟩ : ∃ v, v = y / 2 ^ k := ⟨_, rfl⟩
        rw [← hu, ← hv] at g3
        have g4 : u + v = 2 ^ (64 - k) * x ||| v := by rw [← Nat.two_pow_add_eq_or_of_lt (by rw [hv]; exact g2) x, Nat.mul_comm, hu]
        have g5 : 2 ^ (64 - k) * x = u := by rw [Nat.mul_comm, hu]
        rw [g5] at g4
        have e1 : IntKind.u64.wrap ((x : Int) * 2 ^ (64 - k)) = (u : Int) := by
          have : ((x : Int) * 2 ^ (64 - k)) = (u : Int) := by rw [hu, Int.natCast_mul, Int.natCast_pow]; rfl
          rw [this, IntKind.wrap_u64]
          omega
        rw [← hu, ← hv]
        refine prod_neg n m k x y 0 (u + v) _ (by omega) (by omega) W cm (fun W => div_near x y k 0 _ (by omega) (by omega) (by omega) hy2 (Nat.div_eq_of_lt hh) ?_ W) g3 (.inr ⟨rfl, ?_⟩)
        · rw [e1, int_div_pow, ← hv, u64_or_nat _ _ (by omega) (by omega), ← g4]
        · unfold capM
          omega
      · have h1 := two_high x y k (by omega) (by omega)
        obtain ⟨u, hu⟩ : ∃ u, u = x * 2 ^ (64 - k) % 18446744073709551616 := ⟨_, rfl⟩
        have e1 : IntKind.u64.wrap ((x : Int) * 2 ^ (64 - k)) = (u : Int) := by
          rw [IntKind.wrap_u64, hu, Int.natCast_emod, Int.natCast_mul, Int.natCast_pow]
          rfl
        have hu2 : u < 2 ^ 64 := by rw [hu]; exact Nat.mod_lt _ (by decide)
        have hv2 : y / 2 ^ k < 2 ^ 64 := Nat.lt_of_le_of_lt (Nat.div_le_self _ _) hy2
        have hx0 : 0 < x / 2 ^ k := Nat.div_pos (by omega) (Nat.two_pow_pos k)
        obtain ⟨v, hv⟩ : ∃ v, v = y / 2 ^ k := ⟨_, rfl⟩
        rw [← hv] at hv2
        obtain ⟨b, hb⟩ : ∃ b, b = u ||| v := ⟨_, rfl⟩
        have hb2 : b < 2 ^ 64 := by rw [hb]; exact Nat.or_lt_two_pow hu2 hv2
        have hb3 : b < 18446744073709551616 := by omega
        have e2 : bits .or .u64 (IntKind.u64.wrap ((x : Int) * 2 ^ (64 - k))) ((y : Int) / 2 ^ k) = (b : Int) := by
          rw [e1, int_div_pow, ← hv, u64_or_nat _ _ hu2 hv2, ← hb]
        obtain ⟨z, hz⟩ : ∃ z, z = x / 2 ^ k := ⟨_, rfl⟩
        rw [← hz] at hx0
        have e3 : capM ((x * 18446744073709551616 + y) / 2 ^ k) = 18446744073709551615 := capM_max (Nat.le_trans (by decide) h1)
        rw [e3]
        exact prod_neg n m k x y z b _ (by omega) (by omega) W cm (fun W => div_near x y k z b (by omega) (by omega) (by omega) hy2 hz.symm e2 W) hb3 (.inl ⟨hx0, rfl⟩)

end Go.Proofs.YtjegnbpkmhkeoaaDoor
