/-
  Walks of the laws of package real: RealClasses, RealOrder, RealPicks.
-/
import Derived.Test.YtcjlokjjjmmomaaReD
namespace Go.Proofs.Ytcjlokjjjmmomaa
open Go.RowKit
set_option linter.unusedVariables false
set_option linter.unusedSimpArgs false

theorem realClasses_law (b : Int) (W : World) (hb0 : 0 ≤ b) (hb : b ≤ 18446744073709551615) :
    Calls Try.prog 3 #[.int .u64 b] W fun e W' => e = .returned (.bool true) ∧ Below W.heap.size W W' := by
  obtain ⟨n, rfl⟩ := Int.eq_ofNat_of_zero_le hb0
  have hn : n < 18446744073709551616 := by omega
  have c1 := fun W => class_any n hn W
  have c2 := fun W => refClass_any n hn W
  have c3 := fun W => canon_any n hn W
  have c4 := fun W => refCanon_any n hn W
  generalize cls n = c at c1 c2
  generalize canonV n = v at c3 c4
  have t1 : ((c : Int) == (c : Int)) = true := by simp
  have t2 : ((v : Int) == (v : Int)) = true := by simp
  clear hn hb hb0
  go_enter Try.func3, Try.ntmps3
  go_wp2_with (first | (go_at_call 6; refine (c1 _).mono ?_; rintro e w' ⟨rfl, rfl⟩) | (go_at_call 7; refine (c2 _).mono ?_; rintro e w' ⟨rfl, rfl⟩) | (go_at_call 8; refine (c3 _).mono ?_; rintro e w' ⟨rfl, rfl⟩) | (go_at_call 9; refine (c4 _).mono ?_; rintro e w' ⟨rfl, rfl⟩) | (go_at_call 10; refine (awake5_any _).mono ?_; rintro e w' ⟨rfl, rfl⟩))
  go_ret
  exact ⟨rfl, Below.refl _ _⟩

/-- Two keys are one just if the words are, or both are no number. -/
theorem key_same (a b : Nat) (ha : a < 18446744073709551616) (hb : b < 18446744073709551616) : keyV a = keyV b ↔ (a = b ∨ (cls a = 0 ∧ cls b = 0)) := by
  have h1 := key_says a ha
  have h2 := key_says b hb
  constructor
  · intro h
    generalize cls a = x at *
    generalize cls b = y at *
    generalize keyV a = p at *
    generalize keyV b = q at *
    subst h
    by_cases hx : x = 0
    · have e : p = 18446744073709551615 := by rcases h1 with g | g | g | g | g | g | g <;> omega
      refine .inr ⟨hx, ?_⟩
      rcases h2 with g | g | g | g | g | g | g <;> omega
    · refine .inl ?_
      rcases h1 with g | g | g | g | g | g | g <;> rcases h2 with k | k | k | k | k | k | k <;> omega
  · rintro (h | ⟨hx, hy⟩)
    · rw [h]
    · unfold keyV
      rw [if_pos hx, if_pos hy]

/-- The order's law, out of what its calls tell. -/
theorem order_of (a b ca cb x y : Nat) (l g : Bool) (W : World)
    (l1 : ∀ W, Calls Try.prog 11 #[.int .u64 a, .int .u64 b] W fun e W' => e = .returned (.bool l) ∧ W = W')
    (l2 : ∀ W, Calls Try.prog 11 #[.int .u64 b, .int .u64 a] W fun e W' => e = .returned (.bool g) ∧ W = W')
    (l3 : ∀ W, Calls Try.prog 12 #[.int .u64 a, .int .u64 b] W fun e W' => e = .returned (.bool l) ∧ W = W')
    (cca : ∀ W, Calls Try.prog 7 #[.int .u64 a] W fun e W' => e = .returned (.int .i64 (ca : Nat)) ∧ W = W')
    (ccb : ∀ W, Calls Try.prog 7 #[.int .u64 b] W fun e W' => e = .returned (.int .i64 (cb : Nat)) ∧ W = W')
    (ka : ∀ W, Calls Try.prog 13 #[.int .u64 a] W fun e W' => e = .returned (.int .u64 (x : Nat)) ∧ W = W')
    (kb : ∀ W, Calls Try.prog 13 #[.int .u64 b] W fun e W' => e = .returned (.int .u64 (y : Nat)) ∧ W = W')
    (hl : l = decide (x < y)) (hg : g = decide (y < x)) (hs : x = y ↔ (a = b ∨ (ca = 0 ∧ cb = 0))) :
    Calls Try.prog 4 #[.int .u64 a, .int .u64 b] W fun e W' => e = .returned (.bool true) ∧ Below W.heap.size W W' := by
  have hcase : (x < y ∧ l = true ∧ g = false ∧ a ≠ b ∧ (ca ≠ 0 ∨ (ca = 0 ∧ cb ≠ 0))) ∨ (y < x ∧ l = false ∧ g = true ∧ a ≠ b ∧ (ca ≠ 0 ∨ (ca = 0 ∧ cb ≠ 0))) ∨ (x = y ∧ l = false ∧ g = false ∧ (a = b ∨ (a ≠ b ∧ ca = 0 ∧ cb = 0))) := by
    subst hl hg
    rcases Nat.lt_trichotomy x y with h | h | h
    · have hn : ¬ (a = b ∨ (ca = 0 ∧ cb = 0)) := fun k => by have := hs.2 k; omega
      exact .inl ⟨h, by simp [h], by simp; omega, by omega, by omega⟩
    · have hn := hs.1 h
      exact .inr (.inr ⟨h, by simp; omega, by simp; omega, by omega⟩)
    · have hn : ¬ (a = b ∨ (ca = 0 ∧ cb = 0)) := fun k => by have := hs.2 k; omega
      exact .inr (.inl ⟨h, by simp; omega, by simp [h], by omega, by omega⟩)
  clear hl hg hs
  rcases hcase with ⟨h, rfl, rfl, hne, hc⟩ | ⟨h, rfl, rfl, hne, hc⟩ | ⟨rfl, rfl, rfl, hc⟩
  · have t1 : ((a : Int) == (b : Int)) = false := by simp; omega
    have t3 : decide (x < y) = true := by simp [h]
    have t4 : decide (y < x) = false := by simp; omega
    clear h hne
    rcases hc with hc | ⟨rfl, hc⟩
    · have t2 : ((ca : Int) == 0) = false := by simp; omega
      clear hc
      go_enter Try.func4, Try.ntmps4
      go_wp2_with (first | (go_at_call 11; ((with_reducible refine (l1 _).mono ?_); rintro e w' ⟨rfl, rfl⟩)) | (go_at_call 11; ((with_reducible refine (l2 _).mono ?_); rintro e w' ⟨rfl, rfl⟩)) | (go_at_call 12; refine (l3 _).mono ?_; rintro e w' ⟨rfl, rfl⟩) | (go_at_call 7; ((with_reducible refine (cca _).mono ?_); rintro e w' ⟨rfl, rfl⟩)) | (go_at_call 7; ((with_reducible refine (ccb _).mono ?_); rintro e w' ⟨rfl, rfl⟩)) | (go_at_call 13; ((with_reducible refine (ka _).mono ?_); rintro e w' ⟨rfl, rfl⟩)) | (go_at_call 13; ((with_reducible refine (kb _).mono ?_); rintro e w' ⟨rfl, rfl⟩)) | (go_at_call 10; refine (awake5_any _).mono ?_; rintro e w' ⟨rfl, rfl⟩))
      go_ret
      exact ⟨rfl, Below.refl _ _⟩
    · have t2 : ((cb : Int) == 0) = false := by simp; omega
      clear hc
      go_enter Try.func4, Try.ntmps4
      go_wp2_with (first | (go_at_call 11; ((with_reducible refine (l1 _).mono ?_); rintro e w' ⟨rfl, rfl⟩)) | (go_at_call 11; ((with_reducible refine (l2 _).mono ?_); rintro e w' ⟨rfl, rfl⟩)) | (go_at_call 12; refine (l3 _).mono ?_; rintro e w' ⟨rfl, rfl⟩) | (go_at_call 7; ((with_reducible refine (cca _).mono ?_); rintro e w' ⟨rfl, rfl⟩)) | (go_at_call 7; ((with_reducible refine (ccb _).mono ?_); rintro e w' ⟨rfl, rfl⟩)) | (go_at_call 13; ((with_reducible refine (ka _).mono ?_); rintro e w' ⟨rfl, rfl⟩)) | (go_at_call 13; ((with_reducible refine (kb _).mono ?_); rintro e w' ⟨rfl, rfl⟩)) | (go_at_call 10; refine (awake5_any _).mono ?_; rintro e w' ⟨rfl, rfl⟩))
      go_ret
      exact ⟨rfl, Below.refl _ _⟩
  · have t1 : ((a : Int) == (b : Int)) = false := by simp; omega
    have t3 : decide (x < y) = false := by simp; omega
    have t4 : decide (y < x) = true := by simp [h]
    clear h hne
    rcases hc with hc | ⟨rfl, hc⟩
    · have t2 : ((ca : Int) == 0) = false := by simp; omega
      clear hc
      go_enter Try.func4, Try.ntmps4
      go_wp2_with (first | (go_at_call 11; ((with_reducible refine (l1 _).mono ?_); rintro e w' ⟨rfl, rfl⟩)) | (go_at_call 11; ((with_reducible refine (l2 _).mono ?_); rintro e w' ⟨rfl, rfl⟩)) | (go_at_call 12; refine (l3 _).mono ?_; rintro e w' ⟨rfl, rfl⟩) | (go_at_call 7; ((with_reducible refine (cca _).mono ?_); rintro e w' ⟨rfl, rfl⟩)) | (go_at_call 7; ((with_reducible refine (ccb _).mono ?_); rintro e w' ⟨rfl, rfl⟩)) | (go_at_call 13; ((with_reducible refine (ka _).mono ?_); rintro e w' ⟨rfl, rfl⟩)) | (go_at_call 13; ((with_reducible refine (kb _).mono ?_); rintro e w' ⟨rfl, rfl⟩)) | (go_at_call 10; refine (awake5_any _).mono ?_; rintro e w' ⟨rfl, rfl⟩))
      go_ret
      exact ⟨rfl, Below.refl _ _⟩
    · have t2 : ((cb : Int) == 0) = false := by simp; omega
      clear hc
      go_enter Try.func4, Try.ntmps4
      go_wp2_with (first | (go_at_call 11; ((with_reducible refine (l1 _).mono ?_); rintro e w' ⟨rfl, rfl⟩)) | (go_at_call 11; ((with_reducible refine (l2 _).mono ?_); rintro e w' ⟨rfl, rfl⟩)) | (go_at_call 12; refine (l3 _).mono ?_; rintro e w' ⟨rfl, rfl⟩) | (go_at_call 7; ((with_reducible refine (cca _).mono ?_); rintro e w' ⟨rfl, rfl⟩)) | (go_at_call 7; ((with_reducible refine (ccb _).mono ?_); rintro e w' ⟨rfl, rfl⟩)) | (go_at_call 13; ((with_reducible refine (ka _).mono ?_); rintro e w' ⟨rfl, rfl⟩)) | (go_at_call 13; ((with_reducible refine (kb _).mono ?_); rintro e w' ⟨rfl, rfl⟩)) | (go_at_call 10; refine (awake5_any _).mono ?_; rintro e w' ⟨rfl, rfl⟩))
      go_ret
      exact ⟨rfl, Below.refl _ _⟩
  · rcases hc with rfl | ⟨hne, rfl, rfl⟩
    · have t1 : ((a : Int) == (a : Int)) = true := by simp
      go_enter Try.func4, Try.ntmps4
      go_wp2_with (first | (go_at_call 11; ((with_reducible refine (l1 _).mono ?_); rintro e w' ⟨rfl, rfl⟩)) | (go_at_call 11; ((with_reducible refine (l2 _).mono ?_); rintro e w' ⟨rfl, rfl⟩)) | (go_at_call 12; refine (l3 _).mono ?_; rintro e w' ⟨rfl, rfl⟩) | (go_at_call 7; ((with_reducible refine (cca _).mono ?_); rintro e w' ⟨rfl, rfl⟩)) | (go_at_call 7; ((with_reducible refine (ccb _).mono ?_); rintro e w' ⟨rfl, rfl⟩)) | (go_at_call 13; ((with_reducible refine (ka _).mono ?_); rintro e w' ⟨rfl, rfl⟩)) | (go_at_call 13; ((with_reducible refine (kb _).mono ?_); rintro e w' ⟨rfl, rfl⟩)) | (go_at_call 10; refine (awake5_any _).mono ?_; rintro e w' ⟨rfl, rfl⟩))
      go_ret
      exact ⟨rfl, Below.refl _ _⟩
    · have t1 : ((a : Int) == (b : Int)) = false := by simp; omega
      clear hne
      go_enter Try.func4, Try.ntmps4
      go_wp2_with (first | (go_at_call 11; ((with_reducible refine (l1 _).mono ?_); rintro e w' ⟨rfl, rfl⟩)) | (go_at_call 11; ((with_reducible refine (l2 _).mono ?_); rintro e w' ⟨rfl, rfl⟩)) | (go_at_call 12; refine (l3 _).mono ?_; rintro e w' ⟨rfl, rfl⟩) | (go_at_call 7; ((with_reducible refine (cca _).mono ?_); rintro e w' ⟨rfl, rfl⟩)) | (go_at_call 7; ((with_reducible refine (ccb _).mono ?_); rintro e w' ⟨rfl, rfl⟩)) | (go_at_call 13; ((with_reducible refine (ka _).mono ?_); rintro e w' ⟨rfl, rfl⟩)) | (go_at_call 13; ((with_reducible refine (kb _).mono ?_); rintro e w' ⟨rfl, rfl⟩)) | (go_at_call 10; refine (awake5_any _).mono ?_; rintro e w' ⟨rfl, rfl⟩))
      go_ret
      exact ⟨rfl, Below.refl _ _⟩

theorem realOrder_law (a b : Int) (W : World) (ha0 : 0 ≤ a) (ha : a ≤ 18446744073709551615) (hb0 : 0 ≤ b) (hb : b ≤ 18446744073709551615) :
    Calls Try.prog 4 #[.int .u64 a, .int .u64 b] W fun e W' => e = .returned (.bool true) ∧ Below W.heap.size W W' := by
  obtain ⟨m, rfl⟩ := Int.eq_ofNat_of_zero_le ha0
  obtain ⟨n, rfl⟩ := Int.eq_ofNat_of_zero_le hb0
  have hm : m < 18446744073709551616 := by omega
  have hn : n < 18446744073709551616 := by omega
  exact order_of m n (cls m) (cls n) (keyV m) (keyV n) _ _ W (fun W => less_any m n hm hn W _ rfl) (fun W => less_any n m hn hm W _ rfl) (fun W => refLess_any m n hm hn W _ rfl)
    (refClass_any m hm) (refClass_any n hn) (key_any m hm) (key_any n hn) rfl rfl (key_same m n hm hn)

theorem pickV_lt (b n : Nat) (hn : 0 < n) : pickV b n < n := by
  unfold pickV
  split
  · split
    · omega
    · exact pick_lt _ n (frac_lt b (by omega)) hn
  · exact hn

/-- A greater fraction never picks less. -/
theorem pickV_mono (a b n : Nat) (ha : a < 18446744073709551616) (hb : b < 18446744073709551616) (hn : 0 < n) (hca : cls a ≠ 0) (hcb : cls b ≠ 0) (h : keyV a < keyV b) : pickV a n ≤ pickV b n := by
  by_cases h56 : cls a = 5 ∨ cls a = 6
  · have h1 := key_says a ha
    have h2 := key_says b hb
    have hla := pickV_lt a n hn
    have hcb2 : (cls b = 5 ∨ cls b = 6) ∧ a < b := by
      generalize cls a = x at *
      generalize cls b = y at *
      generalize keyV a = p at *
      generalize keyV b = q at *
      rcases h56 with rfl | rfl
      · have e : p = a + 9223372036854775808 ∧ a < 9218868437227405312 := by rcases h1 with g | g | g | g | g | g | g <;> omega
        rcases h2 with g | g | g | g | g | g | g <;> omega
      · have e : p = 18442240474082181120 := by rcases h1 with g | g | g | g | g | g | g <;> omega
        rcases h2 with g | g | g | g | g | g | g <;> omega
    obtain ⟨hb56, hab⟩ := hcb2
    by_cases hb1 : 4607182418800017408 ≤ b
    · have e : pickV b n = n - 1 := by unfold pickV; rw [if_pos hb56, if_pos hb1]
      omega
    · have e1 : pickV b n = frac b * n / 9007199254740992 := by unfold pickV; rw [if_pos hb56, if_neg hb1]
      have e2 : pickV a n = frac a * n / 9007199254740992 := by unfold pickV; rw [if_pos h56, if_neg (by omega)]
      rw [e1, e2]
      exact Nat.div_le_div_right (Nat.mul_le_mul_right n (frac_mono (by omega)))
  · have e : pickV a n = 0 := by unfold pickV; rw [if_neg h56]
    omega

theorem picks_of (a b ca cb : Nat) (n p q : Int) (l : Bool) (W : World) (hn0 : -9223372036854775808 ≤ n) (hn : n ≤ 1125899906842624)
    (p1 : ∀ W, Calls Try.prog 14 #[.int .u64 a, .int .i64 n] W fun e W' => e = .returned (.int .i64 p) ∧ W = W')
    (p2 : ∀ W, Calls Try.prog 14 #[.int .u64 b, .int .i64 n] W fun e W' => e = .returned (.int .i64 q) ∧ W = W')
    (r1 : ∀ W, Calls Try.prog 15 #[.int .u64 a, .int .i64 n] W fun e W' => e = .returned (.int .i64 p) ∧ W = W')
    (r2 : ∀ W, Calls Try.prog 15 #[.int .u64 b, .int .i64 n] W fun e W' => e = .returned (.int .i64 q) ∧ W = W')
    (l3 : ∀ W, Calls Try.prog 12 #[.int .u64 a, .int .u64 b] W fun e W' => e = .returned (.bool l) ∧ W = W')
    (cca : ∀ W, Calls Try.prog 7 #[.int .u64 a] W fun e W' => e = .returned (.int .i64 (ca : Nat)) ∧ W = W')
    (ccb : ∀ W, Calls Try.prog 7 #[.int .u64 b] W fun e W' => e = .returned (.int .i64 (cb : Nat)) ∧ W = W')
    (hr : n < 1 ∨ (1 ≤ n ∧ 0 ≤ p ∧ p < n)) (hs : ca = 0 ∨ (ca ≠ 0 ∧ cb = 0) ∨ (ca ≠ 0 ∧ cb ≠ 0 ∧ l = false) ∨ (ca ≠ 0 ∧ cb ≠ 0 ∧ l = true ∧ p ≤ q)) :
    Calls Try.prog 5 #[.int .u64 a, .int .u64 b, .int .i64 n] W fun e W' => e = .returned (.bool true) ∧ Below W.heap.size W W' := by
  have t0 : decide ((1125899906842624 : Int) < n) = false := by simp; omega
  have t1 : (p != p) = false := by simp
  have t2 : (q != q) = false := by simp
  have hr' : (decide (1 ≤ n) = false) ∨ (decide (1 ≤ n) = true ∧ decide (p < 0) = false ∧ decide (n ≤ p) = false) := by
    rcases hr with h | ⟨h1, h2, h3⟩
    · exact .inl (by simp; omega)
    · exact .inr ⟨by simp; omega, by simp; omega, by simp; omega⟩
  clear hr
  rcases hr' with t3 | ⟨t3, t4, t5⟩
  all_goals
    rcases hs with rfl | ⟨hc, rfl⟩ | ⟨hc, hd, rfl⟩ | ⟨hc, hd, rfl, hpq⟩
    · go_enter Try.func5, Try.ntmps5
      go_wp2_with (first | (go_at_call 14; ((with_reducible refine (p1 _).mono ?_); rintro e w' ⟨rfl, rfl⟩)) | (go_at_call 14; ((with_reducible refine (p2 _).mono ?_); rintro e w' ⟨rfl, rfl⟩)) | (go_at_call 15; ((with_reducible refine (r1 _).mono ?_); rintro e w' ⟨rfl, rfl⟩)) | (go_at_call 15; ((with_reducible refine (r2 _).mono ?_); rintro e w' ⟨rfl, rfl⟩)) | (go_at_call 12; refine (l3 _).mono ?_; rintro e w' ⟨rfl, rfl⟩) | (go_at_call 7; ((with_reducible refine (cca _).mono ?_); rintro e w' ⟨rfl, rfl⟩)) | (go_at_call 7; ((with_reducible refine (ccb _).mono ?_); rintro e w' ⟨rfl, rfl⟩)) | (go_at_call 10; refine (awake5_any _).mono ?_; rintro e w' ⟨rfl, rfl⟩))
      go_ret
      exact ⟨rfl, Below.refl _ _⟩
    · have t6 : ((ca : Int) == 0) = false := by simp; omega
      clear hc
      go_enter Try.func5, Try.ntmps5
      go_wp2_with (first | (go_at_call 14; ((with_reducible refine (p1 _).mono ?_); rintro e w' ⟨rfl, rfl⟩)) | (go_at_call 14; ((with_reducible refine (p2 _).mono ?_); rintro e w' ⟨rfl, rfl⟩)) | (go_at_call 15; ((with_reducible refine (r1 _).mono ?_); rintro e w' ⟨rfl, rfl⟩)) | (go_at_call 15; ((with_reducible refine (r2 _).mono ?_); rintro e w' ⟨rfl, rfl⟩)) | (go_at_call 12; refine (l3 _).mono ?_; rintro e w' ⟨rfl, rfl⟩) | (go_at_call 7; ((with_reducible refine (cca _).mono ?_); rintro e w' ⟨rfl, rfl⟩)) | (go_at_call 7; ((with_reducible refine (ccb _).mono ?_); rintro e w' ⟨rfl, rfl⟩)) | (go_at_call 10; refine (awake5_any _).mono ?_; rintro e w' ⟨rfl, rfl⟩))
      go_ret
      exact ⟨rfl, Below.refl _ _⟩
    · have t6 : ((ca : Int) == 0) = false := by simp; omega
      have t7 : ((cb : Int) == 0) = false := by simp; omega
      clear hc hd
      go_enter Try.func5, Try.ntmps5
      go_wp2_with (first | (go_at_call 14; ((with_reducible refine (p1 _).mono ?_); rintro e w' ⟨rfl, rfl⟩)) | (go_at_call 14; ((with_reducible refine (p2 _).mono ?_); rintro e w' ⟨rfl, rfl⟩)) | (go_at_call 15; ((with_reducible refine (r1 _).mono ?_); rintro e w' ⟨rfl, rfl⟩)) | (go_at_call 15; ((with_reducible refine (r2 _).mono ?_); rintro e w' ⟨rfl, rfl⟩)) | (go_at_call 12; refine (l3 _).mono ?_; rintro e w' ⟨rfl, rfl⟩) | (go_at_call 7; ((with_reducible refine (cca _).mono ?_); rintro e w' ⟨rfl, rfl⟩)) | (go_at_call 7; ((with_reducible refine (ccb _).mono ?_); rintro e w' ⟨rfl, rfl⟩)) | (go_at_call 10; refine (awake5_any _).mono ?_; rintro e w' ⟨rfl, rfl⟩))
      go_ret
      exact ⟨rfl, Below.refl _ _⟩
    · have t6 : ((ca : Int) == 0) = false := by simp; omega
      have t7 : ((cb : Int) == 0) = false := by simp; omega
      have t8 : decide (p ≤ q) = true := by simp; omega
      clear hc hd hpq
      go_enter Try.func5, Try.ntmps5
      go_wp2_with (first | (go_at_call 14; ((with_reducible refine (p1 _).mono ?_); rintro e w' ⟨rfl, rfl⟩)) | (go_at_call 14; ((with_reducible refine (p2 _).mono ?_); rintro e w' ⟨rfl, rfl⟩)) | (go_at_call 15; ((with_reducible refine (r1 _).mono ?_); rintro e w' ⟨rfl, rfl⟩)) | (go_at_call 15; ((with_reducible refine (r2 _).mono ?_); rintro e w' ⟨rfl, rfl⟩)) | (go_at_call 12; refine (l3 _).mono ?_; rintro e w' ⟨rfl, rfl⟩) | (go_at_call 7; ((with_reducible refine (cca _).mono ?_); rintro e w' ⟨rfl, rfl⟩)) | (go_at_call 7; ((with_reducible refine (ccb _).mono ?_); rintro e w' ⟨rfl, rfl⟩)) | (go_at_call 10; refine (awake5_any _).mono ?_; rintro e w' ⟨rfl, rfl⟩))
      go_ret
      exact ⟨rfl, Below.refl _ _⟩

theorem realPicks_law (a b n : Int) (W : World) (ha0 : 0 ≤ a) (ha : a ≤ 18446744073709551615) (hb0 : 0 ≤ b) (hb : b ≤ 18446744073709551615) (hn0 : -9223372036854775808 ≤ n) (hn : n ≤ 9223372036854775807) :
    Calls Try.prog 5 #[.int .u64 a, .int .u64 b, .int .i64 n] W fun e W' => e = .returned (.bool true) ∧ Below W.heap.size W W' := by
  by_cases hbig : 1125899906842624 < n
  · go_enter Try.func5, Try.ntmps5
    go_wp2_with (go_at_call 10; refine (awake5_any _).mono ?_; rintro e w' ⟨rfl, rfl⟩)
    go_ret
    exact ⟨rfl, Below.refl _ _⟩
  obtain ⟨x, rfl⟩ := Int.eq_ofNat_of_zero_le ha0
  obtain ⟨y, rfl⟩ := Int.eq_ofNat_of_zero_le hb0
  have hx : x < 18446744073709551616 := by omega
  have hy : y < 18446744073709551616 := by omega
  by_cases h1 : n < 1
  · refine picks_of x y (cls x) (cls y) n (-1) (-1) _ W hn0 (by omega) (pick_none x n h1) (pick_none y n h1) (refPick_none x n h1) (refPick_none y n h1) (fun W => refLess_any x y hx hy W _ rfl) (refClass_any x hx) (refClass_any y hy) (.inl h1) ?_
    by_cases c1 : cls x = 0
    · exact .inl c1
    by_cases c2 : cls y = 0
    · exact .inr (.inl ⟨c1, c2⟩)
    by_cases c3 : keyV x < keyV y
    · exact .inr (.inr (.inr ⟨c1, c2, by simp [c3], by omega⟩))
    · exact .inr (.inr (.inl ⟨c1, c2, by simp [c3]⟩))
  · obtain ⟨k, rfl⟩ := Int.eq_ofNat_of_zero_le (show 0 ≤ n by omega)
    have hk : 0 < k := by omega
    have hlx := pickV_lt x k hk
    refine picks_of x y (cls x) (cls y) k (pickV x k) (pickV y k) _ W hn0 (by omega) (pick_any x hx k hk (by omega)) (pick_any y hy k hk (by omega)) (refPick_any x hx k hk (by omega)) (refPick_any y hy k hk (by omega)) (fun W => refLess_any x y hx hy W _ rfl) (refClass_any x hx) (refClass_any y hy) (.inr ⟨by omega, by omega, by omega⟩) ?_
    by_cases c1 : cls x = 0
    · exact .inl c1
    by_cases c2 : cls y = 0
    · exact .inr (.inl ⟨c1, c2⟩)
    by_cases c3 : keyV x < keyV y
    · have := pickV_mono x y k hx hy hk c1 c2 c3
      exact .inr (.inr (.inr ⟨c1, c2, by simp [c3], by omega⟩))
    · exact .inr (.inr (.inl ⟨c1, c2, by simp [c3]⟩))

end Go.Proofs.Ytcjlokjjjmmomaa
