/-
  Walks of package real and of the reference: Key, Less, Canon; the reference's Fields, Class, Less, Canon.
-/
import Derived.Test.YtgococpbhbcpmaaGreatDoorZz13
import Derived.Lib.Mul64
import Derived.Laws.Bits64b
import Derived.Deep.CutBlock
namespace Go.Proofs.YtgococpbhbcpmaaGreatDoor
open Go.RowKit
set_option linter.unusedVariables false
set_option linter.unusedSimpArgs false

theorem cls_le (b : Nat) : cls b = 0 ∨ cls b = 1 ∨ cls b = 2 ∨ cls b = 3 ∨ cls b = 4 ∨ cls b = 5 ∨ cls b = 6 := by
  unfold cls
  split
  · split
    · simp
    · split
      · simp
      · split <;> simp
  · split
    · simp
    · split
      · simp
      · split <;> simp

/-- What a class says of the word. -/
theorem cls_says (b : Nat) (hb : b < 18446744073709551616) :
    (cls b = 0 → (9218868437227405312 < b ∧ b < 9223372036854775808) ∨ 18442240474082181120 < b) ∧ (cls b = 1 → b = 18442240474082181120) ∧
    (cls b = 2 → 9223372036854775808 < b ∧ b < 18442240474082181120) ∧ (cls b = 3 → b = 9223372036854775808) ∧ (cls b = 4 → b = 0) ∧ (cls b = 5 → 0 < b ∧ b < 9218868437227405312) ∧ (cls b = 6 → b = 9218868437227405312) := by
  unfold cls
  split
  · split
    · refine ⟨?_, ?_, ?_, ?_, ?_, ?_, ?_⟩ <;> intro h <;> first | omega | simp at h
    · split
      · refine ⟨?_, ?_, ?_, ?_, ?_, ?_, ?_⟩ <;> intro h <;> first | omega | simp at h
      · split
        · refine ⟨?_, ?_, ?_, ?_, ?_, ?_, ?_⟩ <;> intro h <;> first | omega | simp at h
        · refine ⟨?_, ?_, ?_, ?_, ?_, ?_, ?_⟩ <;> intro h <;> first | omega | simp at h
  · split
    · refine ⟨?_, ?_, ?_, ?_, ?_, ?_, ?_⟩ <;> intro h <;> first | omega | simp at h
    · split
      · refine ⟨?_, ?_, ?_, ?_, ?_, ?_, ?_⟩ <;> intro h <;> first | omega | simp at h
      · split
        · refine ⟨?_, ?_, ?_, ?_, ?_, ?_, ?_⟩ <;> intro h <;> first | omega | simp at h
        · refine ⟨?_, ?_, ?_, ?_, ?_, ?_, ?_⟩ <;> intro h <;> first | omega | simp at h

/-- The key. -/
def keyV (b : Nat) : Nat := if cls b = 0 then 18446744073709551615 else if 9223372036854775808 ≤ b then 18446744073709551615 - b else b + 9223372036854775808

theorem keyV_lt (b : Nat) (hb : b < 18446744073709551616) : keyV b < 18446744073709551616 := by
  unfold keyV
  split
  · omega
  · split <;> omega

theorem not_u64 (b : Nat) (hb : b < 18446744073709551616) : bits .xor .u64 IntKind.u64.max (b : Int) = ((18446744073709551615 - b : Nat) : Int) := by
  have h := u64_xor_nat 18446744073709551615 b (by decide) hb
  have e : 18446744073709551615 ^^^ b = 18446744073709551615 - b := by
    have h1 : (18446744073709551615 - b) &&& b = 0 := by
      apply Nat.eq_of_testBit_eq
      intro i
      rw [Nat.testBit_and, Nat.zero_testBit, show 18446744073709551615 - b = 2 ^ 64 - (b + 1) by omega, Nat.testBit_two_pow_sub_succ (show b < 2 ^ 64 from hb)]
      cases b.testBit i <;> simp
    have h2 : (18446744073709551615 - b) ^^^ b = 18446744073709551615 := by
      apply Nat.eq_of_testBit_eq
      intro i
      rw [Nat.testBit_xor, show (18446744073709551615 - b : Nat) = 2 ^ 64 - (b + 1) by omega, Nat.testBit_two_pow_sub_succ (show b < 2 ^ 64 from hb), show (18446744073709551615 : Nat) = 2 ^ 64 - 1 by decide, Nat.testBit_two_pow_sub_one]
      by_cases hi : i < 64
      · simp [hi]
      · have : b.testBit i = false := Nat.testBit_lt_two_pow (Nat.lt_of_lt_of_le (show b < 2 ^ 64 from hb) (Nat.pow_le_pow_right (by decide) (by omega)))
        simp [hi, this]
    conv => lhs; rw [← h2]
    rw [Nat.xor_assoc, Nat.xor_self, Nat.xor_zero]
  rw [← e]
  exact h

theorem or_sign (b : Nat) (h : b < 9223372036854775808) : bits .or .u64 (b : Int) 9223372036854775808 = ((b + 9223372036854775808 : Nat) : Int) := by
  have h1 := u64_or_nat b 9223372036854775808 (by omega) (by decide)
  have h2 := Nat.two_pow_add_eq_or_of_lt (i := 63) (show b < 2 ^ 63 from h) 1
  rw [Nat.mul_one] at h2
  rw [Nat.or_comm, show (9223372036854775808 : Nat) = 2 ^ 63 by decide, ← h2] at h1
  rw [Nat.add_comm]
  exact h1

/-- The bits without edges. -/
def canonV (b : Nat) : Nat := if cls b = 0 then 9221120237041090560 else if cls b = 3 then 0 else b

theorem canon_of (b c K : Nat) (W : World)
    (cc : Calls Tryz.prog 124 #[.int .u64 b] W fun e W' => e = .returned (.int .i64 (c : Nat)) ∧ W = W')
    (hc : (c = 0 ∧ K = 9221120237041090560) ∨ (c = 3 ∧ K = 0) ∨ ((c = 1 ∨ c = 2 ∨ c = 4 ∨ c = 5 ∨ c = 6) ∧ K = b)) :
    Calls Tryz.prog 119 #[.int .u64 b] W fun e W' => e = .returned (.int .u64 (K : Nat)) ∧ W = W' := by
  rcases hc with ⟨rfl, rfl⟩ | ⟨rfl, rfl⟩ | ⟨rfl | rfl | rfl | rfl | rfl, rfl⟩
  all_goals
    go_enter Tryz.func119, Tryz.ntmps119
    go_wp2_with (go_at_call 124; refine cc.mono ?_; rintro e w' ⟨rfl, rfl⟩)
    go_ret
    exact ⟨rfl, rfl⟩

theorem canon_cases (b : Nat) : (cls b = 0 ∧ canonV b = 9221120237041090560) ∨ (cls b = 3 ∧ canonV b = 0) ∨ ((cls b = 1 ∨ cls b = 2 ∨ cls b = 4 ∨ cls b = 5 ∨ cls b = 6) ∧ canonV b = b) := by
  unfold canonV
  rcases cls_le b with h | h | h | h | h | h | h <;> simp [h]

theorem canon_any (b : Nat) (hb : b < 18446744073709551616) (W : World) :
    Calls Tryz.prog 119 #[.int .u64 b] W fun e W' => e = .returned (.int .u64 (canonV b : Nat)) ∧ W = W' :=
  canon_of b (cls b) (canonV b) W (class_any b hb W) (canon_cases b)

theorem fields_any (b : Nat) (hb : b < 18446744073709551616) (W : World) :
    Calls Tryz.prog 40 #[.int .u64 b] W fun e W' => e = .returned (.tuple #[.int .u64 (b / 9223372036854775808 : Nat), .int .u64 (b / 4503599627370496 % 2048 : Nat), .int .u64 (b % 4503599627370496 : Nat)]) ∧ W = W' := by
  have e1 : (b : Int) / 9223372036854775808 = ((b / 9223372036854775808 : Nat) : Int) := by omega
  have e2 : (b : Int) / 4503599627370496 = ((b / 4503599627370496 : Nat) : Int) := by omega
  have e3 : ((b / 4503599627370496 : Nat) : Int) % 2048 = ((b / 4503599627370496 % 2048 : Nat) : Int) := by omega
  have e4 : (b : Int) % 4503599627370496 = ((b % 4503599627370496 : Nat) : Int) := by omega
  have H := Lib.hid (And.intro e1 (And.intro e2 (And.intro e3 e4)))
  clear e1 e2 e3 e4
  go_enter Tryz.func40, Tryz.ntmps40
  go_wp2
  go_ret3
  refine ⟨?_, rfl⟩
  obtain ⟨e1, e2, e3, e4⟩ := H.out
  show Ending.returned (.tuple #[.int .u64 ((b : Int) / 9223372036854775808), .int .u64 ((b : Int) / 4503599627370496 % 2048), .int .u64 ((b : Int) % 4503599627370496)]) = _
  rw [e1, e2, e3, e4]

theorem refClass_of (b s e f c : Nat) (W : World) (hs : s ≤ 1) (he : e ≤ 2047) (hf : f ≤ 4503599627370495)
    (cf : Calls Tryz.prog 40 #[.int .u64 b] W fun e' W' => e' = .returned (.tuple #[.int .u64 (s : Nat), .int .u64 (e : Nat), .int .u64 (f : Nat)]) ∧ W = W')
    (hc : (e = 2047 ∧ f ≠ 0 ∧ c = 0) ∨ (e = 2047 ∧ f = 0 ∧ s = 1 ∧ c = 1) ∨ (e = 2047 ∧ f = 0 ∧ s = 0 ∧ c = 6) ∨ (e = 0 ∧ f = 0 ∧ s = 1 ∧ c = 3) ∨ (e = 0 ∧ f = 0 ∧ s = 0 ∧ c = 4) ∨
      (e = 0 ∧ f ≠ 0 ∧ s = 1 ∧ c = 2) ∨ (e = 0 ∧ f ≠ 0 ∧ s = 0 ∧ c = 5) ∨ (e ≠ 2047 ∧ e ≠ 0 ∧ s = 1 ∧ c = 2) ∨ (e ≠ 2047 ∧ e ≠ 0 ∧ s = 0 ∧ c = 5)) :
    Calls Tryz.prog 20 #[.int .u64 b] W fun e W' => e = .returned (.int .i64 (c : Nat)) ∧ W = W' := by
  rcases hc with ⟨rfl, hf0, rfl⟩ | ⟨rfl, rfl, rfl, rfl⟩ | ⟨rfl, rfl, rfl, rfl⟩ | ⟨rfl, rfl, rfl, rfl⟩ | ⟨rfl, rfl, rfl, rfl⟩ | ⟨rfl, hf0, rfl, rfl⟩ | ⟨rfl, hf0, rfl, rfl⟩ | ⟨h1, h2, rfl, rfl⟩ | ⟨h1, h2, rfl, rfl⟩
  case inr.inr.inr.inr.inr.inr.inr.inl =>
    have t1 : ((e : Int) == 0) = false := by simp; omega
    have t2 : ((e : Int) == 2047) = false := by simp; omega
    clear h1 h2
    go_enter Tryz.func20, Tryz.ntmps20
    go_wp2_with (go_at_call 40; refine cf.mono ?_; rintro e w' ⟨rfl, rfl⟩)
    go_ret
    exact ⟨rfl, rfl⟩
  case inr.inr.inr.inr.inr.inr.inr.inr =>
    have t1 : ((e : Int) == 0) = false := by simp; omega
    have t2 : ((e : Int) == 2047) = false := by simp; omega
    clear h1 h2
    go_enter Tryz.func20, Tryz.ntmps20
    go_wp2_with (go_at_call 40; refine cf.mono ?_; rintro e w' ⟨rfl, rfl⟩)
    go_ret
    exact ⟨rfl, rfl⟩
  case inr.inl =>
    go_enter Tryz.func20, Tryz.ntmps20
    go_wp2_with (go_at_call 40; refine cf.mono ?_; rintro e w' ⟨rfl, rfl⟩)
    go_ret
    exact ⟨rfl, rfl⟩
  case inr.inr.inl =>
    go_enter Tryz.func20, Tryz.ntmps20
    go_wp2_with (go_at_call 40; refine cf.mono ?_; rintro e w' ⟨rfl, rfl⟩)
    go_ret
    exact ⟨rfl, rfl⟩
  case inr.inr.inr.inl =>
    go_enter Tryz.func20, Tryz.ntmps20
    go_wp2_with (go_at_call 40; refine cf.mono ?_; rintro e w' ⟨rfl, rfl⟩)
    go_ret
    exact ⟨rfl, rfl⟩
  case inr.inr.inr.inr.inl =>
    go_enter Tryz.func20, Tryz.ntmps20
    go_wp2_with (go_at_call 40; refine cf.mono ?_; rintro e w' ⟨rfl, rfl⟩)
    go_ret
    exact ⟨rfl, rfl⟩
  all_goals
    have t1 : ((f : Int) == 0) = false := by simp; omega
    have t2 : ((f : Int) != 0) = true := by simp; omega
    clear hf0
    go_enter Tryz.func20, Tryz.ntmps20
    go_wp2_with (go_at_call 40; refine cf.mono ?_; rintro e w' ⟨rfl, rfl⟩)
    go_ret
    exact ⟨rfl, rfl⟩

theorem refClass_any (b : Nat) (hb : b < 18446744073709551616) (W : World) :
    Calls Tryz.prog 20 #[.int .u64 b] W fun e W' => e = .returned (.int .i64 (cls b : Nat)) ∧ W = W' := by
  refine refClass_of b _ _ _ (cls b) W (by omega) (by omega) (by omega) (fields_any b hb W) ?_
  obtain ⟨s0, s1, s2, s3, s4, s5, s6⟩ := cls_says b hb
  rcases cls_le b with h | h | h | h | h | h | h
  · have := s0 h
    exact .inl ⟨by omega, by omega, h⟩
  · have := s1 h
    exact .inr (.inl ⟨by omega, by omega, by omega, h⟩)
  · have := s2 h
    by_cases he : b / 4503599627370496 % 2048 = 0
    · exact .inr (.inr (.inr (.inr (.inr (.inl ⟨he, by omega, by omega, h⟩)))))
    · exact .inr (.inr (.inr (.inr (.inr (.inr (.inr (.inl ⟨by omega, he, by omega, h⟩)))))))
  · have := s3 h
    exact .inr (.inr (.inr (.inl ⟨by omega, by omega, by omega, h⟩)))
  · have := s4 h
    exact .inr (.inr (.inr (.inr (.inl ⟨by omega, by omega, by omega, h⟩))))
  · have := s5 h
    by_cases he : b / 4503599627370496 % 2048 = 0
    · exact .inr (.inr (.inr (.inr (.inr (.inr (.inl ⟨he, by omega, by omega, h⟩))))))
    · exact .inr (.inr (.inr (.inr (.inr (.inr (.inr (.inr ⟨by omega, he, by omega, h⟩)))))))
  · have := s6 h
    exact .inr (.inr (.inl ⟨by omega, by omega, by omega, h⟩))

/-- What the key says, by the class. -/
theorem key_says (b : Nat) (hb : b < 18446744073709551616) :
    (cls b = 0 ∧ keyV b = 18446744073709551615) ∨ (cls b = 1 ∧ b = 18442240474082181120 ∧ keyV b = 4503599627370495) ∨ (cls b = 2 ∧ 9223372036854775808 < b ∧ b < 18442240474082181120 ∧ keyV b + b = 18446744073709551615) ∨
    (cls b = 3 ∧ b = 9223372036854775808 ∧ keyV b = 9223372036854775807) ∨ (cls b = 4 ∧ b = 0 ∧ keyV b = 9223372036854775808) ∨ (cls b = 5 ∧ 0 < b ∧ b < 9218868437227405312 ∧ keyV b = b + 9223372036854775808) ∨ (cls b = 6 ∧ b = 9218868437227405312 ∧ keyV b = 18442240474082181120) := by
  obtain ⟨s0, s1, s2, s3, s4, s5, s6⟩ := cls_says b hb
  unfold keyV
  rcases cls_le b with h | h | h | h | h | h | h
  · exact .inl ⟨h, if_pos h⟩
  · have := s1 h
    exact .inr (.inl ⟨h, this, by rw [if_neg (by omega), if_pos (by omega)]; omega⟩)
  · have := s2 h
    exact .inr (.inr (.inl ⟨h, this.1, this.2, by rw [if_neg (by omega), if_pos (by omega)]; omega⟩))
  · have := s3 h
    exact .inr (.inr (.inr (.inl ⟨h, this, by rw [if_neg (by omega), if_pos (by omega)]; omega⟩)))
  · have := s4 h
    exact .inr (.inr (.inr (.inr (.inl ⟨h, this, by rw [if_neg (by omega), if_neg (by omega)]; omega⟩))))
  · have := s5 h
    exact .inr (.inr (.inr (.inr (.inr (.inl ⟨h, this.1, this.2, by rw [if_neg (by omega), if_neg (by omega)]⟩)))))
  · have := s6 h
    exact .inr (.inr (.inr (.inr (.inr (.inr ⟨h, this, by rw [if_neg (by omega), if_neg (by omega)]; omega⟩)))))

/-- Is one ahead? By their keys. -/
theorem less_keys (a b : Nat) (ha : a < 18446744073709551616) (hb : b < 18446744073709551616) :
    (cls a = 0 ∧ ¬ keyV a < keyV b) ∨ (cls a ≠ 0 ∧ cls b = 0 ∧ keyV a < keyV b) ∨
    (cls a ≠ 0 ∧ cls b ≠ 0 ∧ cls a ≠ cls b ∧ (keyV a < keyV b ↔ cls a < cls b)) ∨
    (cls a ≠ 0 ∧ cls b = cls a ∧ cls a = 2 ∧ (keyV a < keyV b ↔ b < a)) ∨
    (cls a ≠ 0 ∧ cls b = cls a ∧ cls a ≠ 2 ∧ (keyV a < keyV b ↔ a < b)) := by
  have h1 := key_says a ha
  have h2 := key_says b hb
  have k2 := keyV_lt b hb
  generalize cls a = x at *
  generalize cls b = y at *
  generalize keyV a = p at *
  generalize keyV b = q at *
  by_cases hx : x = 0
  · exact .inl ⟨hx, by rcases h1 with h | h | h | h | h | h | h <;> omega⟩
  by_cases hy : y = 0
  · refine .inr (.inl ⟨hx, hy, ?_⟩)
    have : q = 18446744073709551615 := by rcases h2 with h | h | h | h | h | h | h <;> omega
    rcases h1 with h | h | h | h | h | h | h <;> omega
  by_cases hxy : x = y
  · subst hxy
    by_cases h22 : x = 2
    · refine .inr (.inr (.inr (.inl ⟨hx, rfl, h22, ?_⟩)))
      rcases h1 with h | h | h | h | h | h | h <;> rcases h2 with g | g | g | g | g | g | g <;> omega
    · refine .inr (.inr (.inr (.inr ⟨hx, rfl, h22, ?_⟩)))
      rcases h1 with h | h | h | h | h | h | h <;> rcases h2 with g | g | g | g | g | g | g <;> omega
  · refine .inr (.inr (.inl ⟨hx, hy, hxy, ?_⟩))
    rcases h1 with h | h | h | h | h | h | h <;> rcases h2 with g | g | g | g | g | g | g <;> omega

end Go.Proofs.YtgococpbhbcpmaaGreatDoor

/-
  Walks of package real: Pick, the library's Mul64; awake of law05.
-/
namespace Go.Proofs.YtgococpbhbcpmaaGreatDoor
open Go.RowKit
set_option linter.unusedVariables false
set_option linter.unusedSimpArgs false

theorem m64_mask (a : Nat) (ha : a < 18446744073709551616) : bits .and .u64 (a : Int) 4294967295 = ((a % 4294967296 : Nat) : Int) := by
  have h := bits_and_u64_nat a 4294967295 ha (by omega)
  have e : a &&& 4294967295 = a % 4294967296 := Nat.and_two_pow_sub_one_eq_mod a 32
  rw [e] at h
  exact h
theorem m64_div (a : Nat) : (a : Int) / 4294967296 = ((a / 4294967296 : Nat) : Int) := by omega
theorem m64_mul (a b : Nat) : (a : Int) * (b : Int) = ((a * b : Nat) : Int) := (Int.natCast_mul a b).symm
theorem m64_add (a b : Nat) : (a : Int) + (b : Int) = ((a + b : Nat) : Int) := (Int.natCast_add a b).symm
theorem m64_wrap (a : Nat) (ha : a < 18446744073709551616) : IntKind.u64.wrap (a : Int) = (a : Int) := by rw [IntKind.wrap_u64]; omega
theorem m64_wrapM (a : Nat) : IntKind.u64.wrap (a : Int) = ((a % 18446744073709551616 : Nat) : Int) := by rw [IntKind.wrap_u64]; omega

set_option maxHeartbeats 1000000 in
theorem mul64_any (x y : Nat) (hx : x < 18446744073709551616) (hy : y < 18446744073709551616) (w : World) :
    Calls Tryz.prog 91 #[.int .u64 x, .int .u64 y] w fun e w' => e = .returned (.tuple #[.int .u64 ((x * y / 18446744073709551616 : Nat) : Int), .int .u64 ((x * y % 18446744073709551616 : Nat) : Int)]) ∧ w = w' := by
  obtain ⟨bd, bt, bw, hhi⟩ := Lib.mul64_hi x y hx hy
  have ba := Lib.half_mul_le (a := x / 4294967296) (b := y / 4294967296) (by omega) (by omega)
  have bb := Lib.half_mul_le (a := x / 4294967296) (b := y % 4294967296) (by omega) (by omega)
  have bc := Lib.half_mul_le (a := x % 4294967296) (b := y / 4294967296) (by omega) (by omega)
  have ba' : x / 4294967296 * (y / 4294967296) < 18446744073709551616 := by omega
  have bb' : x / 4294967296 * (y % 4294967296) < 18446744073709551616 := by omega
  have bc' : x % 4294967296 * (y / 4294967296) < 18446744073709551616 := by omega
  have bh1 : x / 4294967296 * (y / 4294967296) + (x / 4294967296 * (y % 4294967296) + x % 4294967296 * (y % 4294967296) / 4294967296) / 4294967296 < 18446744073709551616 := by omega
  have bh : x / 4294967296 * (y / 4294967296) + (x / 4294967296 * (y % 4294967296) + x % 4294967296 * (y % 4294967296) / 4294967296) / 4294967296 + ((x / 4294967296 * (y % 4294967296) + x % 4294967296 * (y % 4294967296) / 4294967296) % 4294967296 + x % 4294967296 * (y / 4294967296)) / 4294967296 < 18446744073709551616 := by omega
  go_enter Tryz.func91, Tryz.ntmps91
  go_wp2
  simp only [m64_mask x hx, m64_mask y hy, m64_div, m64_mul, m64_add, m64_wrap _ bd, m64_wrap _ bb', m64_wrap _ bt, m64_mask _ bt, m64_wrap _ bc', m64_wrap _ bw, m64_wrap _ ba', m64_wrap _ bh1, m64_wrap _ bh, m64_wrapM (x * y)]
  rw [hhi]
  go_ret2
  exact ⟨rfl, rfl⟩

theorem pick_sum (p : Nat) (h : p < 9007199254740992 * 9223372036854775808) :
    wrap64 (bits .or .u64 (IntKind.u64.wrap ((p : Int) / 18446744073709551616 * 2048)) ((p : Int) % 18446744073709551616 / 9007199254740992)) = ((p / 9007199254740992 : Nat) : Int) := by
  obtain ⟨a, ha⟩ : ∃ a, a = p / 18446744073709551616 := ⟨_, rfl⟩
  obtain ⟨c, hc⟩ : ∃ c, c = p % 18446744073709551616 / 9007199254740992 := ⟨_, rfl⟩
  have hp : p / 9007199254740992 = 2048 * a + c := by omega
  have hc2 : c < 2 ^ 11 := by omega
  have ha2 : a < 4503599627370496 := by omega
  have e1 : IntKind.u64.wrap ((p : Int) / 18446744073709551616 * 2048) = ((2048 * a : Nat) : Int) := by rw [IntKind.wrap_u64]; omega
  have e2 : (p : Int) % 18446744073709551616 / 9007199254740992 = ((c : Nat) : Int) := by omega
  have e3 := Nat.two_pow_add_eq_or_of_lt hc2 a
  have e4 : 2 ^ 11 * a = 2048 * a := rfl
  rw [e4] at e3
  rw [e1, e2, u64_or_nat (2048 * a) c (by omega) (by omega), ← e3, hp]
  clear e1 e2 e3 e4 hp ha hc h
  unfold wrap64
  omega

end Go.Proofs.YtgococpbhbcpmaaGreatDoor

/-
  Walks of the reference of package real: Parts, Pick.
-/
namespace Go.Proofs.YtgococpbhbcpmaaGreatDoor
open Go.RowKit
set_option linter.unusedVariables false
set_option linter.unusedSimpArgs false

/-- What the reference's Parts gives: the odd number, the power, whether there are any. -/
def partsM (b : Nat) : Nat := if cls b = 5 then od b else 0
def partsE (b : Nat) : Int := if cls b = 5 then -1074 + ((ex b + tz b : Nat) : Int) else 0
def partsIs (b : Nat) : Bool := decide (cls b = 3 ∨ cls b = 4 ∨ cls b = 5)

theorem int_div_pow (m q : Nat) : (m : Int) / 2 ^ q = ((m / 2 ^ q : Nat) : Int) := by
  rw [Int.natCast_ediv, Int.natCast_pow]
  rfl

/-- The first loop's state. -/
def KInv (m q : Nat) (kv iv : Value) : Prop := ∃ i : Nat, 1 ≤ i ∧ i ≤ 54 ∧ iv = .int .i64 i ∧ kv = .int .u64 ((kk m q (i - 1) : Nat) : Int)
/-- The second loop's state. -/
def LInv (k n : Nat) (ov tv iv : Value) : Prop := ∃ (c o t : Nat) (i : Int), c ≤ 53 ∧ i = (c : Int) - 1 ∧ iv = .int .i64 i ∧ ov = .int .u64 (o : Int) ∧ tv = .int .u64 (t : Int) ∧ t < 9007199254740992 ∧ o * 9007199254740992 + t = k * (n / 2 ^ c)

theorem tz_sum (b : Nat) (h0 : 0 < b) (hb : b < 9218868437227405312) : ex b + tz b < 2100 := by
  have := (od_spec b h0).2.2
  unfold ex
  omega

theorem od_lt (b : Nat) : od b < 9007199254740992 := Nat.lt_of_le_of_lt (Nat.div_le_self _ _) (mg_lt b)

end Go.Proofs.YtgococpbhbcpmaaGreatDoor
