/-
  Walks of package real and of the reference: Key, Less, Canon; the reference's Fields, Class, Less, Canon.
-/
import Derived.Test.YthjikbhjciphiaaGreatDoorZz2
import Derived.Maps.AppendAt
namespace Go.Proofs.YthjikbhjciphiaaGreatDoor
open Go.RowKit
set_option linter.unusedVariables false
set_option linter.unusedSimpArgs false

theorem cls_le (b : Nat) : cls b = 0 ∨ cls b = 1 ∨ cls b = 2 ∨ cls b = 3 ∨ cls b = 4 ∨ cls b = 5 ∨ cls b = 6 := by
  unfold cls
  split
  · split
    · simp
    · split
      · simp
      · split <;> simp
  · split
    · simp
    · split
      · simp
      · split <;> simp

/-- What a class says of the word. -/
theorem cls_says (b : Nat) (hb : b < 18446744073709551616) :
    (cls b = 0 → (9218868437227405312 < b ∧ b < 9223372036854775808) ∨ 18442240474082181120 < b) ∧ (cls b = 1 → b = 18442240474082181120) ∧
    (cls b = 2 → 9223372036854775808 < b ∧ b < 18442240474082181120) ∧ (cls b = 3 → b = 9223372036854775808) ∧ (cls b = 4 → b = 0) ∧ (cls b = 5 → 0 < b ∧ b < 9218868437227405312) ∧ (cls b = 6 → b = 9218868437227405312) := by
  unfold cls
  split
  · split
    · refine ⟨?_, ?_, ?_, ?_, ?_, ?_, ?_⟩ <;> intro h <;> first | omega | simp at h
    · split
      · refine ⟨?_, ?_, ?_, ?_, ?_, ?_, ?_⟩ <;> intro h <;> first | omega | simp at h
      · split
        · refine ⟨?_, ?_, ?_, ?_, ?_, ?_, ?_⟩ <;> intro h <;> first | omega | simp at h
        · refine ⟨?_, ?_, ?_, ?_, ?_, ?_, ?_⟩ <;> intro h <;> first | omega | simp at h
  · split
    · refine ⟨?_, ?_, ?_, ?_, ?_, ?_, ?_⟩ <;> intro h <;> first | omega | simp at h
    · split
      · refine ⟨?_, ?_, ?_, ?_, ?_, ?_, ?_⟩ <;> intro h <;> first | omega | simp at h
      · split
        · refine ⟨?_, ?_, ?_, ?_, ?_, ?_, ?_⟩ <;> intro h <;> first | omega | simp at h
        · refine ⟨?_, ?_, ?_, ?_, ?_, ?_, ?_⟩ <;> intro h <;> first | omega | simp at h

/-- The key. -/
def keyV (b : Nat) : Nat := if cls b = 0 then 18446744073709551615 else if 9223372036854775808 ≤ b then 18446744073709551615 - b else b + 9223372036854775808

theorem keyV_lt (b : Nat) (hb : b < 18446744073709551616) : keyV b < 18446744073709551616 := by
  unfold keyV
  split
  · omega
  · split <;> omega

theorem not_u64 (b : Nat) (hb : b < 18446744073709551616) : bits .xor .u64 IntKind.u64.max (b : Int) = ((18446744073709551615 - b : Nat) : Int) := by
  have h := u64_xor_nat 18446744073709551615 b (by decide) hb
  have e : 18446744073709551615 ^^^ b = 18446744073709551615 - b := by
    have h1 : (18446744073709551615 - b) &&& b = 0 := by
      apply Nat.eq_of_testBit_eq
      intro i
      rw [Nat.testBit_and, Nat.zero_testBit, show 18446744073709551615 - b = 2 ^ 64 - (b + 1) by omega, Nat.testBit_two_pow_sub_succ (show b < 2 ^ 64 from hb)]
      cases b.testBit i <;> simp
    have h2 : (18446744073709551615 - b) ^^^ b = 18446744073709551615 := by
      apply Nat.eq_of_testBit_eq
      intro i
      rw [Nat.testBit_xor, show (18446744073709551615 - b : Nat) = 2 ^ 64 - (b + 1) by omega, Nat.testBit_two_pow_sub_succ (show b < 2 ^ 64 from hb), show (18446744073709551615 : Nat) = 2 ^ 64 - 1 by decide, Nat.testBit_two_pow_sub_one]
      by_cases hi : i < 64
      · simp [hi]
      · have : b.testBit i = false := Nat.testBit_lt_two_pow (Nat.lt_of_lt_of_le (show b < 2 ^ 64 from hb) (Nat.pow_le_pow_right (by decide) (by omega)))
        simp [hi, this]
    conv => lhs; rw [← h2]
    rw [Nat.xor_assoc, Nat.xor_self, Nat.xor_zero]
  rw [← e]
  exact h

theorem or_sign (b : Nat) (h : b < 9223372036854775808) : bits .or .u64 (b : Int) 9223372036854775808 = ((b + 9223372036854775808 : Nat) : Int) := by
  have h1 := u64_or_nat b 9223372036854775808 (by omega) (by decide)
  have h2 := Nat.two_pow_add_eq_or_of_lt (i := 63) (show b < 2 ^ 63 from h) 1
  rw [Nat.mul_one] at h2
  rw [Nat.or_comm, show (9223372036854775808 : Nat) = 2 ^ 63 by decide, ← h2] at h1
  rw [Nat.add_comm]
  exact h1

/-- The bits without edges. -/
def canonV (b : Nat) : Nat := if cls b = 0 then 9221120237041090560 else if cls b = 3 then 0 else b

theorem canon_of (b c K : Nat) (W : World)
    (cc : Calls Tryz.prog 173 #[.int .u64 b] W fun e W' => e = .returned (.int .i64 (c : Nat)) ∧ W = W')
    (hc : (c = 0 ∧ K = 9221120237041090560) ∨ (c = 3 ∧ K = 0) ∨ ((c = 1 ∨ c = 2 ∨ c = 4 ∨ c = 5 ∨ c = 6) ∧ K = b)) :
    Calls Tryz.prog 126 #[.int .u64 b] W fun e W' => e = .returned (.int .u64 (K : Nat)) ∧ W = W' := by
  rcases hc with ⟨rfl, rfl⟩ | ⟨rfl, rfl⟩ | ⟨rfl | rfl | rfl | rfl | rfl, rfl⟩
  all_goals
    go_enter Tryz.func126, Tryz.ntmps126
    go_wp2_with (go_at_call 173; refine cc.mono ?_; rintro e w' ⟨rfl, rfl⟩)
    go_ret
    exact ⟨rfl, rfl⟩

theorem canon_cases (b : Nat) : (cls b = 0 ∧ canonV b = 9221120237041090560) ∨ (cls b = 3 ∧ canonV b = 0) ∨ ((cls b = 1 ∨ cls b = 2 ∨ cls b = 4 ∨ cls b = 5 ∨ cls b = 6) ∧ canonV b = b) := by
  unfold canonV
  rcases cls_le b with h | h | h | h | h | h | h <;> simp [h]

theorem canon_any (b : Nat) (hb : b < 18446744073709551616) (W : World) :
    Calls Tryz.prog 126 #[.int .u64 b] W fun e W' => e = .returned (.int .u64 (canonV b : Nat)) ∧ W = W' :=
  canon_of b (cls b) (canonV b) W (class_any b hb W) (canon_cases b)

theorem fields_any (b : Nat) (hb : b < 18446744073709551616) (W : World) :
    Calls Tryz.prog 87 #[.int .u64 b] W fun e W' => e = .returned (.tuple #[.int .u64 (b / 9223372036854775808 : Nat), .int .u64 (b / 4503599627370496 % 2048 : Nat), .int .u64 (b % 4503599627370496 : Nat)]) ∧ W = W' := by
  have e1 : (b : Int) / 9223372036854775808 = ((b / 9223372036854775808 : Nat) : Int) := by omega
  have e2 : (b : Int) / 4503599627370496 = ((b / 4503599627370496 : Nat) : Int) := by omega
  have e3 : ((b / 4503599627370496 : Nat) : Int) % 2048 = ((b / 4503599627370496 % 2048 : Nat) : Int) := by omega
  have e4 : (b : Int) % 4503599627370496 = ((b % 4503599627370496 : Nat) : Int) := by omega
  have H := Lib.hid (And.intro e1 (And.intro e2 (And.intro e3 e4)))
  clear e1 e2 e3 e4
  go_enter Tryz.func87, Tryz.ntmps87
  go_wp2
  go_ret3
  refine ⟨?_, rfl⟩
  obtain ⟨e1, e2, e3, e4⟩ := H.out
  show Ending.returned (.tuple #[.int .u64 ((b : Int) / 9223372036854775808), .int .u64 ((b : Int) / 4503599627370496 % 2048), .int .u64 ((b : Int) % 4503599627370496)]) = _
  rw [e1, e2, e3, e4]

theorem refClass_of (b s e f c : Nat) (W : World) (hs : s ≤ 1) (he : e ≤ 2047) (hf : f ≤ 4503599627370495)
    (cf : Calls Tryz.prog 87 #[.int .u64 b] W fun e' W' => e' = .returned (.tuple #[.int .u64 (s : Nat), .int .u64 (e : Nat), .int .u64 (f : Nat)]) ∧ W = W')
    (hc : (e = 2047 ∧ f ≠ 0 ∧ c = 0) ∨ (e = 2047 ∧ f = 0 ∧ s = 1 ∧ c = 1) ∨ (e = 2047 ∧ f = 0 ∧ s = 0 ∧ c = 6) ∨ (e = 0 ∧ f = 0 ∧ s = 1 ∧ c = 3) ∨ (e = 0 ∧ f = 0 ∧ s = 0 ∧ c = 4) ∨
      (e = 0 ∧ f ≠ 0 ∧ s = 1 ∧ c = 2) ∨ (e = 0 ∧ f ≠ 0 ∧ s = 0 ∧ c = 5) ∨ (e ≠ 2047 ∧ e ≠ 0 ∧ s = 1 ∧ c = 2) ∨ (e ≠ 2047 ∧ e ≠ 0 ∧ s = 0 ∧ c = 5)) :
    Calls Tryz.prog 57 #[.int .u64 b] W fun e W' => e = .returned (.int .i64 (c : Nat)) ∧ W = W' := by
  rcases hc with ⟨rfl, hf0, rfl⟩ | ⟨rfl, rfl, rfl, rfl⟩ | ⟨rfl, rfl, rfl, rfl⟩ | ⟨rfl, rfl, rfl, rfl⟩ | ⟨rfl, rfl, rfl, rfl⟩ | ⟨rfl, hf0, rfl, rfl⟩ | ⟨rfl, hf0, rfl, rfl⟩ | ⟨h1, h2, rfl, rfl⟩ | ⟨h1, h2, rfl, rfl⟩
  case inr.inr.inr.inr.inr.inr.inr.inl =>
    have t1 : ((e : Int) == 0) = false := by simp; omega
    have t2 : ((e : Int) == 2047) = false := by simp; omega
    clear h1 h2
    go_enter Tryz.func57, Tryz.ntmps57
    go_wp2_with (go_at_call 87; refine cf.mono ?_; rintro e w' ⟨rfl, rfl⟩)
    go_ret
    exact ⟨rfl, rfl⟩
  case inr.inr.inr.inr.inr.inr.inr.inr =>
    have t1 : ((e : Int) == 0) = false := by simp; omega
    have t2 : ((e : Int) == 2047) = false := by simp; omega
    clear h1 h2
    go_enter Tryz.func57, Tryz.ntmps57
    go_wp2_with (go_at_call 87; refine cf.mono ?_; rintro e w' ⟨rfl, rfl⟩)
    go_ret
    exact ⟨rfl, rfl⟩
  case inr.inl =>
    go_enter Tryz.func57, Tryz.ntmps57
    go_wp2_with (go_at_call 87; refine cf.mono ?_; rintro e w' ⟨rfl, rfl⟩)
    go_ret
    exact ⟨rfl, rfl⟩
  case inr.inr.inl =>
    go_enter Tryz.func57, Tryz.ntmps57
    go_wp2_with (go_at_call 87; refine cf.mono ?_; rintro e w' ⟨rfl, rfl⟩)
    go_ret
    exact ⟨rfl, rfl⟩
  case inr.inr.inr.inl =>
    go_enter Tryz.func57, Tryz.ntmps57
    go_wp2_with (go_at_call 87; refine cf.mono ?_; rintro e w' ⟨rfl, rfl⟩)
    go_ret
    exact ⟨rfl, rfl⟩
  case inr.inr.inr.inr.inl =>
    go_enter Tryz.func57, Tryz.ntmps57
    go_wp2_with (go_at_call 87; refine cf.mono ?_; rintro e w' ⟨rfl, rfl⟩)
    go_ret
    exact ⟨rfl, rfl⟩
  all_goals
    have t1 : ((f : Int) == 0) = false := by simp; omega
    have t2 : ((f : Int) != 0) = true := by simp; omega
    clear hf0
    go_enter Tryz.func57, Tryz.ntmps57
    go_wp2_with (go_at_call 87; refine cf.mono ?_; rintro e w' ⟨rfl, rfl⟩)
    go_ret
    exact ⟨rfl, rfl⟩

theorem refClass_any (b : Nat) (hb : b < 18446744073709551616) (W : World) :
    Calls Tryz.prog 57 #[.int .u64 b] W fun e W' => e = .returned (.int .i64 (cls b : Nat)) ∧ W = W' := by
  refine refClass_of b _ _ _ (cls b) W (by omega) (by omega) (by omega) (fields_any b hb W) ?_
  obtain ⟨s0, s1, s2, s3, s4, s5, s6⟩ := cls_says b hb
  rcases cls_le b with h | h | h | h | h | h | h
  · have := s0 h
    exact .inl ⟨by omega, by omega, h⟩
  · have := s1 h
    exact .inr (.inl ⟨by omega, by omega, by omega, h⟩)
  · have := s2 h
    by_cases he : b / 4503599627370496 % 2048 = 0
    · exact .inr (.inr (.inr (.inr (.inr (.inl ⟨he, by omega, by omega, h⟩)))))
    · exact .inr (.inr (.inr (.inr (.inr (.inr (.inr (.inl ⟨by omega, he, by omega, h⟩)))))))
  · have := s3 h
    exact .inr (.inr (.inr (.inl ⟨by omega, by omega, by omega, h⟩)))
  · have := s4 h
    exact .inr (.inr (.inr (.inr (.inl ⟨by omega, by omega, by omega, h⟩))))
  · have := s5 h
    by_cases he : b / 4503599627370496 % 2048 = 0
    · exact .inr (.inr (.inr (.inr (.inr (.inr (.inl ⟨he, by omega, by omega, h⟩))))))
    · exact .inr (.inr (.inr (.inr (.inr (.inr (.inr (.inr ⟨by omega, he, by omega, h⟩)))))))
  · have := s6 h
    exact .inr (.inr (.inl ⟨by omega, by omega, by omega, h⟩))

/-- What the key says, by the class. -/
theorem key_says (b : Nat) (hb : b < 18446744073709551616) :
    (cls b = 0 ∧ keyV b = 18446744073709551615) ∨ (cls b = 1 ∧ b = 18442240474082181120 ∧ keyV b = 4503599627370495) ∨ (cls b = 2 ∧ 9223372036854775808 < b ∧ b < 18442240474082181120 ∧ keyV b + b = 18446744073709551615) ∨
    (cls b = 3 ∧ b = 9223372036854775808 ∧ keyV b = 9223372036854775807) ∨ (cls b = 4 ∧ b = 0 ∧ keyV b = 9223372036854775808) ∨ (cls b = 5 ∧ 0 < b ∧ b < 9218868437227405312 ∧ keyV b = b + 9223372036854775808) ∨ (cls b = 6 ∧ b = 9218868437227405312 ∧ keyV b = 18442240474082181120) := by
  obtain ⟨s0, s1, s2, s3, s4, s5, s6⟩ := cls_says b hb
  unfold keyV
  rcases cls_le b with h | h | h | h | h | h | h
  · exact .inl ⟨h, if_pos h⟩
  · have := s1 h
    exact .inr (.inl ⟨h, this, by rw [if_neg (by omega), if_pos (by omega)]; omega⟩)
  · have := s2 h
    exact .inr (.inr (.inl ⟨h, this.1, this.2, by rw [if_neg (by omega), if_pos (by omega)]; omega⟩))
  · have := s3 h
    exact .inr (.inr (.inr (.inl ⟨h, this, by rw [if_neg (by omega), if_pos (by omega)]; omega⟩)))
  · have := s4 h
    exact .inr (.inr (.inr (.inr (.inl ⟨h, this, by rw [if_neg (by omega), if_neg (by omega)]; omega⟩))))
  · have := s5 h
    exact .inr (.inr (.inr (.inr (.inr (.inl ⟨h, this.1, this.2, by rw [if_neg (by omega), if_neg (by omega)]⟩)))))
  · have := s6 h
    exact .inr (.inr (.inr (.inr (.inr (.inr ⟨h, this, by rw [if_neg (by omega), if_neg (by omega)]; omega⟩)))))

/-- Is one ahead? By their keys. -/
theorem less_keys (a b : Nat) (ha : a < 18446744073709551616) (hb : b < 18446744073709551616) :
    (cls a = 0 ∧ ¬ keyV a < keyV b) ∨ (cls a ≠ 0 ∧ cls b = 0 ∧ keyV a < keyV b) ∨
    (cls a ≠ 0 ∧ cls b ≠ 0 ∧ cls a ≠ cls b ∧ (keyV a < keyV b ↔ cls a < cls b)) ∨
    (cls a ≠ 0 ∧ cls b = cls a ∧ cls a = 2 ∧ (keyV a < keyV b ↔ b < a)) ∨
    (cls a ≠ 0 ∧ cls b = cls a ∧ cls a ≠ 2 ∧ (keyV a < keyV b ↔ a < b)) := by
  have h1 := key_says a ha
  have h2 := key_says b hb
  have k2 := keyV_lt b hb
  generalize cls a = x at *
  generalize cls b = y at *
  generalize keyV a = p at *
  generalize keyV b = q at *
  by_cases hx : x = 0
  · exact .inl ⟨hx, by rcases h1 with h | h | h | h | h | h | h <;> omega⟩
  by_cases hy : y = 0
  · refine .inr (.inl ⟨hx, hy, ?_⟩)
    have : q = 18446744073709551615 := by rcases h2 with h | h | h | h | h | h | h <;> omega
    rcases h1 with h | h | h | h | h | h | h <;> omega
  by_cases hxy : x = y
  · subst hxy
    by_cases h22 : x = 2
    · refine .inr (.inr (.inr (.inl ⟨hx, rfl, h22, ?_⟩)))
      rcases h1 with h | h | h | h | h | h | h <;> rcases h2 with g | g | g | g | g | g | g <;> omega
    · refine .inr (.inr (.inr (.inr ⟨hx, rfl, h22, ?_⟩)))
      rcases h1 with h | h | h | h | h | h | h <;> rcases h2 with g | g | g | g | g | g | g <;> omega
  · refine .inr (.inr (.inl ⟨hx, hy, hxy, ?_⟩))
    rcases h1 with h | h | h | h | h | h | h <;> rcases h2 with g | g | g | g | g | g | g <;> omega

end Go.Proofs.YthjikbhjciphiaaGreatDoor

/-
  An append onto a row of one's own, which tells where the new row lies. No program stands here.
-/
namespace Go.Proofs.YthjikbhjciphiaaGreatDoor
open Go.RowKit
set_option linter.unusedVariables false

theorem wpList_append_own_at {P : Program} (w : World) {ops : Array Oper} {rest : List Oper} {o : Oper} {a : Act} {Q : Exit → Act → World → Prop} (hgd : Region.wanted o (yielded ops a.tmps) = true) (s x : Operand) (t : TypeId)
    (ho : o.op = .call { callee := .builtin .append, args := #[s, x], argTypes := #[t, t] })
    (base : Nat) (e : TypeId) (i : TypeInfo) (z : Value) (size bytes : Nat) (ht : P.underlying t = some (.slice e)) (hi : P.info? e = some i) (hz : i.zero = some z)
    (hsize : i.size = size) (hby : i.bytes = bytes) (hzs : z.cells.size = size) (hsz : 0 < size)
    (v : Value) (n : Nat) (xs : List Value) (hs : a.eval s = v) (hown : w.ownsRow base e size v n xs)
    (ad : Addr) (m c : Nat) (news : List Value) (hx : a.eval x = .slice (some ad) m c) (hl : news.length = m * size) (hnews : ∀ j u, news[j]? = some u → w.cell? (ad.add j) = some u) (h1 : ∀ u ∈ news, u.oneCell' = true)
    (h63 : n + m ≤ maxLen) (hbytes : (n + m) * bytes ≤ 140737488355328) (hbase : base ≤ w.heap.size)
    (h : ∀ v' w', w'.ownsRow base e size v' (n + m) (xs ++ news) → w.grownBy w' v.ownBlock → (v'.ownBlock = v.ownBlock ∨ v'.ownBlock = some w.heap.size) → wpList P ops Q rest (a.put o.dst v') w') : wpList P ops Q (o :: rest) a w := by
  refine BigFrame.wpList_want hgd fun K hK => ?_
  obtain ⟨v', w', hr, h2, h3, _, h4⟩ := run_append_own_at (P := P) w base t o.type e i z size bytes ht hi hz hsize hby hzs hsz v n xs hown ad m c news hl hnews h1 h63 hbytes hbase
  unfold Oper.wp execOp
  simp only [ho, resolve, invoke, builtin, Sem.run_bind, Sem.run_pure, Result.andThen_ok, List.map_toArray, List.map_cons, List.map_nil, hs, hx, hr]
  exact hK _ _ (h v' w' h2 h3 h4)

/-- .. within a region that draws its order. -/
theorem step_append_own {P : Program} {w : World} {ops : Array Oper} {o : Oper} {a : Act} {K : Act → World → Prop} {Q : Exit → Act → World → Prop} {E : Prop} (hgd : o.guard = none) (s x : Operand) (t : TypeId)
    (ho : o.op = .call { callee := .builtin .append, args := #[s, x], argTypes := #[t, t] })
    (base : Nat) (e : TypeId) (i : TypeInfo) (z : Value) (size bytes : Nat) (ht : P.underlying t = some (.slice e)) (hi : P.info? e = some i) (hz : i.zero = some z)
    (hsize : i.size = size) (hby : i.bytes = bytes) (hzs : z.cells.size = size) (hsz : 0 < size)
    (v : Value) (n : Nat) (xs : List Value) (hs : a.eval s = v) (hown : w.ownsRow base e size v n xs)
    (ad : Addr) (m c : Nat) (news : List Value) (hx : a.eval x = .slice (some ad) m c) (hl : news.length = m * size) (hnews : ∀ j u, news[j]? = some u → w.cell? (ad.add j) = some u) (h1 : ∀ u ∈ news, u.oneCell' = true)
    (h63 : n + m ≤ maxLen) (hbytes : (n + m) * bytes ≤ 140737488355328) (hbase : base ≤ w.heap.size)
    (h : ∀ v' w', w'.ownsRow base e size v' (n + m) (xs ++ news) → w.grownBy w' v.ownBlock → (v'.ownBlock = v.ownBlock ∨ v'.ownBlock = some w.heap.size) → K (a.put o.dst v') w') :
    if Region.wanted o (yielded ops a.tmps) = true then Oper.wp P o a w K Q else E := by
  have hw : Region.wanted o (yielded ops a.tmps) = true := by simp [Region.wanted, hgd]
  rw [if_pos hw]
  obtain ⟨v', w', hr, h2, h3, _, h4⟩ := run_append_own_at (P := P) w base t o.type e i z size bytes ht hi hz hsize hby hzs hsz v n xs hown ad m c news hl hnews h1 h63 hbytes hbase
  unfold Oper.wp execOp
  simp only [ho, resolve, invoke, builtin, Sem.run_bind, Sem.run_pure, Result.andThen_ok, List.map_toArray, List.map_cons, List.map_nil, hs, hx, hr]
  exact h v' w' h2 h3 h4

end Go.Proofs.YthjikbhjciphiaaGreatDoor

/-
  The first error of two (cmp.Or).
-/
namespace Go.Proofs.YthjikbhjciphiaaGreatDoor
open Go.RowKit
set_option linter.unusedVariables false
set_option linter.unusedSimpArgs false

/-- The first error of two. -/
def orE (a b : Int) : Int := if a ≠ 0 then a else b

set_option maxRecDepth 100000 in
theorem or_any (a b : Int) (g c : Nat) (W : World) (h0 : W.cell? ⟨g, 0, none⟩ = some (.int .i64 a)) (h1 : W.cell? ⟨g, 1, none⟩ = some (.int .i64 b)) :
    Calls Tryz.prog 120 #[.slice (some ⟨g, 0, none⟩) 2 c] W fun e W' => e = .returned (.int .i64 (orE a b)) ∧ W' = W := by
  go_enter Tryz.func120, Tryz.ntmps120
  go_wp2
  go_loop [5, 8] (fun v i => ∃ k : Nat, k ≤ 2 ∧ i = .int .i64 k ∧ (0 < k → a = 0) ∧ (1 < k → b = 0)) (fun _ i => 2 - (intOf i).toNat)
  case atStart => exact ⟨0, by omega, rfl, by omega, by omega⟩
  case round =>
    obtain ⟨k, hk, rfl, ha, hb⟩ := hrel
    have hcases : k = 0 ∨ k = 1 ∨ k = 2 := by omega
    rcases hcases with rfl | rfl | rfl
    · by_cases h : a = 0
      · subst h
        clear ha hb
        go_wp2
        go_round
        case rel => exact ⟨1, by omega, rfl, by simp, by omega⟩
        case measure => simp [intOf]
      · have e : orE a b = a := by unfold orE; rw [if_pos h]
        have HE := Lib.hid e
        have hq : (a != 0) = true := by simpa using h
        clear ha hb e h
        go_wp2
        go_ret
        exact ⟨by rw [HE.out]; rfl, rfl⟩
    · have e0 : a = 0 := ha (by omega)
      subst e0
      by_cases h : b = 0
      · subst h
        clear ha hb
        go_wp2
        go_round
        case rel => exact ⟨2, by omega, rfl, by simp, by simp⟩
        case measure => simp [intOf]
      · have e : orE 0 b = b := rfl
        have HE := Lib.hid e
        have hq : (b != 0) = true := by simpa using h
        clear ha hb e h
        go_wp2
        go_ret
        exact ⟨by rw [HE.out]; rfl, rfl⟩
    · have e0 : a = 0 := ha (by omega)
      have e1 : b = 0 := hb (by omega)
      subst e0 e1
      clear ha hb
      go_wp2
      go_ret
      exact ⟨rfl, rfl⟩

end Go.Proofs.YthjikbhjciphiaaGreatDoor

/-
  Segments' names: sixteen digits of a number, the number of a name, their order. No program stands here.
-/
namespace Go.Proofs.YthjikbhjciphiaaGreatDoor
open Go.RowKit
set_option linter.unusedVariables false
set_option linter.unusedSimpArgs false

/-- A hexadecimal digit. -/
def hd16 (d : Nat) : UInt8 := if d < 10 then UInt8.ofNat (48 + d) else UInt8.ofNat (87 + d)
/-- The lowest k digits of a number. -/
def hexL : Nat → Nat → List UInt8
  | 0, _ => []
  | k + 1, n => hd16 (n / 16 ^ k % 16) :: hexL k n
/-- The name of a number. -/
def nameL (n : Nat) : List UInt8 := 119 :: hexL 16 n
def decR16 (c : UInt8) : Bool := decide (48 ≤ c.toNat ∧ c.toNat ≤ 57)
def lowR16 (c : UInt8) : Bool := decide (97 ≤ c.toNat ∧ c.toNat ≤ 102)
/-- One sign more. -/
def stepV (n : Nat) (c : UInt8) : Nat := if decR16 c then 16 * n + c.toNat % 16 else if lowR16 c then 16 * n + c.toNat % 16 + 9 else n
def valS (l : List UInt8) : Nat := l.foldl stepV 0
/-- The number of a name, and whether it is one. -/
def numC (s : List UInt8) : Nat × Bool := if s.length = 17 then (valS (s.drop 1), decide (nameL (valS (s.drop 1)) = s)) else (0, false)

theorem hexL_len (k n : Nat) : (hexL k n).length = k := by
  induction k with
  | zero => rfl
  | succ k ih => simp [hexL, ih]
theorem nameL_len (n : Nat) : (nameL n).length = 17 := by unfold nameL; rw [List.length_cons, hexL_len]
theorem hd16_cases : ∀ d : Fin 16, (decR16 (hd16 d.val) = true ∧ (hd16 d.val).toNat % 16 = d.val) ∨ (decR16 (hd16 d.val) = false ∧ lowR16 (hd16 d.val) = true ∧ (hd16 d.val).toNat % 16 + 9 = d.val) := by decide +kernel
theorem stepV_hd (p d : Nat) (h : d < 16) : stepV p (hd16 d) = 16 * p + d := by
  unfold stepV
  rcases hd16_cases ⟨d, h⟩ with ⟨h1, h2⟩ | ⟨h1, h2, h3⟩
  · simp only at h1 h2
    rw [if_pos h1, h2]
  · simp only at h1 h2 h3
    rw [if_neg (by rw [h1]; decide), if_pos h2]
    omega
theorem val_hex (k : Nat) : ∀ (n p : Nat), (hexL k n).foldl stepV p = p * 16 ^ k + n % 16 ^ k := by
  induction k with
  | zero => intro n p; simp [hexL, Nat.mod_one]
  | succ k ih =>
    intro n p
    show (hexL k n).foldl stepV (stepV p (hd16 (n / 16 ^ k % 16))) = _
    rw [stepV_hd _ _ (Nat.mod_lt _ (by decide)), ih, Nat.mod_pow_succ, Nat.pow_succ, Nat.add_mul, Nat.mul_comm (16 ^ k) (n / 16 ^ k % 16), Nat.mul_comm (16 ^ k) 16, Nat.mul_comm 16 p, Nat.mul_assoc]
    omega
theorem val_name (n : Nat) (h : n < 18446744073709551616) : valS ((nameL n).drop 1) = n := by
  show (hexL 16 n).foldl stepV 0 = n
  rw [val_hex, Nat.zero_mul, Nat.zero_add]
  exact Nat.mod_eq_of_lt h
theorem num_name (n : Nat) (h : n < 18446744073709551616) : numC (nameL n) = (n, true) := by
  unfold numC
  rw [if_pos (nameL_len n), val_name n h]
  simp
theorem name_inj (a b : Nat) (ha : a < 18446744073709551616) (hb : b < 18446744073709551616) (h : nameL a = nameL b) : a = b := by
  have := val_name a ha
  rw [h, val_name b hb] at this
  exact this.symm
theorem stepV_le (n : Nat) (c : UInt8) : stepV n c ≤ 16 * n + 15 := by
  unfold stepV
  have hm := Nat.mod_lt c.toNat (show 0 < 16 by decide)
  split
  · omega
  · split
    · rename_i h
      have h' : 97 ≤ c.toNat ∧ c.toNat ≤ 102 := of_decide_eq_true h
      omega
    · omega
theorem val_lt (l : List UInt8) : ∀ p, l.foldl stepV p + 1 ≤ (p + 1) * 16 ^ l.length := by
  induction l with
  | nil => intro p; simp
  | cons c l ih =>
    intro p
    have h1 := ih (stepV p c)
    have h2 := stepV_le p c
    have h3 : (stepV p c + 1) * 16 ^ l.length ≤ ((p + 1) * 16) * 16 ^ l.length := Nat.mul_le_mul_right _ (by omega)
    rw [List.length_cons, Nat.pow_succ, Nat.mul_comm (16 ^ l.length) 16, ← Nat.mul_assoc]
    exact Nat.le_trans h1 h3
theorem num_is (s : List UInt8) (h : (numC s).2 = true) : (numC s).1 < 18446744073709551616 ∧ s = nameL (numC s).1 := by
  unfold numC at h ⊢
  by_cases hl : s.length = 17
  · rw [if_pos hl] at h ⊢
    have h1 := val_lt (s.drop 1) 0
    rw [List.length_drop, hl] at h1
    have h2 : nameL (valS (s.drop 1)) = s := of_decide_eq_true h
    refine ⟨?_, h2.symm⟩
    have : (16 : Nat) ^ (17 - 1) = 18446744073709551616 := by decide
    unfold valS
    omega
  · rw [if_neg hl] at h
    cases h
theorem num_eq (s : List UInt8) (n : Nat) (h : n < 18446744073709551616) : numC s = (n, true) ↔ s = nameL n := by
  constructor
  · intro e
    have := num_is s (by rw [e])
    rw [e] at this
    exact this.2
  · rintro rfl
    exact num_name n h

theorem hd16_lt : ∀ a b : Fin 16, decide (hd16 a.val < hd16 b.val) = decide (a.val < b.val) ∧ (hd16 a.val = hd16 b.val → a = b) := by decide +kernel
/-- Digits are in order as their numbers. -/
theorem hex_less (k a b : Nat) : Op.bytesLess (hexL k a) (hexL k b) = decide (a % 16 ^ k < b % 16 ^ k) := by
  induction k with
  | zero => simp [hexL, Op.bytesLess, Nat.mod_one]
  | succ k ih =>
    obtain ⟨x, hx⟩ : ∃ x : Fin 16, x.val = a / 16 ^ k % 16 := ⟨⟨_, Nat.mod_lt _ (by decide)⟩, rfl⟩
    obtain ⟨y, hy⟩ : ∃ y : Fin 16, y.val = b / 16 ^ k % 16 := ⟨⟨_, Nat.mod_lt _ (by decide)⟩, rfl⟩
    have hp : 0 < 16 ^ k := Nat.pow_pos (by decide)
    have ha := Nat.mod_lt a hp
    have hb := Nat.mod_lt b hp
    rw [Nat.mod_pow_succ, Nat.mod_pow_succ, ← hx, ← hy]
    show (decide (hd16 (a / 16 ^ k % 16) < hd16 (b / 16 ^ k % 16)) || (hd16 (a / 16 ^ k % 16) == hd16 (b / 16 ^ k % 16) && Op.bytesLess (hexL k a) (hexL k b))) = _
    rw [← hx, ← hy, ih, (hd16_lt x y).1]
    generalize 16 ^ k = P at ha hb ⊢
    generalize a % P = A at ha ⊢
    generalize b % P = B at hb ⊢
    rcases Nat.lt_trichotomy x.val y.val with h | h | h
    · have h1 : P * (x.val + 1) ≤ P * y.val := Nat.mul_le_mul_left _ h
      rw [Nat.mul_add, Nat.mul_one] at h1
      rw [decide_eq_true h, show decide (A + P * x.val < B + P * y.val) = true from decide_eq_true (by omega)]
      rfl
    · have e : x = y := Fin.ext h
      subst e
      rw [decide_eq_false (by omega), Bool.false_or, beq_self_eq_true, Bool.true_and]
      exact decide_eq_decide.2 (by omega)
    · have h1 : P * (y.val + 1) ≤ P * x.val := Nat.mul_le_mul_left _ h
      rw [Nat.mul_add, Nat.mul_one] at h1
      have hne : (hd16 x.val == hd16 y.val) = false := by
        rw [beq_eq_false_iff_ne]
        intro e
        have := (hd16_lt x y).2 e
        rw [this] at h
        exact Nat.lt_irrefl _ h
      rw [decide_eq_false (show ¬ x.val < y.val by omega), show decide (A + P * x.val < B + P * y.val) = false from decide_eq_false (by omega), hne]
      rfl
theorem name_less (a b : Nat) (ha : a < 18446744073709551616) (hb : b < 18446744073709551616) : Op.bytesLess (nameL a) (nameL b) = decide (a < b) := by
  show (decide ((119 : UInt8) < 119) || ((119 : UInt8) == 119 && Op.bytesLess (hexL 16 a) (hexL 16 b))) = _
  rw [hex_less, show (16 : Nat) ^ 16 = 18446744073709551616 by decide, Nat.mod_eq_of_lt ha, Nat.mod_eq_of_lt hb]
  simp

end Go.Proofs.YthjikbhjciphiaaGreatDoor

/-
  'make' of bytes. No program stands here.
-/
namespace Go.Proofs.YthjikbhjciphiaaGreatDoor
open Go.RowKit
set_option linter.unusedVariables false
set_option linter.unusedSimpArgs false

/-- 'make([]byte, n, c)'. -/
theorem wpList_make_byt {P : Program} (w : World) {ops : Array Oper} {rest : List Oper} {o : Oper} {a : Act} {Q : Exit → Act → World → Prop}
    (hg : o.guard = none) (l c : Operand) (t : TypeId) (hop : o.op = Op.makeSlice t l c)
    (base : Nat) (e : TypeId) (i : TypeInfo) (h1 : P.underlying t = some (.slice e)) (h2 : P.info? e = some i) (h3 : i.zero = some (.int .u8 0)) (h4 : i.size = 1) (h5 : i.bytes = 1)
    (kl kc : IntKind) (N C : Int) (n m : Nat) (hl : a.eval l = .int kl N) (hc : a.eval c = .int kc C) (hN : N = (n : Int)) (hC : C = (m : Int)) (hnm : n ≤ m) (b2 : m ≤ 140737488355328) (b4 : base ≤ w.heap.size)
    (hK : ∀ w', w'.ownsRow base e 1 (.slice (some ⟨w.heap.size, 0, none⟩) n m) n ((List.replicate n (0 : UInt8)).map bv) → w.grownBy w' none → wpList P ops Q rest (a.put o.dst (.slice (some ⟨w.heap.size, 0, none⟩) n m)) w') :
    wpList P ops Q (o :: rest) a w := by
  refine wpList_plain hg fun K hK' => ?_
  have hr := run_make (P := P) w t e i _ h1 h2 h3 kl kc N C (by omega) (by omega) (by rw [h5]; omega) (by omega)
  subst hN; subst hC
  unfold Oper.wp
  simp only [execOp, hop, hl, hc, Sem.run_bind, hr, Result.andThen, Int.toNat_natCast, h4, Nat.mul_one]
  refine hK' _ _ (hK _ ?_ (World.grownBy_alloc w _ none))
  refine ⟨by simp, .inr ⟨w.heap.size, m, _, rfl, b4, heap_alloc_new w _, hnm, by unfold maxLen; omega, ?_, ?_⟩⟩
  · have := size_madeCells #[Value.int .u8 0] m
    simpa [Value.cells] using this
  · rw [show (Value.int IntKind.u8 0).cells = #[.int .u8 0] from rfl, toList_madeCells_one, List.take_replicate]
    simp [bv, Nat.min_eq_left hnm]

end Go.Proofs.YthjikbhjciphiaaGreatDoor

/-
  A slice whose elements take one cell, as a list of values: reads, append, make. No program stands here.
-/
namespace Go.Proofs.YthjikbhjciphiaaGreatDoor
open Go.RowKit
set_option linter.unusedVariables false
set_option linter.unusedSimpArgs false

/-- The slice value '.slice A n c' reads as the cells xs, in blocks below B. -/
def Vals (w : World) (B : Nat) (A : Option Addr) (n : Nat) (xs : List Value) : Prop :=
  xs.length = n ∧ (0 < n → ∃ b o, A = some ⟨b, o, none⟩ ∧ b < B ∧ ∀ (j : Nat) (x : Value), xs[j]? = some x → w.cell? ⟨b, o + j, none⟩ = some x)

section
variable {w w' : World} {B B' n : Nat} {A : Option Addr} {xs : List Value}
theorem Vals.nil : Vals w B A 0 [] := ⟨rfl, fun h => absurd h (by omega)⟩
theorem Vals.len (h : Vals w B A n xs) : xs.length = n := h.1
theorem Vals.keep (h : Vals w B A n xs) (hk : ∀ p : Addr, p.block < B → w'.cell? p = w.cell? p) : Vals w' B A n xs :=
  ⟨h.1, fun hn => by
    obtain ⟨b, o, e, hb, hc⟩ := h.2 hn
    exact ⟨b, o, e, hb, fun j u hu => (hk _ hb).trans (hc j u hu)⟩⟩
theorem Vals.more (h : Vals w B A n xs) (hB : B ≤ B') : Vals w B' A n xs :=
  ⟨h.1, fun hn => by
    obtain ⟨b, o, e, hb, hc⟩ := h.2 hn
    exact ⟨b, o, e, by omega, hc⟩⟩
theorem Vals.below (h : Vals w B A n xs) (hb : Below B w w') : Vals w' B A n xs := h.keep fun _ hp => hb.cell hp
theorem Vals.drew (h : Vals w B A n xs) : Vals w.drew B A n xs := h
theorem Vals.drewN (h : Vals w B A n xs) (k : Nat) : Vals (w.drewN k) B A n xs := h
theorem Vals.alloc (h : Vals w B A n xs) (hB : B ≤ w.heap.size) (o : Obj) : Vals (w.alloc o) B A n xs := h.keep fun p hp => World.cell?_alloc_lt w o p (by omega)
theorem Vals.at_ (h : Vals w B A n xs) {k : Nat} (hk : k < n) : ∃ b o x, A = some ⟨b, o, none⟩ ∧ b < B ∧ xs[k]? = some x ∧ w.cell? ⟨b, o + k, none⟩ = some x := by
  obtain ⟨b, o, e, hb, hc⟩ := h.2 (by omega)
  have hl : k < xs.length := by have := h.1; omega
  exact ⟨b, o, xs[k], e, hb, List.getElem?_eq_getElem hl, hc k _ (List.getElem?_eq_getElem hl)⟩
theorem Vals.of_own {base : Nat} {e : TypeId} {c : Nat} (h : w.ownsRow base e 1 (.slice A n c) n xs) : Vals w w.heap.size A n xs := by
  refine ⟨by have := h.1; simpa using this, fun hn => ?_⟩
  rcases h.2 with ⟨_, h0⟩ | ⟨g, cap, cur, hv, _, hh, _⟩
  · omega
  · injection hv with hA
    subst hA
    refine ⟨g, 0, rfl, (Array.getElem?_eq_some_iff.1 hh).1, fun j x hx => ?_⟩
    have := h.cells (g := g) rfl j x hx
    rw [Addr.add_lit] at this
    exact this
end

/-- 'append(out, src...)' onto a row of the call's own, the source nil, empty or not. -/
theorem run_append_vals {P : Program} (w : World) (base : Nat) (t ty e : TypeId) (i : TypeInfo) (z : Value) (bytes : Nat) (ht : P.underlying t = some (.slice e)) (hi : P.info? e = some i) (hz : i.zero = some z)
    (hsize : i.size = 1) (hby : i.bytes = bytes) (hzs : z.cells.size = 1)
    (v : Value) (n : Nat) (xs : List Value) (hown : w.ownsRow base e 1 v n xs)
    (B : Nat) (A : Option Addr) (m c : Nat) (l : List Value) (hr : Vals w B A m l) (hnil : A = none → c = 0) (h1 : ∀ u ∈ l, u.oneCell' = true)
    (h47 : (n + m) * bytes ≤ 140737488355328) (h63 : n + m ≤ 140737488355328) (hbase : base ≤ w.heap.size) :
    ∃ v' w', (Builtin.append_ #[t, t] ty #[v, .slice A m c]).run P w = .ok v' w' ∧ w'.ownsRow base e 1 v' (n + m) (xs ++ l) ∧ w.grownBy w' v.ownBlock := by
  by_cases hm : m = 0
  · subst hm
    have hl : l = [] := List.eq_nil_of_length_eq_zero hr.1
    subst hl
    rcases A with _ | ad
    · obtain rfl := hnil rfl
      exact ⟨v, w, run_append_owned_none (P := P) w base t ty e i 1 ht hi v n xs hown, by simpa using hown, World.grownBy.refl w _⟩
    · obtain ⟨v', w', hrun, h2, h3, _⟩ := run_append_own (P := P) w base t ty e i z 1 bytes ht hi hz hsize hby hzs (by decide) v n xs hown ad 0 c [] rfl (by simp) (by simp) (by unfold maxLen; omega) (by omega) hbase
      exact ⟨v', w', hrun, h2, h3⟩
  · obtain ⟨b, o, rfl, hb, hc⟩ := hr.2 (by omega)
    obtain ⟨v', w', hrun, h2, h3, _⟩ := run_append_own (P := P) w base t ty e i z 1 bytes ht hi hz hsize hby hzs (by decide) v n xs hown ⟨b, o, none⟩ m c l (by simp [hr.1])
      (by
        intro j u hu
        rw [Addr.add_lit]
        exact hc j u hu) h1 (by unfold maxLen; omega) (by omega) hbase
    exact ⟨v', w', hrun, h2, h3⟩

theorem wpList_append_vals {P : Program} (w : World) {ops : Array Oper} {rest : List Oper} {o : Oper} {a : Act} {Q : Exit → Act → World → Prop} (hgd : Region.wanted o (yielded ops a.tmps) = true) (s x : Operand) (t : TypeId)
    (ho : o.op = .call { callee := .builtin .append, args := #[s, x], argTypes := #[t, t] })
    (base : Nat) (e : TypeId) (i : TypeInfo) (z : Value) (bytes : Nat) (ht : P.underlying t = some (.slice e)) (hi : P.info? e = some i) (hz : i.zero = some z)
    (hsize : i.size = 1) (hby : i.bytes = bytes) (hzs : z.cells.size = 1)
    (v : Value) (n : Nat) (xs : List Value) (hs : a.eval s = v) (hown : w.ownsRow base e 1 v n xs)
    (B : Nat) (A : Option Addr) (m c : Nat) (l : List Value) (hx : a.eval x = .slice A m c) (hr : Vals w B A m l) (hnil : A = none → c = 0) (h1 : ∀ u ∈ l, u.oneCell' = true)
    (h47 : (n + m) * bytes ≤ 140737488355328) (h63 : n + m ≤ 140737488355328) (hbase : base ≤ w.heap.size)
    (h : ∀ v' w', w'.ownsRow base e 1 v' (n + m) (xs ++ l) → w.grownBy w' v.ownBlock → wpList P ops Q rest (a.put o.dst v') w') : wpList P ops Q (o :: rest) a w := by
  refine BigFrame.wpList_want hgd fun K hK => ?_
  obtain ⟨v', w', hr, h2, h3⟩ := run_append_vals (P := P) w base t o.type e i z bytes ht hi hz hsize hby hzs v n xs hown B A m c l hr hnil h1 h47 h63 hbase
  unfold Oper.wp execOp
  simp only [ho, resolve, invoke, builtin, Sem.run_bind, Sem.run_pure, Result.andThen_ok, List.map_toArray, List.map_cons, List.map_nil, hs, hx, hr]
  exact hK _ _ (h v' w' h2 h3)

/-- One value appended: the walk has just laid it in a block of its own. -/
theorem Vals.one (w : World) (x y : Value) (hx : y = x) (e : TypeId) : Vals (w.alloc (.cells #[y] e)) (w.heap.size + 1) (some ⟨w.heap.size, 0, none⟩) 1 [x] := by
  subst hx
  refine ⟨rfl, fun _ => ⟨_, _, rfl, by omega, fun j z hz => ?_⟩⟩
  match j, hz with
  | 0, hz => simp at hz; subst hz; simp [World.cell?_alloc_at]

/-- 'make([]T, n, m)' of elements of one cell. -/
theorem wpList_make_vals {P : Program} (w : World) {ops : Array Oper} {rest : List Oper} {o : Oper} {a : Act} {Q : Exit → Act → World → Prop}
    (hg : o.guard = none) (l c : Operand) (t : TypeId) (hop : o.op = Op.makeSlice t l c)
    (base : Nat) (e : TypeId) (i : TypeInfo) (z : Value) (bytes : Nat) (h1 : P.underlying t = some (.slice e)) (h2 : P.info? e = some i) (h3 : i.zero = some z) (hz1 : z.oneCell' = true) (hzc : z.cells = #[z]) (h4 : i.size = 1) (h5 : i.bytes = bytes)
    (kl kc : IntKind) (N C : Int) (n m : Nat) (hl : a.eval l = .int kl N) (hc : a.eval c = .int kc C) (hN : N = (n : Int)) (hC : C = (m : Int)) (hnm : n ≤ m) (b2 : bytes * m ≤ 140737488355328) (b3 : m ≤ 140737488355328) (b4 : base ≤ w.heap.size)
    (hK : ∀ w', w'.ownsRow base e 1 (.slice (some ⟨w.heap.size, 0, none⟩) n m) n (List.replicate n z) → w.grownBy w' none → wpList P ops Q rest (a.put o.dst (.slice (some ⟨w.heap.size, 0, none⟩) n m)) w') :
    wpList P ops Q (o :: rest) a w := by
  refine wpList_plain hg fun K hK' => ?_
  have hb : ((i.bytes : Int) * C) ≤ 281474976710656 := by
    rw [h5, hC, ← Int.natCast_mul]
    omega
  have hr := run_make (P := P) w t e i _ h1 h2 h3 kl kc N C (by omega) (by omega) hb (by omega)
  subst hN; subst hC
  unfold Oper.wp
  simp only [execOp, hop, hl, hc, Sem.run_bind, hr, Result.andThen, Int.toNat_natCast, h4, Nat.mul_one]
  refine hK' _ _ (hK _ ?_ (World.grownBy_alloc w _ none))
  refine ⟨by simp, .inr ⟨w.heap.size, m, _, rfl, b4, heap_alloc_new w _, hnm, by unfold maxLen; omega, ?_, ?_⟩⟩
  · have := size_madeCells #[z] m
    rw [hzc]
    simpa using this
  · rw [hzc, toList_madeCells_one, List.take_replicate]
    simp [Nat.min_eq_left hnm]

def lenV : Value → Nat
  | .slice _ n _ => n
  | _ => 0

/-- A number as a cell of an int. -/
def nv (x : Nat) : Value := .int .i64 (x : Int)
theorem nvs_one (l : List Nat) : ∀ u ∈ l.map nv, u.oneCell' = true := by
  intro u hu
  obtain ⟨b, _, rfl⟩ := List.mem_map.1 hu
  rfl
theorem nvs_at (l : List Nat) (k : Nat) (h : k < l.length) : (l.map nv)[k]? = some (.int .i64 ((l.getD k 0 : Nat) : Int)) := by
  rw [List.getElem?_map, List.getElem?_eq_getElem h, List.getD_eq_getElem?_getD, List.getElem?_eq_getElem h]
  rfl
theorem Vals.nat {w : World} {B n : Nat} {A : Option Addr} {l : List Nat} (h : Vals w B A n (l.map nv)) {k : Nat} (hk : k < n) : ∃ b o, A = some ⟨b, o, none⟩ ∧ b < B ∧ w.cell? ⟨b, o + k, none⟩ = some (.int .i64 ((l.getD k 0 : Nat) : Int)) := by
  obtain ⟨b, o, x, e, hb, hx, hc⟩ := h.at_ hk
  have hl := h.1
  rw [List.length_map] at hl
  rw [nvs_at l k (by omega)] at hx
  exact ⟨b, o, e, hb, hc.trans hx.symm⟩

end Go.Proofs.YthjikbhjciphiaaGreatDoor
