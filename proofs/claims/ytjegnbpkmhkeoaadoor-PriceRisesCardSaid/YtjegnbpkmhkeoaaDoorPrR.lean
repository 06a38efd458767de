/-
  The law PriceRises; an argument of two words.
-/
import Derived.Test.YtjegnbpkmhkeoaaDoorPrL
import Derived.Test.YtjegnbpkmhkeoaaDoorOpenArr
import Derived.Deep.QuietTactic
import Derived.BigQuiet
import Derived.DeepKeys
import Derived.Laws.IdiomArrays
namespace Go.Proofs.YtjegnbpkmhkeoaaDoor
open Go.RowKit
set_option linter.unusedVariables false
set_option linter.unusedSimpArgs false

/-- The law's cases: which of the three ends. -/
theorem rises_of (a b c0 c1 x y v0 v1 mn mx : Nat) (E0 E1 : Int) (q : Bool) (W : World) (ha : a < 18446744073709551616) (hb : b < 18446744073709551616)
    (hab : (b < a ∧ mn = b ∧ mx = a) ∨ (a < b ∧ mn = a ∧ mx = b) ∨ (a = b ∧ mn = a ∧ mx = a))
    (hE0 : E0 = 0 ∨ E0 = 13) (hE1 : E1 = 0 ∨ E1 = 13)
    (d1 : Calls Tryd.prog 6 #[.int .u64 mn, .int .u64 c0] (W.alloc (.cells #[.int .u64 c0, .int .u64 c1] 32)) fun e W' => e = .returned (.tuple #[.int .u64 x, .int .i64 E0]) ∧ ∃ n, W' = (W.alloc (.cells #[.int .u64 c0, .int .u64 c1] 32)).drewN n)
    (d2 : ∀ k, Calls Tryd.prog 6 #[.int .u64 mx, .int .u64 c1] ((W.alloc (.cells #[.int .u64 c0, .int .u64 c1] 32)).drewN k) fun e W' => e = .returned (.tuple #[.int .u64 y, .int .i64 E1]) ∧ ∃ n, W' = ((W.alloc (.cells #[.int .u64 c0, .int .u64 c1] 32)).drewN k).drewN n)
    (d3 : ∀ k, Calls Tryd.prog 6 #[.int .u64 0, .int .u64 c0] ((W.alloc (.cells #[.int .u64 c0, .int .u64 c1] 32)).drewN k) fun e W' => e = .returned (.tuple #[.int .u64 0, .int .i64 E0]) ∧ ∃ n, W' = ((W.alloc (.cells #[.int .u64 c0, .int .u64 c1] 32)).drewN k).drewN n)
    (cn0 : ∀ W, Calls Tryd.prog 10 #[.int .u64 c0] W fun e W' => e = .returned (.int .u64 v0) ∧ W' = W)
    (cn1 : ∀ W, Calls Tryd.prog 10 #[.int .u64 c1] W fun e W' => e = .returned (.int .u64 v1) ∧ W' = W)
    (cl : ∀ W, Calls Tryd.prog 11 #[.int .u64 v1, .int .u64 v0] W fun e W' => e = .returned (.bool q) ∧ W' = W)
    (aw : ∀ w', Below W.heap.size W w' → Calls Tryd.prog 9 #[] w' fun e W' => e = .returned (.bool true) ∧ ∃ n, W' = w'.drewN n)
    (hq : E0 = 0 → E1 = 0 → q = false → x ≤ y) :
    Calls Tryd.prog 4 #[.int .u64 a, .int .u64 b, .agg #[.int .u64 c0, .int .u64 c1]] W fun e W' => e = .returned (.bool true) ∧ Below W.heap.size W W' := by
  have hb0 : Below W.heap.size W (W.alloc (.cells #[.int .u64 c0, .int .u64 c1] 32)) := (Below.refl _ _).alloc (Nat.le_refl _) _
  have h0 : (W.alloc (.cells #[.int .u64 c0, .int .u64 c1] 32)).cell? ⟨W.heap.size, 0, none⟩ = some (.int .u64 c0) := World.cell?_alloc_at _ _ _ _ rfl
  have h1 : (W.alloc (.cells #[.int .u64 c0, .int .u64 c1] 32)).cell? ⟨W.heap.size, 1, none⟩ = some (.int .u64 c1) := World.cell?_alloc_at _ _ _ _ rfl
  have HB := Lib.hid hb0
  have HQ := Lib.hid hq
  clear hb0 hq
  have t0 : ((0 : Int) == 0) = true := rfl
  rcases hab with ⟨hlt, rfl, rfl⟩ | ⟨hlt, rfl, rfl⟩ | ⟨rfl, rfl, rfl⟩
  all_goals
    go_enter Tryd.func4, Tryd.ntmps4
    go_wp2_with fail
    generalize (W.alloc (.cells #[.int .u64 c0, .int .u64 c1] 32)) = W0 at *
    refine d1.mono ?_
    rintro e w1 ⟨rfl, n1, rfl⟩
    go_wp2_with fail
    refine (d2 _).mono ?_
    rintro e w1 ⟨rfl, n2, rfl⟩
    go_wp2_with fail
    refine (d3 _).mono ?_
    rintro e w1 ⟨rfl, n3, rfl⟩
    clear d1 d2 d3
    rcases hE0 with rfl | rfl
    · rcases hE1 with rfl | rfl
      · go_wp2_with fail
        generalize hw5 : World.drewN W0 _ = w5
        have hb5 : Below W.heap.size W w5 := by rw [← hw5]; exact below_drewN HB.out _
        have g0 : w5.cell? ⟨W.heap.size, 0, none⟩ = some (.int .u64 c0) := by rw [← hw5]; exact h0
        have g1 : w5.cell? ⟨W.heap.size, 1, none⟩ = some (.int .u64 c1) := by rw [← hw5]; exact h1
        have HB5 := Lib.hid hb5
        clear hw5 h0 h1 hb5 HB
        go_quiet (first | (go_at_call 10; ((with_reducible exact Calls.quiet_of_same (cn0 _)))) | (go_at_call 10; ((with_reducible exact Calls.quiet_of_same (cn1 _)))) | (go_at_call 11; exact Calls.quiet_of_same (cl _)))
        cases q
        · have hxy : x ≤ y := HQ.out trivial trivial rfl
          go_wp2_with (go_at_call 9; refine (aw _ (below_drewN HB5.out _)).mono ?_; rintro e w' ⟨rfl, k, rfl⟩)
          go_ret
          exact ⟨rfl, below_drewN HB5.out _⟩
        · go_wp2_with (go_at_call 9; refine (aw _ (below_drewN HB5.out _)).mono ?_; rintro e w' ⟨rfl, k, rfl⟩)
          go_ret
          exact ⟨rfl, below_drewN HB5.out _⟩
      · go_wp2_with (go_at_call 9; refine (aw _ (below_drewN HB.out _)).mono ?_; rintro e w' ⟨rfl, k, rfl⟩)
        go_ret
        exact ⟨rfl, below_drewN HB.out _⟩
    · go_wp2_with (go_at_call 9; refine (aw _ (below_drewN HB.out _)).mono ?_; rintro e w' ⟨rfl, k, rfl⟩)
      go_ret
      exact ⟨rfl, below_drewN HB.out _⟩

/-- What is a price: its class. -/
theorem errP_zero {b : Nat} (h : errP b = 0) : cls b = 3 ∨ cls b = 4 ∨ cls b = 5 := by
  unfold errP at h
  cases hq : partsIs b
  · rw [hq] at h
    exact absurd h (by decide)
  · exact of_decide_eq_true hq

theorem errP_in (b : Nat) : errP b = 0 ∨ errP b = 13 := by
  unfold errP
  cases partsIs b
  · exact .inr rfl
  · exact .inl rfl

theorem due_rises (m n c0 c1 : Nat) (h0 : c0 < 18446744073709551616) (h1 : c1 < 18446744073709551616) (hmn : m ≤ n) (e0 : errP c0 = 0) (e1 : errP c1 = 0) (hk : ¬ keyV (canonV c1) < keyV (canonV c0)) : dueV m c0 ≤ dueV n c1 := by
  obtain ⟨_, _, _, r3, r4, r5, _⟩ := cls_says c0 h0
  obtain ⟨_, _, _, s3, s4, s5, _⟩ := cls_says c1 h1
  by_cases p0 : cls c0 = 5
  · obtain ⟨g0, g1⟩ := r5 p0
    have k0 : keyV (canonV c0) = c0 + 9223372036854775808 := by
      unfold canonV
      rw [if_neg (by omega), if_neg (by omega)]
      unfold keyV
      rw [if_neg (by omega), if_neg (by omega)]
    by_cases p1 : cls c1 = 5
    · obtain ⟨f0, f1⟩ := s5 p1
      have k1 : keyV (canonV c1) = c1 + 9223372036854775808 := by
        unfold canonV
        rw [if_neg (by omega), if_neg (by omega)]
        unfold keyV
        rw [if_neg (by omega), if_neg (by omega)]
      exact dueV_mono g0 f0 hmn (by omega) p0 p1
    · have hc : canonV c1 = 0 := by
        rcases errP_zero e1 with h | h | h
        · unfold canonV
          rw [if_neg (by omega), if_pos h]
        · unfold canonV
          rw [if_neg (by omega), if_neg (by omega)]
          exact s4 h
        · exact absurd h p1
      rw [hc, show keyV 0 = 9223372036854775808 by decide, k0] at hk
      omega
  · have : dueV m c0 = 0 := by unfold dueV; rw [if_neg p0]
    omega

theorem canonV_lt (b : Nat) (h : b < 18446744073709551616) : canonV b < 18446744073709551616 := by
  unfold canonV
  split
  · decide
  · split
    · decide
    · exact h

theorem priceRises_law (a b y z : Int) (W : World) (ha0 : 0 ≤ a) (ha : a ≤ 18446744073709551615) (hb0 : 0 ≤ b) (hb : b ≤ 18446744073709551615) (hy : (Lit.int .u64 y).wf = true) (hz : (Lit.int .u64 z).wf = true) (hT : DK W) :
    Calls Tryd.prog 4 #[.int .u64 a, .int .u64 b, .agg #[.int .u64 y, .int .u64 z]] W fun e W' => e = .returned (.bool true) ∧ Below W.heap.size W W' := by
  obtain ⟨hy0, hy1⟩ := bounds_u64 hy
  obtain ⟨hz0, hz1⟩ := bounds_u64 hz
  obtain ⟨a, rfl⟩ := Int.eq_ofNat_of_zero_le ha0
  obtain ⟨b, rfl⟩ := Int.eq_ofNat_of_zero_le hb0
  obtain ⟨c0, rfl⟩ := Int.eq_ofNat_of_zero_le hy0
  obtain ⟨c1, rfl⟩ := Int.eq_ofNat_of_zero_le hz0
  have hT0 : DK (W.alloc (.cells #[.int .u64 c0, .int .u64 c1] 32)) := hT.below ((Below.refl _ _).alloc (Nat.le_refl _) _)
  have g0 : c0 < 18446744073709551616 := by omega
  have g1 : c1 < 18446744073709551616 := by omega
  have hz3 : ∀ k, Calls Tryd.prog 6 #[.int .u64 0, .int .u64 c0] ((W.alloc (.cells #[.int .u64 c0, .int .u64 c1] 32)).drewN k) fun e W' => e = .returned (.tuple #[.int .u64 0, .int .i64 (errP c0)]) ∧ ∃ n, W' = ((W.alloc (.cells #[.int .u64 c0, .int .u64 c1] 32)).drewN k).drewN n := by
    intro k
    have := due_any 0 c0 (by decide) g0 _ (hT0.drewN k)
    rw [dueV_zero] at this
    exact this
  have hab : ∃ mn mx, mn < 18446744073709551616 ∧ mx < 18446744073709551616 ∧ mn ≤ mx ∧ ((b < a ∧ mn = b ∧ mx = a) ∨ (a < b ∧ mn = a ∧ mx = b) ∨ (a = b ∧ mn = a ∧ mx = a)) := by
    rcases Nat.lt_trichotomy a b with h | h | h
    · exact ⟨a, b, by omega, by omega, by omega, .inr (.inl ⟨h, rfl, rfl⟩)⟩
    · exact ⟨a, a, by omega, by omega, by omega, .inr (.inr ⟨h, rfl, rfl⟩)⟩
    · exact ⟨b, a, by omega, by omega, by omega, .inl ⟨h, rfl, rfl⟩⟩
  obtain ⟨mn, mx, hmn, hmx, hle, hab⟩ := hab
  exact rises_of a b c0 c1 (dueV mn c0) (dueV mx c1) (canonV c0) (canonV c1) mn mx (errP c0) (errP c1) (decide (keyV (canonV c1) < keyV (canonV c0))) W (by omega) (by omega) hab (errP_in c0) (errP_in c1)
    (due_any mn c0 hmn g0 _ hT0) (fun k => due_any mx c1 hmx g1 _ (hT0.drewN k)) hz3
    (fun W => (refCanon_any c0 g0 W).mono fun _ _ ⟨h1, h2⟩ => ⟨h1, h2.symm⟩) (fun W => (refCanon_any c1 g1 W).mono fun _ _ ⟨h1, h2⟩ => ⟨h1, h2.symm⟩)
    (fun W => (refLess_any _ _ (canonV_lt c1 g1) (canonV_lt c0 g0) W _ rfl).mono fun _ _ ⟨h1, h2⟩ => ⟨h1, h2.symm⟩)
    (fun w' h => awake6_any w' (hT.below h))
    (fun h0 h1 hq => due_rises mn mx c0 c1 g0 g1 hle h0 h1 (of_decide_eq_false hq))

end Go.Proofs.YtjegnbpkmhkeoaaDoor
