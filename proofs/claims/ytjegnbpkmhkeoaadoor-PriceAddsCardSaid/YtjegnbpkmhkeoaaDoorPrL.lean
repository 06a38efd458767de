/-
  The laws of package price: PriceDue, PriceAdds, PriceRises.
-/
import Derived.Test.YtjegnbpkmhkeoaaDoorPrD
namespace Go.Proofs.YtjegnbpkmhkeoaaDoor
open Go.RowKit
set_option linter.unusedVariables false
set_option linter.unusedSimpArgs false

theorem DK.drewN {W : World} (h : DK W) (k : Nat) : DK (W.drewN k) := fun i hi => h i hi

theorem DK.below {W W' : World} (h : DK W) (hb : Below W.heap.size W W') : DK W' := by
  intro k hk
  have h1 := h k hk
  have h2 := World.block_lt_of_cell? W _ h1
  exact (hb.cell (p := ⟨1, k, none⟩) h2).trans h1

theorem awake6_any (W : World) (hT : DK W) : Calls Tryd.prog 9 #[] W fun e W' => e = .returned (.bool true) ∧ ∃ k, W' = W.drewN k := by
  have c1 := due_yes 10 4598175219545276416 (by decide) (by decide) (by decide) W hT
  rw [show dueV 10 4598175219545276416 = 2 by decide +kernel] at c1
  have c2 := fun W => add_any 1 2 (by decide) (by decide) W
  rw [show capM (1 + 2) = 3 by decide] at c2
  go_enter Tryd.func9, Tryd.ntmps9
  go_wp2_with (first | (go_at_call 6; refine c1.mono ?_; rintro e w' ⟨rfl, k, rfl⟩) | (go_at_call 12; refine (c2 _).mono ?_; rintro e w' ⟨rfl, rfl⟩))
  go_ret
  exact ⟨rfl, _, rfl⟩

theorem priceAdds_law (a b : Int) (W : World) (ha0 : 0 ≤ a) (ha : a ≤ 18446744073709551615) (hb0 : 0 ≤ b) (hb : b ≤ 18446744073709551615) (hT : DK W) :
    Calls Tryd.prog 5 #[.int .u64 a, .int .u64 b] W fun e W' => e = .returned (.bool true) ∧ Below W.heap.size W W' := by
  obtain ⟨a, rfl⟩ := Int.eq_ofNat_of_zero_le ha0
  obtain ⟨b, rfl⟩ := Int.eq_ofNat_of_zero_le hb0
  have c1 := fun W => add_any a b (by omega) (by omega) W
  have c2 := fun W => refAdd_any a b (by omega) (by omega) W
  have c3 := fun W => over_any a b (by omega) (by omega) W
  have c4 := awake6_any W hT
  obtain ⟨d, hd⟩ : ∃ d, d = 18446744073709551615 - b := ⟨_, rfl⟩
  have e0 : (18446744073709551615 : Int) - b = (d : Int) := by omega
  have hd2 : d ≤ 18446744073709551615 := by omega
  have hq : overV a b = decide (d < a) := by unfold overV; rw [decide_eq_decide]; omega
  rw [hq] at c3
  generalize capM (a + b) = s at c1 c2
  have t1 : ((s : Int) == (s : Int)) = true := by simp
  clear hd hq
  by_cases h : d < a
  · rw [decide_eq_true h] at c3
    go_enter Tryd.func5, Tryd.ntmps5
    go_wp2_with (first | (go_at_call 12; refine (c1 _).mono ?_; rintro e w' ⟨rfl, rfl⟩) | (go_at_call 13; refine (c2 _).mono ?_; rintro e w' ⟨rfl, rfl⟩) | (go_at_call 14; refine (c3 _).mono ?_; rintro e w' ⟨rfl, rfl⟩) | (go_at_call 9; refine c4.mono ?_; rintro e w' ⟨rfl, k, rfl⟩))
    go_ret
    exact ⟨rfl, below_drewN (Below.refl _ _) _⟩
  · rw [decide_eq_false h] at c3
    go_enter Tryd.func5, Tryd.ntmps5
    go_wp2_with (first | (go_at_call 12; refine (c1 _).mono ?_; rintro e w' ⟨rfl, rfl⟩) | (go_at_call 13; refine (c2 _).mono ?_; rintro e w' ⟨rfl, rfl⟩) | (go_at_call 14; refine (c3 _).mono ?_; rintro e w' ⟨rfl, rfl⟩) | (go_at_call 9; refine c4.mono ?_; rintro e w' ⟨rfl, k, rfl⟩))
    go_ret
    exact ⟨rfl, below_drewN (Below.refl _ _) _⟩

theorem dueLaw_of (n b d : Nat) (cv : Nat) (E : Int) (q : Bool) (W : World) (hd : d < 18446744073709551616) (hE : E = 0 ∨ E = 13)
    (c1 : Calls Tryd.prog 6 #[.int .u64 n, .int .u64 b] W fun e W' => e = .returned (.tuple #[.int .u64 d, .int .i64 E]) ∧ ∃ k, W' = W.drewN k)
    (c2 : ∀ k, Calls Tryd.prog 7 #[.int .u64 b] (W.drewN k) fun e W' => e = .returned (.tuple #[.int .u64 cv, .int .i64 E]) ∧ (W.drewN k) = W')
    (c3 : ∀ k, Calls Tryd.prog 8 #[.int .u64 n, .int .u64 b] (W.drewN k) fun e W' => e = .returned (.tuple #[.int .u64 d, .bool q]) ∧ Below W.heap.size (W.drewN k) W')
    (c4 : ∀ W', Below W.heap.size W W' → Calls Tryd.prog 9 #[] W' fun e W2 => e = .returned (.bool true) ∧ ∃ k, W2 = W'.drewN k)
    (c5 : q = true → ∀ W, Calls Tryd.prog 10 #[.int .u64 b] W fun e W' => e = .returned (.int .u64 cv) ∧ W = W')
    (hq : (q = true ∧ E = 0) ∨ (q = false ∧ E = 13 ∧ d = 0 ∧ cv = 0)) :
    Calls Tryd.prog 3 #[.int .u64 n, .int .u64 b] W fun e W' => e = .returned (.bool true) ∧ Below W.heap.size W W' := by
  have t1 : ((d : Int) == (d : Int)) = true := by simp
  have t2 : ((cv : Int) == (cv : Int)) = true := by simp
  rcases hq with ⟨rfl, rfl⟩ | ⟨rfl, rfl, rfl, rfl⟩
  · replace c5 := c5 rfl
    go_enter Tryd.func3, Tryd.ntmps3
    go_wp2_with (first | (go_at_call 6; refine c1.mono ?_; rintro e w' ⟨rfl, k, rfl⟩) | (go_at_call 7; refine (c2 _).mono ?_; rintro e w' ⟨rfl, rfl⟩))
    refine (c3 _).mono ?_
    rintro e w3 ⟨rfl, hb3⟩
    have hb3' : Below W.heap.size W w3 := (below_drewN (Below.refl _ _) _).trans hb3
    go_wp2_with (first | (go_at_call 10; refine (c5 _).mono ?_; rintro e w' ⟨rfl, rfl⟩) | (go_at_call 9; refine (c4 _ hb3').mono ?_; rintro e w' ⟨rfl, k, rfl⟩))
    go_ret
    exact ⟨rfl, below_drewN hb3' _⟩
  · clear c5
    go_enter Tryd.func3, Tryd.ntmps3
    go_wp2_with (first | (go_at_call 6; refine c1.mono ?_; rintro e w' ⟨rfl, k, rfl⟩) | (go_at_call 7; refine (c2 _).mono ?_; rintro e w' ⟨rfl, rfl⟩))
    refine (c3 _).mono ?_
    rintro e w3 ⟨rfl, hb3⟩
    have hb3' : Below W.heap.size W w3 := (below_drewN (Below.refl _ _) _).trans hb3
    go_wp2_with (first | (go_at_call 10; refine (c5 _).mono ?_; rintro e w' ⟨rfl, rfl⟩) | (go_at_call 9; refine (c4 _ hb3').mono ?_; rintro e w' ⟨rfl, k, rfl⟩))
    go_ret
    exact ⟨rfl, below_drewN hb3' _⟩

def errP (b : Nat) : Int := if partsIs b then 0 else 13

theorem due_any (n b : Nat) (hn : n < 18446744073709551616) (hb : b < 18446744073709551616) (W : World) (hT : DK W) :
    Calls Tryd.prog 6 #[.int .u64 n, .int .u64 b] W fun e W' => e = .returned (.tuple #[.int .u64 (dueV n b : Nat), .int .i64 (errP b)]) ∧ ∃ k, W' = W.drewN k := by
  unfold errP
  cases hq : partsIs b
  · have hv : dueV n b = 0 := by
      unfold dueV
      rw [if_neg]
      intro h5
      unfold partsIs at hq
      rw [h5] at hq
      exact absurd hq (by decide)
    rw [hv]
    exact due_no n b hn hb hq W hT
  · exact due_yes n b hn hb hq W hT

theorem priceDue_law (n b : Int) (W : World) (hn0 : 0 ≤ n) (hn : n ≤ 18446744073709551615) (hb0 : 0 ≤ b) (hb : b ≤ 18446744073709551615) (hT : DK W) :
    Calls Tryd.prog 3 #[.int .u64 n, .int .u64 b] W fun e W' => e = .returned (.bool true) ∧ Below W.heap.size W W' := by
  obtain ⟨n, rfl⟩ := Int.eq_ofNat_of_zero_le hn0
  obtain ⟨b, rfl⟩ := Int.eq_ofNat_of_zero_le hb0
  have hn' : n < 18446744073709551616 := by omega
  have hb' : b < 18446744073709551616 := by omega
  have c4 : ∀ W', Below W.heap.size W W' → Calls Tryd.prog 9 #[] W' fun e W2 => e = .returned (.bool true) ∧ ∃ k, W2 = W'.drewN k := fun W' h => awake6_any W' (hT.below h)
  cases hq : partsIs b
  · refine dueLaw_of n b 0 0 13 false W (by decide) (.inr rfl) (due_no n b hn' hb' hq W hT) (fun k => check_no b hb' hq _ (hT.drewN k)) (fun k => ?_) c4 (fun h => by cases h) (.inr ⟨rfl, rfl, rfl, rfl⟩)
    exact (refDue_no n b hb' hq _).mono fun e W' ⟨h1, h2⟩ => ⟨h1, by rw [← h2]; exact Below.refl _ _⟩
  · exact dueLaw_of n b (dueV n b) (canonV b) 0 true W (by have := dueV_le n b; omega) (.inl rfl) (due_yes n b hn' hb' hq W hT) (fun k => check_yes b hb' hq _ (hT.drewN k))
      (fun k => refDue_yes n b hn' hb' hq _) c4 (fun _ W => refCanon_any b hb' W) (.inl ⟨rfl, rfl⟩)

end Go.Proofs.YtjegnbpkmhkeoaaDoor
