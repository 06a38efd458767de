/-
  The walk of the law OctetTexts.
-/
import Derived.Test.YtkdnagmjjmcbaaaOctBackWalk
namespace Go.Proofs.Ytkdnagmjjmcbaaa
open Go.RowKit
set_option linter.unusedVariables false
set_option linter.unusedSimpArgs false

theorem tx_short (l : List UInt8) (j : Nat) (most : Int) (h : l.length < j) : tx l 0 j most = ([], l, 1) := by
  have ht : tk l 0 (j : Int) = ([], l, 1) := by unfold tk; rw [if_neg (by simp), if_pos (by simpa using h)]
  unfold tx
  rw [ht]
  simp
theorem tk_ok (l : List UInt8) (j : Nat) (h : j ≤ l.length) : tk l 0 (j : Int) = (l.take j, l.drop j, 0) := by
  unfold tk; rw [if_neg (by simp), if_neg (by simp; omega)]; simp
theorem tx_form (l : List UInt8) (j : Nat) (most : Int) (h : j ≤ l.length) (hm : most < 0 ∨ most < ((num (l.take j) : Nat) : Int)) : tx l 0 j most = ([], l.drop j, 2) := by
  unfold tx
  rw [tk_ok l j h]
  simp only
  rw [if_neg (by simp), if_pos hm]
theorem tx_short2 (l : List UInt8) (j : Nat) (most : Int) (h : j ≤ l.length) (h0 : 0 ≤ most) (hm : ((num (l.take j) : Nat) : Int) ≤ most) (hs : l.length - j < num (l.take j)) : tx l 0 j most = ([], l.drop j, 1) := by
  unfold tx
  rw [tk_ok l j h]
  simp only
  rw [if_neg (by simp), if_neg (by omega)]
  unfold tk
  rw [if_neg (by simp), if_pos (by simpa using hs)]
theorem tx_ok (l : List UInt8) (j : Nat) (most : Int) (h : j ≤ l.length) (h0 : 0 ≤ most) (hm : ((num (l.take j) : Nat) : Int) ≤ most) (hs : num (l.take j) ≤ l.length - j) : tx l 0 j most = ((l.drop j).take (num (l.take j)), (l.drop j).drop (num (l.take j)), 0) := by
  unfold tx
  rw [tk_ok l j h]
  simp only
  rw [if_neg (by simp), if_neg (by omega)]
  exact tk_ok _ _ (by simpa using hs)

set_option maxHeartbeats 2000000 in
theorem octetTexts_walk (A : Option Addr) (n c : Nat) (l : List UInt8) (w most : Int) (W : World) (hl : Byt W W.heap.size A n l) (hnil : A = none → c = 0) (hnc : n ≤ c) (hcm : c ≤ maxLen) (hmost : most ≤ 9223372036854775807) :
    Calls Try.prog 5 #[.slice A n c, .int .i64 w, .int .i64 most] W fun e W' => e = .returned (.bool true) ∧ Below W.heap.size W W' := by
  unfold maxLen at hcm
  by_cases hbig : 500 < n
  · go_enter Try.func5, Try.ntmps5
    go_wp2_with (go_at_call 7; refine (awake_any _).mono ?_; rintro e w' ⟨rfl, hb⟩)
    go_ret
    exact ⟨rfl, hb⟩
  by_cases hw : widthB w = true
  · have hws : w = 1 ∨ w = 2 ∨ w = 4 ∨ w = 8 := by simpa [widthB] using hw
    obtain ⟨j, rfl⟩ : ∃ j : Nat, w = j := ⟨w.toNat, by omega⟩
    have hj8 : j ≤ 8 := by omega
    have hj1 : 1 ≤ j := by omega
    have HQ : Hid (bitsW (j : Int) = 8 * j) := by
      have : j = 1 ∨ j = 2 ∨ j = 4 ∨ j = 8 := by omega
      rcases this with rfl | rfl | rfl | rfl <;> rfl
    clear hws
    have HL := Lib.hid hl.1
    by_cases hsh : n < j
    · have HX := Lib.hid (tx_short l j most (by rw [hl.1]; exact hsh))
      go_enter Try.func5, Try.ntmps5
      go_wp2_with (first
        | (go_at_call 8; refine (width_any _ _).mono ?_; rintro e w' ⟨rfl, rfl⟩)
        | (go_at_call 14; refine (newCursor_any _ _ _ _ _ _ hl (Nat.le_refl _) hnil (by omega)).mono ?_; rintro r w4 ⟨g, rfl, hg, hC4, hb4⟩)
        | (go_at_call 21; refine (text_q g _ 0 _ most hmost j hj8 HQ _ hC4).mono ?_; rintro r w5 ⟨rfl, hC5, ho5, hz5⟩; rw [HX.out] at hC5 ⊢)
        | (go_at_call 18; refine (err_any g _ _ _ hC5).mono ?_; rintro r w6 ⟨rfl, rfl⟩)
        | (go_at_call 7; refine (awake_any _).mono ?_; rintro e w8 ⟨rfl, hb8⟩))
      go_ret
      exact ⟨rfl, bthen (ho5.below hb4 hb4.size hg) hb8⟩
    have hnj : j ≤ n := by omega
    have hl2 := hl.take hnj
    have HM := Lib.hid (num_max (l.take j) (by rw [hl2.1]; exact hj8))
    by_cases hform : most < 0 ∨ most < ((num (l.take j) : Nat) : Int)
    · have HX := Lib.hid (tx_form l j most (by rw [hl.1]; exact hnj) hform)
      by_cases hm0 : most < 0
      · generalize hN : num (l.take j) = N at *
        have HN := Lib.hid hN
        clear hN hform
        go_enter Try.func5, Try.ntmps5
        go_wp2_with (first
          | (go_at_call 8; refine (width_any _ _).mono ?_; rintro e w' ⟨rfl, rfl⟩)
          | (go_at_call 14; refine (newCursor_any _ _ _ _ _ _ hl (Nat.le_refl _) hnil (by omega)).mono ?_; rintro r w4 ⟨g, rfl, hg, hC4, hb4⟩)
          | (go_at_call 21; refine (text_q g _ 0 _ most hmost j hj8 HQ _ hC4).mono ?_; rintro r w5 ⟨rfl, hC5, ho5, hz5⟩; rw [HX.out] at hC5 ⊢; have hb5 := ho5.below hb4 hb4.size hg; have hl5 := hl2.below hb5)
          | (go_at_call 16; refine (refNumber_any _ _ _ _ _ _ hl5 hj8).mono ?_; rintro e w' ⟨rfl, rfl⟩; rw [HN.out])
          | (go_at_call 18; refine (err_any g _ _ _ hC5).mono ?_; rintro r w6 ⟨rfl, rfl⟩)
          | (go_at_call 7; refine (awake_any _).mono ?_; rintro e w8 ⟨rfl, hb8⟩))
        go_ret
        exact ⟨rfl, bthen hb5 hb8⟩
      · have hm1 : most < ((num (l.take j) : Nat) : Int) := by omega
        generalize hN : num (l.take j) = N at *
        have HN := Lib.hid hN
        clear hN hform
        have hNm := HM.out
        go_enter Try.func5, Try.ntmps5
        go_wp2_with (first
          | (go_at_call 8; refine (width_any _ _).mono ?_; rintro e w' ⟨rfl, rfl⟩)
          | (go_at_call 14; refine (newCursor_any _ _ _ _ _ _ hl (Nat.le_refl _) hnil (by omega)).mono ?_; rintro r w4 ⟨g, rfl, hg, hC4, hb4⟩)
          | (go_at_call 21; refine (text_q g _ 0 _ most hmost j hj8 HQ _ hC4).mono ?_; rintro r w5 ⟨rfl, hC5, ho5, hz5⟩; rw [HX.out] at hC5 ⊢; have hb5 := ho5.below hb4 hb4.size hg; have hl5 := hl2.below hb5)
          | (go_at_call 16; refine (refNumber_any _ _ _ _ _ _ hl5 hj8).mono ?_; rintro e w' ⟨rfl, rfl⟩; rw [HN.out])
          | (go_at_call 18; refine (err_any g _ _ _ hC5).mono ?_; rintro r w6 ⟨rfl, rfl⟩)
          | (go_at_call 7; refine (awake_any _).mono ?_; rintro e w8 ⟨rfl, hb8⟩))
        go_ret
        exact ⟨rfl, bthen hb5 hb8⟩
    · have hm0 : 0 ≤ most := by omega
      have hm1 : ((num (l.take j) : Nat) : Int) ≤ most := by omega
      by_cases hs : l.length - j < num (l.take j)
      · have HX := Lib.hid (tx_short2 l j most (by rw [hl.1]; exact hnj) hm0 hm1 hs)
        rw [hl.1] at hs
        generalize hN : num (l.take j) = N at *
        have HN := Lib.hid hN
        clear hN hform
        go_enter Try.func5, Try.ntmps5
        go_wp2_with (first
          | (go_at_call 8; refine (width_any _ _).mono ?_; rintro e w' ⟨rfl, rfl⟩)
          | (go_at_call 14; refine (newCursor_any _ _ _ _ _ _ hl (Nat.le_refl _) hnil (by omega)).mono ?_; rintro r w4 ⟨g, rfl, hg, hC4, hb4⟩)
          | (go_at_call 21; refine (text_q g _ 0 _ most hmost j hj8 HQ _ hC4).mono ?_; rintro r w5 ⟨rfl, hC5, ho5, hz5⟩; rw [HX.out] at hC5 ⊢; have hb5 := ho5.below hb4 hb4.size hg; have hl5 := hl2.below hb5)
          | (go_at_call 16; refine (refNumber_any _ _ _ _ _ _ hl5 hj8).mono ?_; rintro e w' ⟨rfl, rfl⟩; rw [HN.out])
          | (go_at_call 18; refine (err_any g _ _ _ hC5).mono ?_; rintro r w6 ⟨rfl, rfl⟩)
          | (go_at_call 7; refine (awake_any _).mono ?_; rintro e w8 ⟨rfl, hb8⟩))
        go_ret
        exact ⟨rfl, bthen hb5 hb8⟩
      · have HX := Lib.hid (tx_ok l j most (by rw [hl.1]; exact hnj) hm0 hm1 (by omega))
        rw [hl.1] at hs
        generalize hN : num (l.take j) = N at *
        have HN := Lib.hid hN
        clear hN hform
        have HLL := Lib.hid (show ((l.drop j).drop N).length = n - j - N by rw [List.length_drop, List.length_drop, hl.1])
        by_cases hcj : c = j
        · replace hcj := hcj.symm
          subst hcj
          have hcut := hl.cut (k := j) hnj hnc
          rw [if_pos rfl] at hcut
          have hcut2 := hcut.take (k := N) (by omega)
          clear hcut
          go_enter Try.func5, Try.ntmps5
          go_wp2_with (first
            | (go_at_call 19; refine (left_any g _ _ _ hC5).mono ?_; rintro r w6 ⟨rfl, rfl⟩; rw [HLL.out])
            | (go_at_call 8; refine (width_any _ _).mono ?_; rintro e w' ⟨rfl, rfl⟩)
            | (go_at_call 14; refine (newCursor_any _ _ _ _ _ _ hl (Nat.le_refl _) hnil (by omega)).mono ?_; rintro r w4 ⟨g, rfl, hg, hC4, hb4⟩)
            | (go_at_call 21; refine (text_q g _ 0 _ most hmost j hj8 HQ _ hC4).mono ?_; rintro r w5 ⟨rfl, hC5, ho5, hz5⟩; rw [HX.out] at hC5 ⊢; have hb5 := ho5.below hb4 hb4.size hg; have hl5 := hl2.below hb5; have hcv := fun cc => run_string_byt (P := Try.prog) 22 9 5 (c := cc) Try.underlying22 Try.underlying5 Try.underlying9 (hcut2.below hb5))
            | (go_at_call 16; refine (refNumber_any _ _ _ _ _ _ hl5 hj8).mono ?_; rintro e w' ⟨rfl, rfl⟩; rw [HN.out])
            | (go_at_call 18; refine (err_any g _ _ _ hC5).mono ?_; rintro r w6 ⟨rfl, rfl⟩)
            | (go_at_call 7; refine (awake_any _).mono ?_; rintro e w8 ⟨rfl, hb8⟩))
          go_ret
          exact ⟨rfl, bthen hb5 hb8⟩
        · have hcut := hl.cut (k := j) hnj hnc
          rw [if_neg hcj] at hcut
          have hcut2 := hcut.take (k := N) (by omega)
          clear hcut
          go_enter Try.func5, Try.ntmps5
          go_wp2_with (first
            | (go_at_call 19; refine (left_any g _ _ _ hC5).mono ?_; rintro r w6 ⟨rfl, rfl⟩; rw [HLL.out])
            | (go_at_call 8; refine (width_any _ _).mono ?_; rintro e w' ⟨rfl, rfl⟩)
            | (go_at_call 14; refine (newCursor_any _ _ _ _ _ _ hl (Nat.le_refl _) hnil (by omega)).mono ?_; rintro r w4 ⟨g, rfl, hg, hC4, hb4⟩)
            | (go_at_call 21; refine (text_q g _ 0 _ most hmost j hj8 HQ _ hC4).mono ?_; rintro r w5 ⟨rfl, hC5, ho5, hz5⟩; rw [HX.out] at hC5 ⊢; have hb5 := ho5.below hb4 hb4.size hg; have hl5 := hl2.below hb5; have hcv := fun cc => run_string_byt (P := Try.prog) 22 9 5 (c := cc) Try.underlying22 Try.underlying5 Try.underlying9 (hcut2.below hb5))
            | (go_at_call 16; refine (refNumber_any _ _ _ _ _ _ hl5 hj8).mono ?_; rintro e w' ⟨rfl, rfl⟩; rw [HN.out])
            | (go_at_call 18; refine (err_any g _ _ _ hC5).mono ?_; rintro r w6 ⟨rfl, rfl⟩)
            | (go_at_call 7; refine (awake_any _).mono ?_; rintro e w8 ⟨rfl, hb8⟩))
          go_ret
          exact ⟨rfl, bthen hb5 hb8⟩
  · have hwf : widthB w = false := by simpa using hw
    go_enter Try.func5, Try.ntmps5
    go_wp2_with (first
      | (go_at_call 8; refine (width_any _ _).mono ?_; rintro e w' ⟨rfl, rfl⟩)
      | (go_at_call 7; refine (awake_any _).mono ?_; rintro e w8 ⟨rfl, hb8⟩))
    go_ret
    exact ⟨rfl, hb8⟩

theorem octetTexts_law (A : Option Addr) (n c : Nat) (l : List UInt8) (w most : Int) (W : World) (hl : Byt W W.heap.size A n l) (hnil : A = none → c = 0) (hnc : n ≤ c) (hcm : c ≤ maxLen)
    (_ : -9223372036854775808 ≤ w) (_ : w ≤ 9223372036854775807) (_ : -9223372036854775808 ≤ most) (hmost : most ≤ 9223372036854775807) :
    Calls Try.prog 5 #[.slice A n c, .int .i64 w, .int .i64 most] W fun e W' => e = .returned (.bool true) ∧ Below W.heap.size W W' :=
  octetTexts_walk A n c l w most W hl hnil hnc hcm hmost

end Go.Proofs.Ytkdnagmjjmcbaaa
