/-
  The walk of the law OctetBack.
-/
import Derived.Test.YtkdnagmjjmcbaaaOctB
namespace Go.Proofs.Ytkdnagmjjmcbaaa
open Go.RowKit
set_option linter.unusedVariables false
set_option linter.unusedSimpArgs false

theorem width_bits (w : Int) (hw : 0 < bitsW w) : widthB w = true := by
  unfold bitsW at hw; unfold widthB; simp
  split at hw <;> (try omega) <;> split at hw <;> (try omega) <;> split at hw <;> (try omega) <;> split at hw <;> omega
theorem fits_num (w : Int) (x j : Nat) (hj : bitsW w = 8 * j) (hf : fitsB w x = true) (b : List UInt8) : tk (le j x ++ b) 0 j = (le j x, b, 0) ∧ num (le j x) = x := by
  have hlen := le_len j x
  refine ⟨?_, ?_⟩
  · unfold tk
    rw [if_neg (by simp), if_neg (by simp [hlen])]
    simp [hlen]
  · rw [num_le]
    have h2 : x / 2 ^ bitsW w = 0 := by unfold fitsB at hf; simp at hf; simpa using hf.2
    rw [hj, show (2 : Nat) ^ (8 * j) = 256 ^ j by rw [Nat.pow_mul]] at h2
    have hp : 0 < 256 ^ j := Nat.pow_pos (by decide)
    exact Nat.mod_eq_of_lt ((Nat.div_eq_zero_iff_lt hp).1 h2)

set_option maxHeartbeats 2000000 in
theorem octetBack_walk (w : Int) (x : Nat) (A : Option Addr) (n c : Nat) (l : List UInt8) (W : World) (hx : x ≤ 18446744073709551615) (hl : Byt W W.heap.size A n l) (hnil : A = none → c = 0) :
    Calls Try.prog 6 #[.int .i64 w, .int .u64 x, .slice A n c] W fun e W' => e = .returned (.bool true) ∧ Below W.heap.size W W' := by
  by_cases hbig : 500 < n
  · go_enter Try.func6, Try.ntmps6
    go_wp2_with (go_at_call 7; refine (awake_any _).mono ?_; rintro e w' ⟨rfl, hb⟩)
    go_ret
    exact ⟨rfl, hb⟩
  · obtain ⟨i0, hi, hz0, hz1, hz2⟩ := info_parts Try.info5
    by_cases hf : fitsB w x = true
    · have hb64 := bitsW_le w
      have hbe := bitsW_eq w
      obtain ⟨hM1, hM2⟩ := fits_num w x (bitsW w / 8) hbe hf l
      have HQ := Lib.hid hbe
      have HM := Lib.hid hM1
      generalize hj : bitsW w / 8 = j at HQ HM hM2
      have hj8 : j ≤ 8 := by omega
      clear hbe hj hb64 hM1
      have HN := Lib.hid hM2
      clear hM2
      go_enter Try.func6, Try.ntmps6
      go_wp2_with (first
        | (go_at_call 15; refine (number_nil _ _).mono ?_; rintro r w1 ⟨rfl, rfl⟩)
        | (go_at_call 17; refine (cbytes_nil _ _).mono ?_; rintro r w1 ⟨rfl, rfl⟩)
        | (go_at_call 21; refine (text_nil _ _ _).mono ?_; rintro r w1 ⟨rfl, rfl⟩)
        | (go_at_call 19; refine (left_nil _).mono ?_; rintro r w1 ⟨rfl, rfl⟩)
        | (go_at_call 18; refine (err_nil _).mono ?_; rintro r w1 ⟨rfl, rfl⟩)
        | (go_at_call 20; refine (done_nil _).mono ?_; rintro r w1 ⟨rfl, rfl⟩)
        | (go_at_call 13; refine (refFits_any _ _ hx _).mono ?_; rintro e w1 ⟨rfl, hb1⟩)
        | (go_at_call 11; refine (put_q none 0 0 [] _ _ hx _ Byt.nil (fun _ => rfl) (by decide) _ hj8 HQ).mono ?_; rintro e w2 ⟨v2, rfl, hown2, hb2⟩; have hb12 := bthen hb1 hb2; have hl2 := hl.below hb12)
        | (at_builtin; refine wpList_append_byt _ rfl (.tmp 50) (.tmp 51) 22 rfl w1.heap.size 5 i0 (.int .u8 0) Try.underlying22 hi hz0 hz1 hz2 rfl _ (0 + j) _ rfl hown2 W.heap.size A n c l rfl hl2 hnil (by omega) (by have := hb2.size; omega) ?_))
      intro v3 w3 hown3 hg3
      rw [← List.map_append] at hown3
      have hb3 : Below W.heap.size W w3 := hb12.grown hg3 hb12.size (fun k h => Nat.le_trans hb1.size (hown2.lt k h).1)
      obtain ⟨A3, c3, rfl, hnil3, hnc3, hm3⟩ := own_form hown3
      have hl3 := Byt.of_own hown3
      clear hg3 hown2 hown3 hb1 hb2 hb12 hl2
      go_wp2_with (first
        | (go_at_call 14; refine (newCursor_any _ _ _ _ _ _ hl3 (Nat.le_refl _) (fun h => (hnil3 h).2) (by omega)).mono ?_; rintro r w4 ⟨g, rfl, hg, hC4, hb4⟩)
        | (go_at_call 15; refine (number_q g _ 0 w j hj8 HQ _ hC4).mono ?_; rintro r w5 ⟨rfl, hC5, ho5, hz5⟩; rw [HM.out] at hC5 ⊢; rw [HN.out])
        | (go_at_call 19; refine (left_any g _ _ _ hC5).mono ?_; rintro r w6 ⟨rfl, rfl⟩; rw [hl.1])
        | (go_at_call 18; refine (err_any g _ _ _ hC5).mono ?_; rintro r w6 ⟨rfl, rfl⟩)
        | (go_at_call 7; refine (awake_any _).mono ?_; rintro e w8 ⟨rfl, hb8⟩))
      go_ret
      have hb5 := ho5.below (bthen hb3 hb4) (Nat.le_trans hb3.size hb4.size) (Nat.le_trans hb3.size hg)
      exact ⟨rfl, bthen hb5 hb8⟩
    · have hf' : fitsB w x = false := by simpa using hf
      go_enter Try.func6, Try.ntmps6
      go_wp2_with (first
        | (go_at_call 15; refine (number_nil _ _).mono ?_; rintro r w1 ⟨rfl, rfl⟩)
        | (go_at_call 17; refine (cbytes_nil _ _).mono ?_; rintro r w1 ⟨rfl, rfl⟩)
        | (go_at_call 21; refine (text_nil _ _ _).mono ?_; rintro r w1 ⟨rfl, rfl⟩)
        | (go_at_call 19; refine (left_nil _).mono ?_; rintro r w1 ⟨rfl, rfl⟩)
        | (go_at_call 18; refine (err_nil _).mono ?_; rintro r w1 ⟨rfl, rfl⟩)
        | (go_at_call 20; refine (done_nil _).mono ?_; rintro r w1 ⟨rfl, rfl⟩)
        | (go_at_call 13; refine (refFits_any _ _ hx _).mono ?_; rintro e w1 ⟨rfl, hb1⟩)
        | (go_at_call 7; refine (awake_any _).mono ?_; rintro e w8 ⟨rfl, hb8⟩))
      go_ret
      exact ⟨rfl, bthen hb1 hb8⟩

theorem octetBack_law (w x : Int) (A : Option Addr) (n c : Nat) (l : List UInt8) (W : World) (_ : -9223372036854775808 ≤ w) (_ : w ≤ 9223372036854775807) (h0 : 0 ≤ x) (hx : x ≤ 18446744073709551615) (hl : Byt W W.heap.size A n l) (hnil : A = none → c = 0) (_ : n ≤ c) (_ : c ≤ maxLen) :
    Calls Try.prog 6 #[.int .i64 w, .int .u64 x, .slice A n c] W fun e W' => e = .returned (.bool true) ∧ Below W.heap.size W W' := by
  obtain ⟨y, rfl⟩ := Int.eq_ofNat_of_zero_le h0
  exact octetBack_walk w y A n c l W (by omega) hl hnil

end Go.Proofs.Ytkdnagmjjmcbaaa
