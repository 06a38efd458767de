/-
  The walk of the law OctetPuts.
-/
import Derived.Test.YtkdnagmjjmcbaaaOctA
namespace Go.Proofs.Ytkdnagmjjmcbaaa
open Go.RowKit
set_option linter.unusedVariables false
set_option linter.unusedSimpArgs false

set_option maxHeartbeats 1000000 in
theorem octetPuts_walk (A : Option Addr) (n c : Nat) (l : List UInt8) (w : Int) (x : Nat) (hx : x ≤ 18446744073709551615) (W : World) (hl : Byt W W.heap.size A n l) (hnil : A = none → c = 0) :
    Calls Try.prog 3 #[.slice A n c, .int .i64 w, .int .u64 x] W fun e W' => e = .returned (.bool true) ∧ Below W.heap.size W W' := by
  by_cases hbig : 500 < n
  · go_enter Try.func3, Try.ntmps3
    go_wp2_with (go_at_call 7; refine (awake_any _).mono ?_; rintro e w' ⟨rfl, hb⟩)
    go_ret
    exact ⟨rfl, hb⟩
  · obtain ⟨i0, hi, hz0, hz1, hz2⟩ := info_parts Try.info5
    have hs5 : n ≤ 500 := by omega
    by_cases hw : widthB w = true
    · have hw8 : 0 ≤ w ∧ w ≤ 8 := by have : w = 1 ∨ w = 2 ∨ w = 4 ∨ w = 8 := (by simpa [widthB] using hw); omega
      obtain ⟨hw0, hw8⟩ := hw8
      have HQ : Hid (bitsW w = 8 * w.toNat) := by
        have : w = 1 ∨ w = 2 ∨ w = 4 ∨ w = 8 := (by simpa [widthB] using hw)
        rcases this with rfl | rfl | rfl | rfl <;> rfl
      generalize hF : fitsB w x = F
      have HF := Lib.hid hF
      clear hF
      go_enter Try.func3, Try.ntmps3
      go_wp2_with (at_builtin; refine wpList_append_byt _ rfl (.tmp 12) (.tmp 13) 22 rfl W.heap.size 5 i0 (.int .u8 0) Try.underlying22 hi hz0 hz1 hz2 rfl _ 0 [] rfl (World.ownsRow_made W #[] 0 (Nat.le_refl _) (Nat.zero_le _) rfl) W.heap.size A n c l rfl (hl.alloc (Nat.le_refl _) _) hnil ?a1 ?a2 ?a3)
      case a1 => omega
      case a2 => simp
      intro v1 w1 hown1 hg1
      have hb1 : Below W.heap.size W w1 := ((Below.refl W.heap.size W).alloc (Nat.le_refl _) _).grown hg1 (by simp) (fun k h => by cases h; exact Nat.le_refl _)
      clear hg1
      go_wp2_with (first
        | (go_at_call 8; refine (width_any _ _).mono ?_; rintro e w' ⟨rfl, rfl⟩)
        | (go_at_call 9; refine (bytes_any _ _ hx (by omega) _).mono ?_; rintro e w2 ⟨v2, rfl, hown2, hb2⟩; obtain ⟨A2, c2, rfl, hnil2, _⟩ := own_form hown2; have hown12 := own_below hown1 hb2)
        | (at_builtin; refine wpList_append_byt _ rfl (.tmp 17) (.tmp 20) 22 rfl W.heap.size 5 i0 (.int .u8 0) Try.underlying22 hi hz0 hz1 hz2 rfl _ n _ rfl hown12 w2.heap.size A2 _ c2 _ rfl (Byt.of_own hown2) (fun h => (hnil2 h).2) ?d1 ?d2 ?d3))
      case d1 => omega
      case d2 => have := hb1.size; have := hb2.size; omega
      intro v3 w3 hown3 hg3
      rw [← List.map_append] at hown3
      have hb3 : Below W.heap.size W w3 := (hb1.trans (hb2.mono hb1.size)).grown hg3 (by have := hb1.size; have := hb2.size; omega) (fun k h => (hown1.lt k h).1)
      obtain ⟨A3, c3, rfl, hnil3, _⟩ := own_form hown3
      have hl3 : Byt w3 w3.heap.size A n l := (hl.below hb3).more hb3.size
      clear hg3 hown1 hown2 hb1 hb2 hown12 hnil2
      go_wp2_with (first
        | (go_at_call 11; refine (put_q _ _ _ _ _ _ hx _ hl3 hnil (by omega) _ (by omega) HQ).mono ?_; rintro e w4 ⟨v4, rfl, hown4, hb4⟩; obtain ⟨A4, c4, rfl, hnil4, _⟩ := own_form hown4; have h34 := (Byt.of_own hown3).below hb4)
        | (go_at_call 10; refine (same_true _ _ _ _ _ _ _ _ w4.heap.size _ (Byt.of_own hown4) (h34.more hb4.size) (by omega) rfl).mono ?_; rintro e w5 ⟨rfl, k5, rfl⟩)
        | (go_at_call 12; refine (fits_any _ _ hx _).mono ?_; rintro e w6 ⟨rfl, rfl⟩)
        | (go_at_call 13; refine (refFits_any _ _ hx _).mono ?_; rintro e w7 ⟨rfl, hb7⟩)
        | (go_at_call 7; refine (awake_any _).mono ?_; rintro e w8 ⟨rfl, hb8⟩))
      go_ret
      exact ⟨rfl, bthen (bthen (below_drewN (bthen hb3 hb4) k5) hb7) hb8⟩
    · have hwf : widthB w = false := by simpa using hw
      have HQ : Hid (bitsW w = 8 * 0) := by
        have h : ¬ (w = 1 ∨ w = 2 ∨ w = 4 ∨ w = 8) := by simpa [widthB] using hwf
        have : bitsW w = 0 := by unfold bitsW; repeat (split <;> try omega)
        exact Lib.hid this
      generalize hF : fitsB w x = F
      have HF := Lib.hid hF
      clear hF
      go_enter Try.func3, Try.ntmps3
      go_wp2_with (at_builtin; refine wpList_append_byt _ rfl (.tmp 12) (.tmp 13) 22 rfl W.heap.size 5 i0 (.int .u8 0) Try.underlying22 hi hz0 hz1 hz2 rfl _ 0 [] rfl (World.ownsRow_made W #[] 0 (Nat.le_refl _) (Nat.zero_le _) rfl) W.heap.size A n c l rfl (hl.alloc (Nat.le_refl _) _) hnil (by omega) (by simp) ?_)
      intro v1 w1 hown1 hg1
      have hb1 : Below W.heap.size W w1 := ((Below.refl W.heap.size W).alloc (Nat.le_refl _) _).grown hg1 (by simp) (fun k h => by cases h; exact Nat.le_refl _)
      clear hg1
      obtain ⟨A3, c3, rfl, hnil3, _⟩ := own_form hown1
      have hl3 : Byt w1 w1.heap.size A n l := (hl.below hb1).more hb1.size
      go_wp2_with (first
        | (go_at_call 8; refine (width_any _ _).mono ?_; rintro e w' ⟨rfl, rfl⟩)
        | (go_at_call 11; refine (put_q _ _ _ _ _ _ hx _ hl3 hnil (by omega) _ (by omega) HQ).mono ?_; rintro e w4 ⟨v4, rfl, hown4, hb4⟩; obtain ⟨A4, c4, rfl, hnil4, _⟩ := own_form hown4; have h34 := (Byt.of_own hown1).below hb4)
        | (go_at_call 10; refine (same_true _ _ _ _ _ _ _ _ w4.heap.size _ (Byt.of_own hown4) (h34.more hb4.size) (by omega) (by simp [le])).mono ?_; rintro e w5 ⟨rfl, k5, rfl⟩)
        | (go_at_call 12; refine (fits_any _ _ hx _).mono ?_; rintro e w6 ⟨rfl, rfl⟩)
        | (go_at_call 13; refine (refFits_any _ _ hx _).mono ?_; rintro e w7 ⟨rfl, hb7⟩)
        | (go_at_call 7; refine (awake_any _).mono ?_; rintro e w8 ⟨rfl, hb8⟩))
      go_ret
      exact ⟨rfl, bthen (bthen (below_drewN (bthen hb1 hb4) k5) hb7) hb8⟩

theorem octetPuts_law (A : Option Addr) (n c : Nat) (l : List UInt8) (w : Int) (x : Int) (W : World) (hl : Byt W W.heap.size A n l) (hnil : A = none → c = 0) (_ : n ≤ c) (_ : c ≤ maxLen)
    (_ : -9223372036854775808 ≤ w) (_ : w ≤ 9223372036854775807) (h0 : 0 ≤ x) (hx : x ≤ 18446744073709551615) :
    Calls Try.prog 3 #[.slice A n c, .int .i64 w, .int .u64 x] W fun e W' => e = .returned (.bool true) ∧ Below W.heap.size W W' := by
  obtain ⟨y, rfl⟩ := Int.eq_ofNat_of_zero_le h0
  exact octetPuts_walk A n c l w y (by omega) W hl hnil

end Go.Proofs.Ytkdnagmjjmcbaaa
