/-
  The walk of the law CrcSums.
-/
import Derived.Test.YtcgeelabdajbjaaCrcB
namespace Go.Proofs.Ytcgeelabdajbjaa
open Go.RowKit
set_option linter.unusedVariables false
set_option linter.unusedSimpArgs false

theorem more_app (l m : List UInt8) : moreC (crcSum l) m = crcSum (l ++ m) := by
  have h : crcReg 4294967295 l < 4294967296 := crcReg_lt l (by decide)
  unfold moreC crcSum
  rw [crcReg_app, show 4294967295 - (4294967295 - crcReg 4294967295 l) = crcReg 4294967295 l by omega]

set_option maxHeartbeats 2000000 in
theorem crcSums_law (A : Option Addr) (n c : Nat) (l : List UInt8) (A' : Option Addr) (n' c' : Nat) (l' : List UInt8) (W : World)
    (hl : Byt W W.heap.size A n l) (hnil : A = none → c = 0) (hnc : n ≤ c) (hcm : c ≤ maxLen)
    (hl' : Byt W W.heap.size A' n' l') (hnil' : A' = none → c' = 0) (hnc' : n' ≤ c') (hcm' : c' ≤ maxLen) :
    Calls Try.prog 3 #[.slice A n c, .slice A' n' c'] W fun e W' => e = .returned (.bool true) ∧ Below W.heap.size W W' := by
  unfold maxLen at hcm hcm'
  by_cases hbig : 1500 < n
  · go_enter Try.func3, Try.ntmps3
    go_wp2_with (go_at_call 6; refine (awake2_any _).mono ?_; rintro e w' ⟨rfl, hb⟩)
    go_ret
    exact ⟨rfl, hb⟩
  by_cases hbig' : 1500 < n'
  · go_enter Try.func3, Try.ntmps3
    go_wp2_with (go_at_call 6; refine (awake2_any _).mono ?_; rintro e w' ⟨rfl, hb⟩)
    go_ret
    exact ⟨rfl, hb⟩
  obtain ⟨i0, hi, hz0, hz1, hz2⟩ := info_parts Try.info5
  obtain ⟨p, hp⟩ : ∃ p, p = crcSum l := ⟨_, rfl⟩
  obtain ⟨r, hr⟩ : ∃ r, r = crcSum (l ++ l') := ⟨_, rfl⟩
  have hs : p ≤ 4294967295 := by rw [hp]; exact crcSum_le l
  have HM := Lib.hid (show moreC p l' = r by rw [hp, hr]; exact more_app l l')
  have HP := Lib.hid hp.symm
  have HR := Lib.hid hr.symm
  clear hp hr
  go_enter Try.func3, Try.ntmps3
  go_wp2_with (first
    | (go_at_call 7; refine (sum_any _ _ _ _ _ _ hl (by omega)).mono ?_; rintro e w' ⟨rfl, rfl⟩; rw [HP.out])
    | (go_at_call 8; refine (refSum_any _ _ _ _ _ _ hl (by omega)).mono ?_; rintro e w' ⟨rfl, rfl⟩; rw [HP.out])
    | (go_at_call 9; refine (more_any p (by omega) _ _ _ _ _ _ hl' (by omega)).mono ?_; rintro e w' ⟨rfl, rfl⟩; rw [HM.out])
    | (at_builtin; refine wpList_append_byt _ rfl (.tmp 24) (.tmp 25) 22 rfl W.heap.size 5 i0 (.int .u8 0) Try.underlying22 hi hz0 hz1 hz2 rfl _ 0 [] rfl (World.ownsRow_made W #[] 0 (Nat.le_refl _) (Nat.zero_le _) rfl) W.heap.size A n c l rfl (hl.alloc (Nat.le_refl _) _) hnil (by omega) (by simp) ?_))
  intro v1 w1 hown1 hg1
  have hb1 : Below W.heap.size W w1 := ((Below.refl W.heap.size W).alloc (Nat.le_refl _) _).grown hg1 (by simp) (fun k h => by cases h; exact Nat.le_refl _)
  clear hg1
  have hl1 := hl'.below hb1
  have hs1 := hb1.size
  go_wp2_with (at_builtin; refine wpList_append_byt _ rfl (.tmp 26) (.tmp 27) 22 rfl W.heap.size 5 i0 (.int .u8 0) Try.underlying22 hi hz0 hz1 hz2 rfl _ _ _ rfl hown1 _ A' n' c' l' rfl hl1 hnil' (by omega) hs1 ?_)
  intro v2 w2 hown2 hg2
  have hb2 : Below W.heap.size W w2 := hb1.grown hg2 hs1 (fun g hg => (hown1.lt g hg).1)
  clear hg2
  obtain ⟨A2, c2, rfl, hnil2, hnc2, hm2⟩ := own_form hown2
  have hl2 := Byt.of_own (l := l ++ l') (by simpa using hown2)
  go_wp2_with (first
    | (go_at_call 8; refine (refSum_any _ _ _ _ _ _ hl2 (by omega)).mono ?_; rintro e w' ⟨rfl, rfl⟩; rw [HR.out])
    | (go_at_call 6; refine (awake2_any _).mono ?_; rintro e w3 ⟨rfl, hb3⟩))
  go_ret
  exact ⟨rfl, bthen hb2 hb3⟩

end Go.Proofs.Ytcgeelabdajbjaa
