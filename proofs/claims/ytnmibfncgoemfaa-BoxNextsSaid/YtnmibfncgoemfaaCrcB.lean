/-
  Walks over package crc and its reference: Seal, Open; the reference's Seal; awake.
-/
import Derived.Test.YtnmibfncgoemfaaCrcA
namespace Go.Proofs.Ytnmibfncgoemfaa
open Go.RowKit
set_option linter.unusedVariables false
set_option linter.unusedSimpArgs false

/-- Bytes, sealed. -/
def sealC (l : List UInt8) : List UInt8 := l ++ le 4 (crcSum l)

set_option maxHeartbeats 1000000 in
theorem seal_any (A : Option Addr) (n c : Nat) (l : List UInt8) (W : World) (hl : Byt W W.heap.size A n l) (hnil : A = none → c = 0) (hn : n ≤ 140737488351232) :
    Calls Try.prog 20 #[.slice A n c] W fun e W' => ∃ v, e = .returned v ∧ W'.ownsRow W.heap.size 5 1 v (n + 4) ((sealC l).map bv) ∧ Below W.heap.size W W' := by
  have HQ : Hid (bitsW 4 = 8 * 4) := Lib.hid rfl
  have hs := crcSum_le l
  have HS := Lib.hid (show sealC l = l ++ le 4 (crcSum l) from rfl)
  generalize hq : crcSum l = q at hs HS
  have HQ2 := Lib.hid hq
  clear hq
  go_enter Try.func20, Try.ntmps20
  go_wp2_with (first
    | (go_at_call 28; refine (sum_any _ _ _ _ _ _ hl (by omega)).mono ?_; rintro e w' ⟨rfl, rfl⟩; rw [HQ2.out])
    | (go_at_call 18; refine (put_q _ _ _ _ 4 q (by omega) _ hl hnil hn 4 (by decide) HQ).mono ?_; rintro e w' ⟨v, rfl, hown, hb⟩))
  go_ret
  exact ⟨v, rfl, by rw [HS.out]; exact hown, hb⟩

set_option maxHeartbeats 1000000 in
theorem refSeal_any (B : Nat) (A : Option Addr) (n c : Nat) (l : List UInt8) (W : World) (hl : Byt W B A n l) (hB : B ≤ W.heap.size) (hnil : A = none → c = 0) (hn : n ≤ 140737488351232) :
    Calls Try.prog 21 #[.slice A n c] W fun e W' => ∃ v, e = .returned v ∧ W'.ownsRow W.heap.size 5 1 v (n + 4) ((sealC l).map bv) ∧ Below W.heap.size W W' := by
  obtain ⟨i0, hi, hz0, hz1, hz2⟩ := info_parts Try.info5
  have hs := crcSum_le l
  have HS := Lib.hid (show sealC l = l ++ le 4 (crcSum l) from rfl)
  generalize hq : crcSum l = q at hs HS
  have HQ2 := Lib.hid hq
  clear hq
  go_enter Try.func21, Try.ntmps21
  go_wp2_with (at_builtin; refine wpList_append_byt _ rfl (.tmp 3) (.tmp 4) 22 rfl W.heap.size 5 i0 (.int .u8 0) Try.underlying22 hi hz0 hz1 hz2 rfl _ 0 [] rfl (World.ownsRow_made W #[] 0 (Nat.le_refl _) (Nat.zero_le _) rfl) B A n c l rfl (hl.alloc hB _) hnil (by omega) (by simp) ?_)
  intro v1 w1 hown1 hg1
  have hb1 : Below W.heap.size W w1 := ((Below.refl W.heap.size W).alloc (Nat.le_refl _) _).grown hg1 (by simp) (fun k h => by cases h; exact Nat.le_refl _)
  clear hg1
  have hl1 := (hl.more hB).below hb1
  go_wp2_with (first
    | (go_at_call 29; refine (refSum_any _ _ _ _ _ _ hl1 (by omega)).mono ?_; rintro e w' ⟨rfl, rfl⟩; rw [HQ2.out])
    | (go_at_call 22; refine (bytes_any 4 q (by omega) (by decide) _).mono ?_; rintro e w2 ⟨v2, rfl, hown2, hb2⟩; obtain ⟨A2, c2, rfl, hnil2, hnc2, hm2⟩ := own_form hown2; have hown3 := own_below hown1 hb2; have hl2 := Byt.of_own hown2; have hs2 := (bthen hb1 hb2).size)
    | (at_builtin; refine wpList_append_byt _ rfl (.tmp 5) (.tmp 9) 22 rfl W.heap.size 5 i0 (.int .u8 0) Try.underlying22 hi hz0 hz1 hz2 rfl _ _ _ rfl hown3 _ A2 _ c2 _ rfl hl2 (fun h => (hnil2 h).2) (by omega) hs2 ?_))
  intro v3 w3 hown4 hg3
  have hb3 : Below W.heap.size W w3 := (bthen hb1 hb2).grown hg3 hs2 (fun g hg => (hown3.lt g hg).1)
  clear hg3
  go_wp2
  go_ret
  refine ⟨v3, rfl, ?_, hb3⟩
  rw [HS.out]
  simpa using hown4

/-- Is it a seal? -/
def isSeal (l : List UInt8) : Bool := decide (4 ≤ l.length) && decide (num (l.drop (l.length - 4)) = crcSum (l.take (l.length - 4)))
/-- What it opens to. -/
def openB (l : List UInt8) : List UInt8 := if isSeal l then l.take (l.length - 4) else []

set_option maxHeartbeats 1000000 in
theorem open_any (B : Nat) (A : Option Addr) (n c : Nat) (l : List UInt8) (W : World) (hl : Byt W B A n l) (hB : B ≤ W.heap.size) (hnil : A = none → c = 0) (hnc : n ≤ c) (hcm : c ≤ maxLen) (hn : n ≤ 140737488351232) :
    Calls Try.prog 24 #[.slice A n c] W fun e W' => ∃ v, e = .returned (.tuple #[v, .bool (isSeal l)]) ∧ W'.ownsRow W.heap.size 5 1 v (openB l).length ((openB l).map bv) ∧ Below W.heap.size W W' := by
  unfold maxLen at hcm
  have hln := hl.1
  by_cases h4 : n < 4
  · have HI := Lib.hid (show isSeal l = false by unfold isSeal; rw [hln]; simp; omega)
    have HO := Lib.hid (show openB l = [] by unfold openB; rw [HI.out]; rfl)
    clear hln
    go_enter Try.func24, Try.ntmps24
    go_wp2
    go_ret2
    rw [HI.out, HO.out]
    exact ⟨_, rfl, World.ownsRow_nil _ _ _ _, Below.refl _ _⟩
  · obtain ⟨m, rfl⟩ : ∃ m, n = m + 4 := ⟨n - 4, by omega⟩
    have hcut := hl.cut (k := m) (by omega) hnc
    rw [if_neg (by omega), show m + 4 - m = 4 by omega] at hcut
    have htk := hl.take (k := m) (by omega)
    have HQ : Hid (bitsW 4 = 8 * 4) := Lib.hid rfl
    have hm4 : ((m + 4 : Nat) : Int) - 4 = (m : Int) := by omega
    have HI := Lib.hid (show isSeal l = decide (num (l.drop m) = crcSum (l.take m)) by unfold isSeal; rw [hln]; simp)
    have HO := Lib.hid (show openB l = if isSeal l then l.take m else [] by unfold openB; rw [hln]; simp)
    have HT := Lib.hid (show tk (l.drop m) 0 (4 : Nat) = ((l.drop m), [], 0) by
      unfold tk
      rw [if_neg (by simp), if_neg (by simp [hln])]
      rw [show ((4 : Nat) : Int).toNat = 4 from rfl, List.take_of_length_le (by rw [List.length_drop, hln]; omega), List.drop_of_length_le (l := List.drop m l) (by rw [List.length_drop, hln]; omega)])
    clear hln
    have hnum := num_max (l.drop m) (by rw [hcut.1]; omega)
    have hsum := crcSum_le (l.take m)
    have hOl : (openB l).length = (if isSeal l then m else 0) := by
      rw [HO.out]
      split
      · exact htk.1
      · rfl
    have HOl := Lib.hid hOl
    clear hOl
    by_cases he : num (l.drop m) = crcSum (l.take m)
    · rw [decide_eq_true he] at HI
      rw [HI.out] at HO HOl
      rw [he] at hnum
      have HE := Lib.hid he
      clear he
      generalize hq : crcSum (l.take m) = q at *
      have HQ2 := Lib.hid hq
      clear hq
      go_enter Try.func24, Try.ntmps24
      go_wp2_with (first
        | (go_at_call 30; go_loud (refine (newCursor_any _ _ _ _ _ _ hcut hB (fun h => by have := hnil (by simpa using h); omega) (by omega)).mono ?_; rintro r w1 ⟨g, rfl, hg, hC, hb1⟩; have htk1 := htk.below (hb1.mono hB)))
        | (go_at_call 31; go_loud (refine (number_q g _ 0 4 4 (by decide) HQ _ hC).mono ?_; rintro r w2 ⟨rfl, hC2, ho2, hz2⟩; rw [HT.out, HE.out]; have hb2 := ho2.below hb1 hb1.size hg; have htk2 := htk.below (hb2.mono hB)))
        | (go_at_call 28; go_loud (refine (sum_any _ _ _ _ _ _ htk2 (by omega)).mono ?_; rintro e w' ⟨rfl, rfl⟩; rw [HQ2.out]))
        | (go_at_call 34; go_loud (refine (clone_any B _ _ _ _ _ htk2 (Nat.le_trans hB hb2.size) hnil (by omega)).mono ?_; rintro r w3 ⟨v, rfl, hown, hb3⟩)))
      go_ret2
      refine ⟨v, by rw [HI.out]; rfl, ?_, bthen hb2 hb3⟩
      rw [HOl.out, HO.out]
      exact own_mono hown hb2.size
    · rw [decide_eq_false he] at HI
      rw [HI.out] at HO HOl
      have hpq : ((num (l.drop m) : Nat) : Int) ≠ ((crcSum (l.take m) : Nat) : Int) := by omega
      clear he
      generalize hq : crcSum (l.take m) = q at *
      have HQ2 := Lib.hid hq
      clear hq
      generalize hp : num (l.drop m) = p at *
      have HE := Lib.hid hp
      clear hp
      have hne : ((p : Int) != (q : Int)) = true := by rw [bne_iff_ne]; exact hpq
      clear hpq
      go_enter Try.func24, Try.ntmps24
      go_wp2_with (first
        | (go_at_call 30; go_loud (refine (newCursor_any _ _ _ _ _ _ hcut hB (fun h => by have := hnil (by simpa using h); omega) (by omega)).mono ?_; rintro r w1 ⟨g, rfl, hg, hC, hb1⟩; have htk1 := htk.below (hb1.mono hB)))
        | (go_at_call 31; go_loud (refine (number_q g _ 0 4 4 (by decide) HQ _ hC).mono ?_; rintro r w2 ⟨rfl, hC2, ho2, hz2⟩; rw [HT.out, HE.out]; have hb2 := ho2.below hb1 hb1.size hg; have htk2 := htk.below (hb2.mono hB)))
        | (go_at_call 28; go_loud (refine (sum_any _ _ _ _ _ _ htk2 (by omega)).mono ?_; rintro e w' ⟨rfl, rfl⟩; rw [HQ2.out])))
      go_ret2
      refine ⟨_, by rw [HI.out]; rfl, ?_, hb2⟩
      rw [HOl.out, HO.out]
      exact World.ownsRow_nil _ _ _ _

def d9 : List UInt8 := [49, 50, 51, 52, 53, 54, 55, 56, 57]
theorem d9_sum : crcSum d9 = 3808858755 := by decide +kernel

end Go.Proofs.Ytnmibfncgoemfaa
