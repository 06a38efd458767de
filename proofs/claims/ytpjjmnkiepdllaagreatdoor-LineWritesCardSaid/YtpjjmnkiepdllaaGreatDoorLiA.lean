/-
  Package line: signs, patterns, the field of a name.
-/
import Derived.Test.YtpjjmnkiepdllaaGreatDoorLiM
import Derived.Test.YtpjjmnkiepdllaaGreatDoorNaR
namespace Go.Proofs.YtpjjmnkiepdllaaGreatDoor
open Go.RowKit
set_option linter.unusedVariables false
set_option linter.unusedSimpArgs false

set_option maxRecDepth 100000 in
theorem isSign_any (r : Int) (W : World) :
    Calls Tryz.prog 22 #[.int .i32 r] W fun e W' => e = .returned (.bool (sgR r)) ∧ W' = W := by
  go_enter Tryz.func22, Tryz.ntmps22
  by_cases h1 : r = 116
  · have d1 : (r == 116) = true := by simpa using h1
    have HF : Hid (sgR r = true) := Lib.hid (by simp [sgR, h1])
    clear h1
    go_wp2
    go_ret
    exact ⟨by rw [HF.out]; rfl, rfl⟩
  have d1 : (r == 116) = false := by simpa using h1
  by_cases h2 : r = 104
  · have d2 : (r == 104) = true := by simpa using h2
    have HF : Hid (sgR r = true) := Lib.hid (by simp [sgR, h2])
    clear h1 h2
    go_wp2
    go_ret
    exact ⟨by rw [HF.out]; rfl, rfl⟩
  have d2 : (r == 104) = false := by simpa using h2
  by_cases h3 : r = 110
  · have d3 : (r == 110) = true := by simpa using h3
    have HF : Hid (sgR r = true) := Lib.hid (by simp [sgR, h3])
    clear h1 h2 h3
    go_wp2
    go_ret
    exact ⟨by rw [HF.out]; rfl, rfl⟩
  have d3 : (r == 110) = false := by simpa using h3
  by_cases h4 : r = 98
  · have d4 : (r == 98) = true := by simpa using h4
    have HF : Hid (sgR r = true) := Lib.hid (by simp [sgR, h4])
    clear h1 h2 h3 h4
    go_wp2
    go_ret
    exact ⟨by rw [HF.out]; rfl, rfl⟩
  have d4 : (r == 98) = false := by simpa using h4
  by_cases h5 : r = 115
  · have d5 : (r == 115) = true := by simpa using h5
    have HF : Hid (sgR r = true) := Lib.hid (by simp [sgR, h5])
    clear h1 h2 h3 h4 h5
    go_wp2
    go_ret
    exact ⟨by rw [HF.out]; rfl, rfl⟩
  have d5 : (r == 115) = false := by simpa using h5
  have HF : Hid (sgR r = false) := Lib.hid (by simp [sgR, h1, h2, h3, h4, h5])
  clear h1 h2 h3 h4 h5
  go_wp2
  go_ret
  exact ⟨by rw [HF.out]; rfl, rfl⟩

set_option maxRecDepth 100000 in
set_option maxHeartbeats 2000000 in
theorem isPattern_any (s : ByteArray) (W : World) :
    Calls Tryz.prog 13 #[.string s] W fun e W' => e = .returned (.bool (isPat s.data.toList)) ∧ Below W.heap.size W W' := by
  go_enter Tryz.func13, Tryz.ntmps13
  go_wp2
  go_loopw [] (fun wr => ∃ pos : Nat, wr.heap[W.heap.size]? = some (.stringIter s pos) ∧ Below W.heap.size W wr ∧ isPat (s.data.toList.take pos) = true) (fun wr => s.size - wr.iterPos W.heap.size)
  case atStart =>
    refine ⟨0, ?_, (Below.refl _ W).alloc (Nat.le_refl _) _, by simp [isPat]⟩
    have := World.iter_heap W s 0
    simpa using this
  case round =>
    obtain ⟨pos, hit, hbw, hall⟩ := hrel
    have hsz : W.heap.size < wr.heap.size := (Array.getElem?_eq_some_iff.1 hit).1
    by_cases hp' : pos < s.size
    · have hnx : ∀ ty, (Instr.next (.pointer (some ⟨W.heap.size, 0, none⟩)) true ty).run Tryz.prog wr = _ := fun ty => Lib.run_next_any_at wr W.heap.size s pos ty hit hp'
      have hit2 := Lib.iterAt_heap wr W.heap.size s pos (pos + (Utf8.decode s pos).2) hit
      have hbw2 := Lib.below_iterAt hbw (k := W.heap.size) (Nat.le_refl _) s (pos + (Utf8.decode s pos).2)
      have hby := byte_at s pos hp'
      by_cases ha : (s[pos]'hp').toNat < 128
      · have hd := decode_ascii s pos hp' ha
        rw [hd] at hnx hit2 hbw2
        dsimp only at hnx hit2 hbw2
        obtain ⟨x, hx⟩ : ∃ x, s[pos]'hp' = x := ⟨_, rfl⟩
        rw [hx] at hnx hby ha
        clear hd hx
        have HA := isPat_take _ _ _ hby
        rw [hall, ← sgR_of] at HA
        have hsg := fun w => isSign_any ((x.toNat : Nat) : Int) w
        cases hpx : sgR ((x.toNat : Nat) : Int)
        · have HF := Lib.hid (isPat_out _ _ _ hby (by rw [← sgR_of]; exact hpx))
          rw [hpx] at hsg
          clear HA hall hpx hby
          go_wp2_with (go_at_call 22; refine (hsg _).mono ?_; rintro e W1 ⟨rfl, rfl⟩)
          go_ret
          exact ⟨by rw [HF.out]; rfl, hbw2⟩
        · rw [hpx] at HA hsg
          have HT := Lib.hid HA
          clear HA hall hpx hby
          go_wp2_with (go_at_call 22; refine (hsg _).mono ?_; rintro e W1 ⟨rfl, rfl⟩)
          go_roundw
          case rel => exact ⟨pos + 1, hit2, hbw2, by rw [HT.out]; rfl⟩
          case measure =>
            rw [iterPos_of hit2, iterPos_of hit]
            omega
      · have hd := decode_high s pos hp' (by omega)
        have hsb : sgB (s[pos]'hp') = false := by
          cases h : sgB (s[pos]'hp')
          · rfl
          · exact absurd (sg_low _ h) ha
        have HF := Lib.hid (isPat_out _ _ _ hby hsb)
        obtain ⟨r, hr⟩ : ∃ r, (Utf8.decode s pos).1 = r := ⟨_, rfl⟩
        obtain ⟨k, hk⟩ : ∃ k, (Utf8.decode s pos).2 = k := ⟨_, rfl⟩
        rw [hr] at hnx hd
        rw [hk] at hnx hit2 hbw2 hd
        have hsg := fun w => isSign_any ((r : Nat) : Int) w
        rw [sgR_high ((r : Nat) : Int) (by omega)] at hsg
        clear hr hk hall hsb hby
        go_wp2_with (go_at_call 22; refine (hsg _).mono ?_; rintro e W1 ⟨rfl, rfl⟩)
        go_ret
        exact ⟨by rw [HF.out]; rfl, hbw2⟩
    · have hnx : ∀ ty, (Instr.next (.pointer (some ⟨W.heap.size, 0, none⟩)) true ty).run Tryz.prog wr = _ := fun ty => Lib.run_next_end_at wr W.heap.size s pos ty hit hp'
      have HT := Lib.hid hall
      clear hall
      go_wp2
      go_ret
      refine ⟨?_, hbw⟩
      have := HT.out
      rw [List.take_of_length_le (by simp; omega)] at this
      rw [this]
      rfl

end Go.Proofs.YtpjjmnkiepdllaaGreatDoor
