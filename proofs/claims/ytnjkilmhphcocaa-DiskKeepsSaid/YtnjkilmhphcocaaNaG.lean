/-
  The reference's answers: is a text a tenant's, a target's name?
-/
import Derived.Test.YtnjkilmhphcocaaNaB
namespace Go.Proofs.Ytnjkilmhphcocaa
open Go.RowKit
set_option linter.unusedVariables false
set_option linter.unusedSimpArgs false

theorem ten_of_tar (z : Int) (h : tarR z = true) : tenR z = (decide (z ≠ 46) && decide (z ≠ 58)) := by
  unfold tarR at h
  cases ht : tenR z
  · rw [ht, Bool.false_or, Bool.or_eq_true, decide_eq_true_eq, decide_eq_true_eq] at h
    rcases h with h | h <;> simp [h]
  · have h1 : z ≠ 46 := by rintro rfl; revert ht; decide
    have h2 : z ≠ 58 := by rintro rfl; revert ht; decide
    simp [h1, h2]

set_option maxRecDepth 100000 in
set_option maxHeartbeats 2000000 in
theorem refTarget_any (s : ByteArray) (hs : s.size ≤ 10000) (W : World) :
    Calls Try.prog 31 #[.string s] W fun e W' => e = .returned (.bool (targetB s.data.toList)) ∧ W' = W := by
  have hlen : s.data.toList.length = s.size := by simp
  have HT : Hid (targetB s.data.toList = (decide (1 ≤ s.size) && decide (s.size ≤ 24) && (allR tenR (s.data.toList.take 1) && allR tarR s.data.toList))) := Lib.hid (by unfold targetB; rw [hlen])
  have hon := fun w => refOnly_any s tarT hs (by decide) w
  rw [allIn_tar] at hon
  clear hlen
  go_enter Try.func31, Try.ntmps31
  by_cases h1 : 1 ≤ s.size
  · have d1 : decide ((1 : Int) ≤ (s.size : Int)) = true := decide_eq_true (by omega)
    by_cases h16 : s.size ≤ 24
    · have d2 : decide ((s.size : Int) ≤ 24) = true := decide_eq_true (by omega)
      have H2 : Hid (targetB s.data.toList = (allR tenR (s.data.toList.take 1) && allR tarR s.data.toList)) := Lib.hid (by rw [HT.out, decide_eq_true h1, decide_eq_true h16]; rfl)
      have hby := byte_at s 0 h1
      obtain ⟨x, hx⟩ : ∃ x, s[0]'h1 = x := ⟨_, rfl⟩
      rw [hx] at hby
      have hl1 : allR tenR (s.data.toList.take 1) = tenR ((x.toNat : Nat) : Int) := by
        rw [allR_take tenR _ 0 x hby]
        simp [allR]
      rw [hl1] at H2
      clear HT hl1
      go_wp2_with fail
      refine (hon _).mono ?_
      rintro e W1 ⟨rfl, rfl⟩
      cases hq : allR tarR s.data.toList
      · rw [hq, Bool.and_false] at H2
        clear hq hon hby
        go_wp2_with fail
        go_ret
        exact ⟨by rw [H2.out]; rfl, rfl⟩
      · rw [ten_of_tar _ (allR_at tarR _ hq 0 x hby), hq, Bool.and_true] at H2
        clear hq hon hby
        by_cases h46 : ((x.toNat : Nat) : Int) = 46
        · have d3 : (((x.toNat : Nat) : Int) != 46) = false := by simp [h46]
          have H3 : Hid (targetB s.data.toList = false) := Lib.hid (by rw [H2.out, decide_eq_false (by simp [h46])]; rfl)
          clear h46
          go_wp2_with fail
          go_ret
          exact ⟨by rw [H3.out]; rfl, rfl⟩
        · have d3 : (((x.toNat : Nat) : Int) != 46) = true := by simpa using h46
          have H3 : Hid (targetB s.data.toList = (((x.toNat : Nat) : Int) != 58)) := Lib.hid (by
            rw [H2.out, decide_eq_true h46, Bool.true_and]
            by_cases h58 : ((x.toNat : Nat) : Int) = 58 <;> simp [h58])
          go_wp2_with fail
          go_ret
          exact ⟨by rw [H3.out]; rfl, rfl⟩
    · have d2 : decide ((s.size : Int) ≤ 24) = false := decide_eq_false (by omega)
      have H2 : Hid (targetB s.data.toList = false) := Lib.hid (by rw [HT.out, decide_eq_false h16, Bool.and_false, Bool.false_and])
      clear HT hon
      go_wp2_with fail
      go_ret
      exact ⟨by rw [H2.out]; rfl, rfl⟩
  · have d1 : decide ((1 : Int) ≤ (s.size : Int)) = false := decide_eq_false (by omega)
    have H2 : Hid (targetB s.data.toList = false) := Lib.hid (by rw [HT.out, decide_eq_false h1]; rfl)
    clear HT hon
    go_wp2_with fail
    go_ret
    exact ⟨by rw [H2.out]; rfl, rfl⟩

end Go.Proofs.Ytnjkilmhphcocaa
