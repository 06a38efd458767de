/-
  The reference's answers: is a text a tenant's, a target's name?
-/
import Derived.Test.YtnjkhhagefipiaaDoorNaB
namespace Go.Proofs.YtnjkhhagefipiaaDoor
open Go.RowKit
set_option linter.unusedVariables false
set_option linter.unusedSimpArgs false

set_option maxRecDepth 100000 in
set_option maxHeartbeats 2000000 in
theorem refTenant_any (s : ByteArray) (hs : s.size ≤ 10000) (W : World) :
    Calls Tryd.prog 20 #[.string s] W fun e W' => e = .returned (.bool (tenantB s.data.toList)) ∧ W' = W := by
  have hlen : s.data.toList.length = s.size := by simp
  have HT : Hid (tenantB s.data.toList = (decide (1 ≤ s.size) && decide (s.size ≤ 16) && (allR letR (s.data.toList.take 1) && allR tenR s.data.toList))) := Lib.hid (by unfold tenantB; rw [hlen])
  have hon := fun w => refOnly_any s tenT hs (by decide) w
  rw [allIn_ten] at hon
  clear hlen
  go_enter Tryd.func20, Tryd.ntmps20
  by_cases h1 : 1 ≤ s.size
  · have d1 : decide ((1 : Int) ≤ (s.size : Int)) = true := decide_eq_true (by omega)
    by_cases h16 : s.size ≤ 16
    · have d2 : decide ((s.size : Int) ≤ 16) = true := decide_eq_true (by omega)
      have H2 : Hid (tenantB s.data.toList = (allR letR (s.data.toList.take 1) && allR tenR s.data.toList)) := Lib.hid (by rw [HT.out, decide_eq_true h1, decide_eq_true h16]; rfl)
      have hby := byte_at s 0 h1
      obtain ⟨x, hx⟩ : ∃ x, s[0]'h1 = x := ⟨_, rfl⟩
      rw [hx] at hby
      have hl1 : allR letR (s.data.toList.take 1) = letR ((x.toNat : Nat) : Int) := by
        rw [allR_take letR _ 0 x hby]
        simp [allR]
      rw [hl1] at H2
      clear HT hl1 hby
      go_wp2_with fail
      refine (hon _).mono ?_
      rintro e W1 ⟨rfl, rfl⟩
      cases hq : allR tenR s.data.toList
      · rw [hq, Bool.and_false] at H2
        clear hq hon
        go_wp2_with fail
        go_ret
        exact ⟨by rw [H2.out]; rfl, rfl⟩
      · rw [hq, Bool.and_true] at H2
        clear hq hon
        by_cases h97 : (97 : Int) ≤ ((x.toNat : Nat) : Int)
        · have d3 : decide ((97 : Int) ≤ ((x.toNat : Nat) : Int)) = true := decide_eq_true h97
          go_wp2_with fail
          go_ret
          exact ⟨by rw [H2.out]; simp [letR, h97], rfl⟩
        · have d3 : decide ((97 : Int) ≤ ((x.toNat : Nat) : Int)) = false := decide_eq_false h97
          go_wp2_with fail
          go_ret
          exact ⟨by rw [H2.out]; simp [letR] <;> omega, rfl⟩
    · have d2 : decide ((s.size : Int) ≤ 16) = false := decide_eq_false (by omega)
      have H2 : Hid (tenantB s.data.toList = false) := Lib.hid (by rw [HT.out, decide_eq_false h16, Bool.and_false, Bool.false_and])
      clear HT hon
      go_wp2_with fail
      go_ret
      exact ⟨by rw [H2.out]; rfl, rfl⟩
  · have d1 : decide ((1 : Int) ≤ (s.size : Int)) = false := decide_eq_false (by omega)
    have H2 : Hid (tenantB s.data.toList = false) := Lib.hid (by rw [HT.out, decide_eq_false h1]; rfl)
    clear HT hon
    go_wp2_with fail
    go_ret
    exact ⟨by rw [H2.out]; rfl, rfl⟩

theorem ten_of_tar (z : Int) (h : tarR z = true) : tenR z = (decide (z ≠ 46) && decide (z ≠ 58)) := by
  unfold tarR at h
  cases ht : tenR z
  · rw [ht, Bool.false_or, Bool.or_eq_true, decide_eq_true_eq, decide_eq_true_eq] at h
    rcases h with h | h <;> simp [h]
  · have h1 : z ≠ 46 := by rintro rfl; revert ht; decide
    have h2 : z ≠ 58 := by rintro rfl; revert ht; decide
    simp [h1, h2]

end Go.Proofs.YtnjkhhagefipiaaDoor
