/-
  The law NameNumbers.
-/
import Derived.Test.YtcjpnhfbnckhhaaDoorNaS
import Derived.Test.YtcjpnhfbnckhhaaDoorNaN
namespace Go.Proofs.YtcjpnhfbnckhhaaDoor
open Go.RowKit
set_option linter.unusedVariables false
set_option linter.unusedSimpArgs false

set_option maxRecDepth 100000 in
set_option maxHeartbeats 4000000 in
theorem nameNumbers_law (z : Int) (s : ByteArray) (W : World) (h0 : 0 ≤ z) (h1 : z ≤ 18446744073709551615) (hs : s.size ≤ maxLen) (hN : NV W) :
    Calls Tryd.prog 3 #[.int .u64 z, .string s] W fun e W' => e = .returned (.bool true) ∧ Below W.heap.size W W' := by
  unfold maxLen at hs
  obtain ⟨u, rfl⟩ : ∃ u : Nat, z = (u : Int) := ⟨z.toNat, by omega⟩
  have hu64 : u < 18446744073709551616 := by omega
  by_cases h300 : 300 < s.size
  · have d1 : decide ((300 : Int) < (s.size : Int)) = true := decide_eq_true (by omega)
    clear h0 h1 hu64
    go_enter Tryd.func3, Tryd.ntmps3
    go_wp2_with fail
    refine (awake7_any _).mono ?_
    rintro e W1 ⟨rfl, hb1⟩
    go_wp2_with fail
    go_ret
    exact ⟨rfl, hb1⟩
  · have d1 : decide ((300 : Int) < (s.size : Int)) = false := decide_eq_false (by omega)
    obtain ⟨D, hD⟩ : ∃ D : ByteArray, ⟨(Lib.decDigits u).toArray⟩ = D := ⟨_, rfl⟩
    have hDL : D.data.toList = Lib.decDigits u := by rw [← hD]
    have hDs : D.size ≤ 1000 := by
      have h3 : D.data.toList.length = D.size := by simp
      rw [hDL, Lib.decDigits_length] at h3
      have := Lib.nDigits_le20 u hu64
      omega
    obtain ⟨_, n2, n3⟩ := num_decDigits u (by omega)
    have hDg := fun w h => digits_any u hu64 w h
    have hRD := fun w => refDigits_any u hu64 w
    rw [hD] at hDg hRD
    have hNu1 := fun w h => number_any D hDs w h
    rw [hDL, n2, n3] at hNu1
    have hNu2 := fun w h => number_any s (by omega) w h
    have hRN := fun w => refNum7_any s (by omega) w
    generalize numV s.data.toList = y at hNu2 hRN
    generalize numE s.data.toList = f at hNu2 hRN
    have hDD : (D.toList == D.toList) = true := by simp
    clear hD hDL hDs n2 n3 h0 h1 hu64
    go_enter Tryd.func3, Tryd.ntmps3
    go_wp2_with fail
    refine (hDg _ hN).mono ?_
    rintro e W1 ⟨rfl, hb1⟩
    go_wp2_with fail
    refine (hNu1 _ (hN.below hb1)).mono ?_
    rintro e W2 ⟨rfl, hb2⟩
    have hb12 := bthen hb1 hb2
    go_wp2_with fail
    refine (hNu2 _ (hN.below hb12)).mono ?_
    rintro e W3 ⟨rfl, hb3⟩
    have hb13 := bthen hb12 hb3
    go_wp2_with fail
    refine (hRN _).mono ?_
    rintro e W4 ⟨rfl, rfl⟩
    go_wp2_with fail
    refine (hDg _ (hN.below hb13)).mono ?_
    rintro e W5 ⟨rfl, hb5⟩
    have hb15 := bthen hb13 hb5
    go_wp2_with fail
    refine (hRD _).mono ?_
    rintro e W6 ⟨rfl, rfl⟩
    clear hDg hRD hNu1 hNu2 hRN hb1 hb2 hb12 hb3 hb13 hb5
    go_wp2_with fail
    refine (awake7_any _).mono ?_
    rintro e W7 ⟨rfl, hb7⟩
    go_wp2_with fail
    go_ret
    exact ⟨rfl, bthen hb15 hb7⟩

end Go.Proofs.YtcjpnhfbnckhhaaDoor
