/-
  The laws NameMays and NameBytes; the program answers.
-/
import Derived.Test.YtcjpnhfbnckhhaaDoorNaL
namespace Go.Proofs.YtcjpnhfbnckhhaaDoor
open Go.RowKit
set_option linter.unusedVariables false
set_option linter.unusedSimpArgs false

set_option maxRecDepth 100000 in
set_option maxHeartbeats 2000000 in
theorem awake7_any (W : World) :
    Calls Tryd.prog 5 #[] W fun e W' => e = .returned (.bool true) ∧ Below W.heap.size W W' := by
  go_enter Tryd.func5, Tryd.ntmps5
  go_wp2_with fail
  refine (nbytes_any ⟨#[48, 48, 102, 102]⟩ (by decide) _).mono ?_
  rintro e W1 ⟨A, n, c, rfl, hown, hb1⟩
  have h1 : bytesE [48, 48, 102, 102] = 0 := by decide +kernel
  have h2 : bytesL [48, 48, 102, 102] = [0, 255] := by decide +kernel
  rw [show (⟨#[48, 48, 102, 102]⟩ : ByteArray).data.toList = [48, 48, 102, 102] from rfl] at hown ⊢
  rw [h1]
  rw [h2] at hown
  have hn : n = 2 := by have := own_len hown; simpa using this.symm
  subst hn
  have hby := Byt.of_own hown
  obtain ⟨b, o, x, rfl, hbB, hx, hc⟩ := hby.at_ (k := 1) (by omega)
  obtain rfl : x = 255 := by simpa using hx.symm
  clear hown hby h1 h2 hx
  have hT1 := fun w => tenant_any ⟨#[97, 45, 49]⟩ (by decide) w
  have hT2 := fun w => tenant_any ⟨#[49, 97]⟩ (by decide) w
  rw [show tenantB (⟨#[97, 45, 49]⟩ : ByteArray).data.toList = true by decide +kernel] at hT1
  rw [show tenantB (⟨#[49, 97]⟩ : ByteArray).data.toList = false by decide +kernel] at hT2
  go_wp2_with fail
  refine (hT1 _).mono ?_
  rintro e W2 ⟨rfl, hb2⟩
  go_wp2_with fail
  refine (hT2 _).mono ?_
  rintro e W3 ⟨rfl, hb3⟩
  have hc3 : W3.cell? ⟨b, o + 1, none⟩ = some (.int .u8 255) := by
    rw [hb3.cell (by show b < _; have := hb2.size; omega), hb2.cell (by show b < _; omega)]
    exact hc
  have hb4 := bthen (bthen hb1 hb2) hb3
  clear hc hb1 hb2 hb3 hT1 hT2
  go_wp2_with fail
  go_ret
  exact ⟨rfl, hb4⟩

theorem ten_of_tar (z : Int) (h : tarR z = true) : tenR z = (decide (z ≠ 46) && decide (z ≠ 58)) := by
  unfold tarR at h
  cases ht : tenR z
  · rw [ht, Bool.false_or, Bool.or_eq_true, decide_eq_true_eq, decide_eq_true_eq] at h
    rcases h with h | h <;> simp [h]
  · have h1 : z ≠ 46 := by rintro rfl; revert ht; decide
    have h2 : z ≠ 58 := by rintro rfl; revert ht; decide
    simp [h1, h2]

end Go.Proofs.YtcjpnhfbnckhhaaDoor
