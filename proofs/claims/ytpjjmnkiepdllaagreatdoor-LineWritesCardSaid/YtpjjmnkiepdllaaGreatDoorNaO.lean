/-
  The law NameBytes.
-/
import Derived.Test.YtpjjmnkiepdllaaGreatDoorNaN
namespace Go.Proofs.YtpjjmnkiepdllaaGreatDoor
open Go.RowKit
set_option linter.unusedVariables false
set_option linter.unusedSimpArgs false

theorem hexB_at (l : List UInt8) : ∀ j, (hexB l)[2 * j]? = l[j]?.map (fun b => hx (b.toNat / 16)) ∧ (hexB l)[2 * j + 1]? = l[j]?.map (fun b => hx (b.toNat % 16)) := by
  induction l with
  | nil => intro j; simp [hexB]
  | cons b l ih =>
    intro j
    cases j with
    | zero => exact ⟨rfl, rfl⟩
    | succ j =>
      have e1 : 2 * (j + 1) = (2 * j) + 1 + 1 := by omega
      rw [e1, hexB]
      simp only [List.getElem?_cons_succ]
      exact ih j

theorem hv_hx : ∀ d : Fin 16, hv (hx d.val) = d.val := by decide +kernel
theorem hx_hv : ∀ b : Fin 256, hexR ((b.val : Nat) : Int) = true → hx (hv (UInt8.ofNat b.val)) = UInt8.ofNat b.val := by decide +kernel
theorem hx_hexR : ∀ d : Fin 16, hexR (((hx d.val).toNat : Nat) : Int) = true := by decide +kernel
theorem hx_hv' (b : UInt8) (h : hexR ((b.toNat : Nat) : Int) = true) : hx (hv b) = b := by
  have := hx_hv ⟨b.toNat, b.toNat_lt⟩ h
  simpa using this

theorem unhex_hexB (l : List UInt8) : unhex (hexB l) = l := by
  unfold unhex
  rw [hexB_len, show 2 * l.length / 2 = l.length by omega]
  apply List.ext_getElem?
  intro j
  by_cases h : j < l.length
  · rw [outL_at _ _ _ _ h, List.getElem?_eq_getElem h]
    congr 1
    obtain ⟨h1, h2⟩ := hexB_at l j
    rw [List.getElem?_eq_getElem h] at h1 h2
    generalize l[j] = b at h1 h2 ⊢
    unfold outAt
    rw [if_pos (by omega)]
    have g1 : (hexB l).getD (2 * j) 0 = hx (b.toNat / 16) := by simp [List.getD, h1]
    have g2 : (hexB l).getD (2 * j + 1) 0 = hx (b.toNat % 16) := by simp [List.getD, h2]
    have hb := b.toNat_lt
    rw [g1, g2, hv_hx ⟨b.toNat / 16, by omega⟩, hv_hx ⟨b.toNat % 16, by omega⟩]
    show UInt8.ofNat (16 * (b.toNat / 16) + b.toNat % 16) = b
    rw [show 16 * (b.toNat / 16) + b.toNat % 16 = b.toNat by omega]
    simp
  · rw [List.getElem?_eq_none (by rw [outL_len]; omega), List.getElem?_eq_none (by omega)]

theorem allR_hexB (l : List UInt8) : allR hexR (hexB l) = true := by
  induction l with
  | nil => rfl
  | cons b l ih =>
    have hb := b.toNat_lt
    unfold allR at ih ⊢
    rw [hexB, List.all_cons, List.all_cons, ih, hx_hexR ⟨b.toNat / 16, by omega⟩, hx_hexR ⟨b.toNat % 16, by omega⟩]
    rfl

theorem ok_hexS (l : List UInt8) : okHex (hexS l) = true := by
  unfold hexS
  by_cases h : l.length = 0
  · rw [if_pos h]
    rfl
  · rw [if_neg h]
    unfold okHex
    rw [hexB_len, allR_hexB, decide_eq_true (show 0 < 2 * l.length by omega), decide_eq_true (show 2 * l.length % 2 = 0 by omega)]
    simp

theorem unhex_hexS (l : List UInt8) : unhex (hexS l) = l := by
  unfold hexS
  by_cases h : l.length = 0
  · rw [if_pos h, List.eq_nil_of_length_eq_zero h]
    decide +kernel
  · rw [if_neg h]
    exact unhex_hexB l

theorem hexS_unhex (s : List UInt8) (h : okHex s = true) : hexS (unhex s) = s := by
  unfold okHex at h
  rw [Bool.or_eq_true, decide_eq_true_eq] at h
  rcases h with h | h
  · subst h
    decide +kernel
  · simp only [Bool.and_eq_true, decide_eq_true_eq] at h
    obtain ⟨⟨h0, h2⟩, ha⟩ := h
    obtain ⟨m, hm⟩ : ∃ m, s.length = 2 * m := ⟨s.length / 2, by omega⟩
    have hu : (unhex s).length = m := by unfold unhex; rw [outL_len]; omega
    unfold hexS
    rw [if_neg (by omega)]
    have hget : ∀ j b0 b1, s[2 * j]? = some b0 → s[2 * j + 1]? = some b1 → (unhex s)[j]? = some (UInt8.ofNat (16 * hv b0 + hv b1)) := by
      intro j b0 b1 e0 e1
      have l1 := (List.getElem?_eq_some_iff.1 e1).1
      unfold unhex
      rw [outL_at _ _ _ _ (by omega)]
      unfold outAt
      rw [if_pos (by omega)]
      have g1 : s.getD (2 * j) 0 = b0 := by simp [List.getD, e0]
      have g2 : s.getD (2 * j + 1) 0 = b1 := by simp [List.getD, e1]
      rw [g1, g2]
    apply List.ext_getElem?
    intro i
    by_cases hi : i < s.length
    · obtain ⟨j, hj⟩ : ∃ j, i / 2 = j := ⟨_, rfl⟩
      have l0 : 2 * j < s.length := by omega
      have l1 : 2 * j + 1 < s.length := by omega
      have e0 : s[2 * j]? = some s[2 * j] := List.getElem?_eq_getElem l0
      have e1 : s[2 * j + 1]? = some s[2 * j + 1] := List.getElem?_eq_getElem l1
      generalize s[2 * j] = b0 at e0
      generalize s[2 * j + 1] = b1 at e1
      have hg := hget j b0 b1 e0 e1
      obtain ⟨q1, q2⟩ := hexB_at (unhex s) j
      rw [hg] at q1 q2
      have v0 := hv_lt16 b0
      have v1 := hv_lt16 b1
      have ht : (UInt8.ofNat (16 * hv b0 + hv b1)).toNat = 16 * hv b0 + hv b1 := by rw [UInt8.toNat_ofNat']; omega
      rw [Option.map_some, ht] at q1 q2
      rw [show (16 * hv b0 + hv b1) / 16 = hv b0 by omega, hx_hv' b0 (allR_at _ _ ha _ _ e0)] at q1
      rw [show (16 * hv b0 + hv b1) % 16 = hv b1 by omega, hx_hv' b1 (allR_at _ _ ha _ _ e1)] at q2
      rcases Nat.mod_two_eq_zero_or_one i with hp | hp
      · rw [show i = 2 * j by omega, q1, e0]
      · rw [show i = 2 * j + 1 by omega, q2, e1]
    · rw [List.getElem?_eq_none (by rw [hexB_len]; omega), List.getElem?_eq_none (by omega)]

theorem hexS_len (l : List UInt8) : (hexS l).length ≤ 2 * l.length + 1 := by
  unfold hexS
  split
  · simp
  · rw [hexB_len]; omega

end Go.Proofs.YtpjjmnkiepdllaaGreatDoor
