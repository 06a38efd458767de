/-
  The law NameBytes.
-/
import Derived.Test.YtcjpnhfbnckhhaaNaN
namespace Go.Proofs.Ytcjpnhfbnckhhaa
open Go.RowKit
set_option linter.unusedVariables false
set_option linter.unusedSimpArgs false

theorem hexB_at (l : List UInt8) : ∀ j, (hexB l)[2 * j]? = l[j]?.map (fun b => hx (b.toNat / 16)) ∧ (hexB l)[2 * j + 1]? = l[j]?.map (fun b => hx (b.toNat % 16)) := by
  induction l with
  | nil => intro j; simp [hexB]
  | cons b l ih =>
    intro j
    cases j with
    | zero => exact ⟨rfl, rfl⟩
    | succ j =>
      have e1 : 2 * (j + 1) = (2 * j) + 1 + 1 := by omega
      rw [e1, hexB]
      simp only [List.getElem?_cons_succ]
      exact ih j

theorem hv_hx : ∀ d : Fin 16, hv (hx d.val) = d.val := by decide +kernel
theorem hx_hv : ∀ b : Fin 256, hexR ((b.val : Nat) : Int) = true → hx (hv (UInt8.ofNat b.val)) = UInt8.ofNat b.val := by decide +kernel
theorem hx_hexR : ∀ d : Fin 16, hexR (((hx d.val).toNat : Nat) : Int) = true := by decide +kernel
theorem hx_hv' (b : UInt8) (h : hexR ((b.toNat : Nat) : Int) = true) : hx (hv b) = b := by
  have := hx_hv ⟨b.toNat, b.toNat_lt⟩ h
  simpa using this

theorem unhex_hexB (l : List UInt8) : unhex (hexB l) = l := by
  unfold unhex
  rw [hexB_len, show 2 * l.length / 2 = l.length by omega]
  apply List.ext_getElem?
  intro j
  by_cases h : j < l.length
  · rw [outL_at _ _ _ _ h, List.getElem?_eq_getElem h]
    congr 1
    obtain ⟨h1, h2⟩ := hexB_at l j
    rw [List.getElem?_eq_getElem h] at h1 h2
    generalize l[j] = b at h1 h2 ⊢
    unfold outAt
    rw [if_pos (by omega)]
    have g1 : (hexB l).getD (2 * j) 0 = hx (b.toNat / 16) := by simp [List.getD, h1]
    have g2 : (hexB l).getD (2 * j + 1) 0 = hx (b.toNat % 16) := by simp [List.getD, h2]
    have hb := b.toNat_lt
    rw [g1, g2, hv_hx ⟨b.toNat / 16, by omega⟩, hv_hx ⟨b.toNat % 16, by omega⟩]
    show UInt8.ofNat (16 * (b.toNat / 16) + b.toNat % 16) = b
    rw [show 16 * (b.toNat / 16) + b.toNat % 16 = b.toNat by omega]
    simp
  · rw [List.getElem?_eq_none (by rw [outL_len]; omega), List.getElem?_eq_none (by omega)]

theorem allR_hexB (l : List UInt8) : allR hexR (hexB l) = true := by
  induction l with
  | nil => rfl
  | cons b l ih =>
    have hb := b.toNat_lt
    unfold allR at ih ⊢
    rw [hexB, List.all_cons, List.all_cons, ih, hx_hexR ⟨b.toNat / 16, by omega⟩, hx_hexR ⟨b.toNat % 16, by omega⟩]
    rfl

theorem ok_hexS (l : List UInt8) : okHex (hexS l) = true := by
  unfold hexS
  by_cases h : l.length = 0
  · rw [if_pos h]
    rfl
  · rw [if_neg h]
    unfold okHex
    rw [hexB_len, allR_hexB, decide_eq_true (show 0 < 2 * l.length by omega), decide_eq_true (show 2 * l.length % 2 = 0 by omega)]
    simp

theorem unhex_hexS (l : List UInt8) : unhex (hexS l) = l := by
  unfold hexS
  by_cases h : l.length = 0
  · rw [if_pos h, List.eq_nil_of_length_eq_zero h]
    decide +kernel
  · rw [if_neg h]
    exact unhex_hexB l

theorem hexS_unhex (s : List UInt8) (h : okHex s = true) : hexS (unhex s) = s := by
  unfold okHex at h
  rw [Bool.or_eq_true, decide_eq_true_eq] at h
  rcases h with h | h
  · subst h
    decide +kernel
  · simp only [Bool.and_eq_true, decide_eq_true_eq] at h
    obtain ⟨⟨h0, h2⟩, ha⟩ := h
    obtain ⟨m, hm⟩ : ∃ m, s.length = 2 * m := ⟨s.length / 2, by omega⟩
    have hu : (unhex s).length = m := by unfold unhex; rw [outL_len]; omega
    unfold hexS
    rw [if_neg (by omega)]
    have hget : ∀ j b0 b1, s[2 * j]? = some b0 → s[2 * j + 1]? = some b1 → (unhex s)[j]? = some (UInt8.ofNat (16 * hv b0 + hv b1)) := by
      intro j b0 b1 e0 e1
      have l1 := (List.getElem?_eq_some_iff.1 e1).1
      unfold unhex
      rw [outL_at _ _ _ _ (by omega)]
      unfold outAt
      rw [if_pos (by omega)]
      have g1 : s.getD (2 * j) 0 = b0 := by simp [List.getD, e0]
      have g2 : s.getD (2 * j + 1) 0 = b1 := by simp [List.getD, e1]
      rw [g1, g2]
    apply List.ext_getElem?
    intro i
    by_cases hi : i < s.length
    · obtain ⟨j, hj⟩ : ∃ j, i / 2 = j := ⟨_, rfl⟩
      have l0 : 2 * j < s.length := by omega
      have l1 : 2 * j + 1 < s.length := by omega
      have e0 : s[2 * j]? = some s[2 * j] := List.getElem?_eq_getElem l0
      have e1 : s[2 * j + 1]? = some s[2 * j + 1] := List.getElem?_eq_getElem l1
      generalize s[2 * j] = b0 at e0
      generalize s[2 * j + 1] = b1 at e1
      have hg := hget j b0 b1 e0 e1
      obtain ⟨q1, q2⟩ := hexB_at (unhex s) j
      rw [hg] at q1 q2
      have v0 := hv_lt16 b0
      have v1 := hv_lt16 b1
      have ht : (UInt8.ofNat (16 * hv b0 + hv b1)).toNat = 16 * hv b0 + hv b1 := by rw [UInt8.toNat_ofNat']; omega
      rw [Option.map_some, ht] at q1 q2
      rw [show (16 * hv b0 + hv b1) / 16 = hv b0 by omega, hx_hv' b0 (allR_at _ _ ha _ _ e0)] at q1
      rw [show (16 * hv b0 + hv b1) % 16 = hv b1 by omega, hx_hv' b1 (allR_at _ _ ha _ _ e1)] at q2
      rcases Nat.mod_two_eq_zero_or_one i with hp | hp
      · rw [show i = 2 * j by omega, q1, e0]
      · rw [show i = 2 * j + 1 by omega, q2, e1]
    · rw [List.getElem?_eq_none (by rw [hexB_len]; omega), List.getElem?_eq_none (by omega)]

theorem hexS_len (l : List UInt8) : (hexS l).length ≤ 2 * l.length + 1 := by
  unfold hexS
  split
  · simp
  · rw [hexB_len]; omega

set_option maxRecDepth 100000 in
set_option maxHeartbeats 4000000 in
theorem nameBytes_law (A : Option Addr) (n c : Nat) (l : List UInt8) (s : ByteArray) (W : World) (hl : Byt W W.heap.size A n l) (hnil : A = none → c = 0) (hlc : n ≤ c) (hmx : c ≤ maxLen) (hs : s.size ≤ maxLen) :
    Calls Try.prog 4 #[.slice A n c, .string s] W fun e W' => e = .returned (.bool true) ∧ Below W.heap.size W W' := by
  unfold maxLen at hs hmx
  by_cases hn300 : 300 < n
  · have d1 : decide ((300 : Int) < (n : Int)) = true := decide_eq_true (by omega)
    go_enter Try.func4, Try.ntmps4
    go_wp2_with fail
    refine (awake7_any _).mono ?_
    rintro e W1 ⟨rfl, hb1⟩
    go_wp2_with fail
    go_ret
    exact ⟨rfl, hb1⟩
  · have d1 : decide ((300 : Int) < (n : Int)) = false := decide_eq_false (by omega)
    by_cases h300 : 300 < s.size
    · have d2 : decide ((300 : Int) < (s.size : Int)) = true := decide_eq_true (by omega)
      go_enter Try.func4, Try.ntmps4
      go_wp2_with fail
      refine (awake7_any _).mono ?_
      rintro e W1 ⟨rfl, hb1⟩
      go_wp2_with fail
      go_ret
      exact ⟨rfl, hb1⟩
    · have d2 : decide ((300 : Int) < (s.size : Int)) = false := decide_eq_false (by omega)
      have hln := hl.1
      obtain ⟨H, hH⟩ : ∃ H : ByteArray, ⟨(hexS l).toArray⟩ = H := ⟨_, rfl⟩
      have hHL : H.data.toList = hexS l := by rw [← hH]
      have hHs : H.size ≤ 1000 := by
        have h1 := hexS_len l
        have h2 : H.data.toList.length = H.size := by simp
        rw [hHL] at h2
        omega
      have hE : bytesE H.data.toList = 0 := by unfold bytesE; rw [hHL, ok_hexS]; rfl
      have hU : bytesL H.data.toList = l := by unfold bytesL; rw [hHL, ok_hexS, if_pos rfl, unhex_hexS]
      have hx1 := fun (w : World) (h : Byt w W.heap.size A n l) (hw : W.heap.size ≤ w.heap.size) => hex_any A n c l W.heap.size w h hw (by omega)
      have hx2 := fun (w : World) (h : Byt w W.heap.size A n l) => refHex_any A n c l W.heap.size w h (by omega)
      rw [hH] at hx1 hx2
      have hB1 := fun w => nbytes_any H hHs w
      rw [hE, hU] at hB1
      have hB2 := fun w => nbytes_any s (by omega) w
      have hHX := fun w => refHexes_any s (by omega) w
      have hHH : (H.toList == H.toList) = true := by simp
      have hHn : (!(H.toList == H.toList)) = false := by simp
      clear hH hHL hHs hE hU hln
      go_enter Try.func4, Try.ntmps4
      go_wp2_with fail
      refine (hx1 _ hl (Nat.le_refl _)).mono ?_
      rintro e W1 ⟨rfl, hb1⟩
      go_wp2_with fail
      refine (hB1 _).mono ?_
      rintro e W2 ⟨A2, n2, c2, rfl, hown2, hb2⟩
      obtain rfl : n2 = n := by have := own_len hown2; have h2 := hl.1; simp at this; omega
      go_wp2_with fail
      refine (hB2 _).mono ?_
      rintro e W3 ⟨A3, n3, c3, rfl, hown3, hb3⟩
      have hb13 := bthen (bthen hb1 hb2) hb3
      go_wp2_with fail
      refine (hx1 _ (hl.below hb13) hb13.size).mono ?_
      rintro e W4 ⟨rfl, hb4⟩
      have hb14 := bthen hb13 hb4
      go_wp2_with fail
      refine (hx2 _ (hl.below hb14)).mono ?_
      rintro e W5 ⟨rfl, hb5⟩
      have hb15 := bthen hb14 hb5
      have hy2 := (Byt.of_own hown2).below (bthen (bthen hb3 hb4) hb5)
      have hl5 := (hl.below hb15).more (show W.heap.size ≤ W2.heap.size by have := (bthen hb1 hb2).size; omega)
      go_wp2_with fail
      refine (same_true A2 A n2 c2 n2 c l l W2.heap.size W5 hy2 hl5 (by omega) rfl).mono ?_
      rintro e W6 ⟨rfl, kq, hk⟩
      have hb6 : Below W5.heap.size W5 W6 := by rw [hk]; exact below_drewN (Below.refl _ _) kq
      have hb16 := bthen hb15 hb6
      have hy3 := (Byt.of_own hown3).below (bthen (bthen hb4 hb5) hb6)
      have hn3 := own_len hown3
      clear hx1 hx2 hB1 hB2 hown2 hown3 hy2 hl5 hb1 hb2 hb3 hb4 hb5 hb6 hb13 hb14 hb15 hk
      go_wp2_with fail
      refine (hHX _).mono ?_
      rintro e W7 ⟨rfl, rfl⟩
      cases hok : okHex s.data.toList
      · have e1 : bytesE s.data.toList = 2 := by unfold bytesE; rw [hok]; rfl
        have e2 : n3 = 0 := by
          unfold bytesL at hn3
          rw [hok] at hn3
          simpa using hn3.symm
        subst e2
        rw [e1]
        clear e1 hok hn3 hy3 hHX
        go_wp2_with fail
        refine (awake7_any _).mono ?_
        rintro e W8 ⟨rfl, hb8⟩
        go_wp2_with fail
        go_ret
        exact ⟨rfl, bthen hb16 hb8⟩
      · have e1 : bytesE s.data.toList = 0 := by unfold bytesE; rw [hok]; rfl
        have e2 : bytesL s.data.toList = unhex s.data.toList := by unfold bytesL; rw [hok]; rfl
        have e3 := hexS_unhex _ hok
        have e4 : n3 ≤ 1000 := by
          rw [e2] at hn3
          unfold unhex at hn3
          have h2 : s.data.toList.length = s.size := by simp
          simp [outL_len] at hn3
          omega
        have hR := fun (w : World) (h : Byt w W3.heap.size A3 n3 (bytesL s.data.toList)) => refHex_any A3 n3 c3 _ W3.heap.size w h e4
        have e5 : (⟨(hexS (bytesL s.data.toList)).toArray⟩ : ByteArray) = s := by rw [e2, e3]
        rw [e5] at hR
        have hHS : (s.toList == s.toList) = true := by simp
        rw [e1]
        clear e1 e2 e3 e5 hok hn3 hHX
        go_wp2_with fail
        refine (hR _ hy3).mono ?_
        rintro e W8 ⟨rfl, hb8⟩
        clear hR hy3
        go_wp2_with fail
        refine (awake7_any _).mono ?_
        rintro e W9 ⟨rfl, hb9⟩
        go_wp2_with fail
        go_ret
        exact ⟨rfl, bthen (bthen hb16 hb8) hb9⟩

end Go.Proofs.Ytcjpnhfbnckhhaa
