/-
  The laws NameMays and NameBytes; the program answers.
-/
import Derived.Test.YtcjpnhfbnckhhaaNaL
namespace Go.Proofs.Ytcjpnhfbnckhhaa
open Go.RowKit
set_option linter.unusedVariables false
set_option linter.unusedSimpArgs false

set_option maxRecDepth 100000 in
set_option maxHeartbeats 2000000 in
theorem awake7_any (W : World) :
    Calls Try.prog 5 #[] W fun e W' => e = .returned (.bool true) ∧ Below W.heap.size W W' := by
  go_enter Try.func5, Try.ntmps5
  go_wp2_with fail
  refine (nbytes_any ⟨#[48, 48, 102, 102]⟩ (by decide) _).mono ?_
  rintro e W1 ⟨A, n, c, rfl, hown, hb1⟩
  have h1 : bytesE [48, 48, 102, 102] = 0 := by decide +kernel
  have h2 : bytesL [48, 48, 102, 102] = [0, 255] := by decide +kernel
  rw [show (⟨#[48, 48, 102, 102]⟩ : ByteArray).data.toList = [48, 48, 102, 102] from rfl] at hown ⊢
  rw [h1]
  rw [h2] at hown
  have hn : n = 2 := by have := own_len hown; simpa using this.symm
  subst hn
  have hby := Byt.of_own hown
  obtain ⟨b, o, x, rfl, hbB, hx, hc⟩ := hby.at_ (k := 1) (by omega)
  obtain rfl : x = 255 := by simpa using hx.symm
  clear hown hby h1 h2 hx
  have hT1 := fun w => tenant_any ⟨#[97, 45, 49]⟩ (by decide) w
  have hT2 := fun w => tenant_any ⟨#[49, 97]⟩ (by decide) w
  rw [show tenantB (⟨#[97, 45, 49]⟩ : ByteArray).data.toList = true by decide +kernel] at hT1
  rw [show tenantB (⟨#[49, 97]⟩ : ByteArray).data.toList = false by decide +kernel] at hT2
  go_wp2_with fail
  refine (hT1 _).mono ?_
  rintro e W2 ⟨rfl, hb2⟩
  go_wp2_with fail
  refine (hT2 _).mono ?_
  rintro e W3 ⟨rfl, hb3⟩
  have hc3 : W3.cell? ⟨b, o + 1, none⟩ = some (.int .u8 255) := by
    rw [hb3.cell (by show b < _; have := hb2.size; omega), hb2.cell (by show b < _; omega)]
    exact hc
  have hb4 := bthen (bthen hb1 hb2) hb3
  clear hc hb1 hb2 hb3 hT1 hT2
  go_wp2_with fail
  go_ret
  exact ⟨rfl, hb4⟩

set_option maxRecDepth 100000 in
set_option maxHeartbeats 2000000 in
theorem refTenant_any (s : ByteArray) (hs : s.size ≤ 1000) (W : World) :
    Calls Try.prog 7 #[.string s] W fun e W' => e = .returned (.bool (tenantB s.data.toList)) ∧ W' = W := by
  have hlen : s.data.toList.length = s.size := by simp
  have HT : Hid (tenantB s.data.toList = (decide (1 ≤ s.size) && decide (s.size ≤ 16) && (allR letR (s.data.toList.take 1) && allR tenR s.data.toList))) := Lib.hid (by unfold tenantB; rw [hlen])
  have hon := fun w => refOnly_any s tenT hs (by decide) w
  rw [allIn_ten] at hon
  clear hlen
  go_enter Try.func7, Try.ntmps7
  by_cases h1 : 1 ≤ s.size
  · have d1 : decide ((1 : Int) ≤ (s.size : Int)) = true := decide_eq_true (by omega)
    by_cases h16 : s.size ≤ 16
    · have d2 : decide ((s.size : Int) ≤ 16) = true := decide_eq_true (by omega)
      have H2 : Hid (tenantB s.data.toList = (allR letR (s.data.toList.take 1) && allR tenR s.data.toList)) := Lib.hid (by rw [HT.out, decide_eq_true h1, decide_eq_true h16]; rfl)
      have hby := byte_at s 0 h1
      obtain ⟨x, hx⟩ : ∃ x, s[0]'h1 = x := ⟨_, rfl⟩
      rw [hx] at hby
      have hl1 : allR letR (s.data.toList.take 1) = letR ((x.toNat : Nat) : Int) := by
        rw [allR_take letR _ 0 x hby]
        simp [allR]
      rw [hl1] at H2
      clear HT hl1 hby
      go_wp2_with fail
      refine (hon _).mono ?_
      rintro e W1 ⟨rfl, rfl⟩
      cases hq : allR tenR s.data.toList
      · rw [hq, Bool.and_false] at H2
        clear hq hon
        go_wp2_with fail
        go_ret
        exact ⟨by rw [H2.out]; rfl, rfl⟩
      · rw [hq, Bool.and_true] at H2
        clear hq hon
        by_cases h97 : (97 : Int) ≤ ((x.toNat : Nat) : Int)
        · have d3 : decide ((97 : Int) ≤ ((x.toNat : Nat) : Int)) = true := decide_eq_true h97
          go_wp2_with fail
          go_ret
          exact ⟨by rw [H2.out]; simp [letR, h97], rfl⟩
        · have d3 : decide ((97 : Int) ≤ ((x.toNat : Nat) : Int)) = false := decide_eq_false h97
          go_wp2_with fail
          go_ret
          exact ⟨by rw [H2.out]; simp [letR] <;> omega, rfl⟩
    · have d2 : decide ((s.size : Int) ≤ 16) = false := decide_eq_false (by omega)
      have H2 : Hid (tenantB s.data.toList = false) := Lib.hid (by rw [HT.out, decide_eq_false h16, Bool.and_false, Bool.false_and])
      clear HT hon
      go_wp2_with fail
      go_ret
      exact ⟨by rw [H2.out]; rfl, rfl⟩
  · have d1 : decide ((1 : Int) ≤ (s.size : Int)) = false := decide_eq_false (by omega)
    have H2 : Hid (tenantB s.data.toList = false) := Lib.hid (by rw [HT.out, decide_eq_false h1]; rfl)
    clear HT hon
    go_wp2_with fail
    go_ret
    exact ⟨by rw [H2.out]; rfl, rfl⟩

theorem ten_of_tar (z : Int) (h : tarR z = true) : tenR z = (decide (z ≠ 46) && decide (z ≠ 58)) := by
  unfold tarR at h
  cases ht : tenR z
  · rw [ht, Bool.false_or, Bool.or_eq_true, decide_eq_true_eq, decide_eq_true_eq] at h
    rcases h with h | h <;> simp [h]
  · have h1 : z ≠ 46 := by rintro rfl; revert ht; decide
    have h2 : z ≠ 58 := by rintro rfl; revert ht; decide
    simp [h1, h2]

set_option maxRecDepth 100000 in
set_option maxHeartbeats 2000000 in
theorem refTarget_any (s : ByteArray) (hs : s.size ≤ 1000) (W : World) :
    Calls Try.prog 9 #[.string s] W fun e W' => e = .returned (.bool (targetB s.data.toList)) ∧ W' = W := by
  have hlen : s.data.toList.length = s.size := by simp
  have HT : Hid (targetB s.data.toList = (decide (1 ≤ s.size) && decide (s.size ≤ 24) && (allR tenR (s.data.toList.take 1) && allR tarR s.data.toList))) := Lib.hid (by unfold targetB; rw [hlen])
  have hon := fun w => refOnly_any s tarT hs (by decide) w
  rw [allIn_tar] at hon
  clear hlen
  go_enter Try.func9, Try.ntmps9
  by_cases h1 : 1 ≤ s.size
  · have d1 : decide ((1 : Int) ≤ (s.size : Int)) = true := decide_eq_true (by omega)
    by_cases h16 : s.size ≤ 24
    · have d2 : decide ((s.size : Int) ≤ 24) = true := decide_eq_true (by omega)
      have H2 : Hid (targetB s.data.toList = (allR tenR (s.data.toList.take 1) && allR tarR s.data.toList)) := Lib.hid (by rw [HT.out, decide_eq_true h1, decide_eq_true h16]; rfl)
      have hby := byte_at s 0 h1
      obtain ⟨x, hx⟩ : ∃ x, s[0]'h1 = x := ⟨_, rfl⟩
      rw [hx] at hby
      have hl1 : allR tenR (s.data.toList.take 1) = tenR ((x.toNat : Nat) : Int) := by
        rw [allR_take tenR _ 0 x hby]
        simp [allR]
      rw [hl1] at H2
      clear HT hl1
      go_wp2_with fail
      refine (hon _).mono ?_
      rintro e W1 ⟨rfl, rfl⟩
      cases hq : allR tarR s.data.toList
      · rw [hq, Bool.and_false] at H2
        clear hq hon hby
        go_wp2_with fail
        go_ret
        exact ⟨by rw [H2.out]; rfl, rfl⟩
      · rw [ten_of_tar _ (allR_at tarR _ hq 0 x hby), hq, Bool.and_true] at H2
        clear hq hon hby
        by_cases h46 : ((x.toNat : Nat) : Int) = 46
        · have d3 : (((x.toNat : Nat) : Int) != 46) = false := by simp [h46]
          have H3 : Hid (targetB s.data.toList = false) := Lib.hid (by rw [H2.out, decide_eq_false (by simp [h46])]; rfl)
          clear h46
          go_wp2_with fail
          go_ret
          exact ⟨by rw [H3.out]; rfl, rfl⟩
        · have d3 : (((x.toNat : Nat) : Int) != 46) = true := by simpa using h46
          have H3 : Hid (targetB s.data.toList = (((x.toNat : Nat) : Int) != 58)) := Lib.hid (by
            rw [H2.out, decide_eq_true h46, Bool.true_and]
            by_cases h58 : ((x.toNat : Nat) : Int) = 58 <;> simp [h58])
          go_wp2_with fail
          go_ret
          exact ⟨by rw [H3.out]; rfl, rfl⟩
    · have d2 : decide ((s.size : Int) ≤ 24) = false := decide_eq_false (by omega)
      have H2 : Hid (targetB s.data.toList = false) := Lib.hid (by rw [HT.out, decide_eq_false h16, Bool.and_false, Bool.false_and])
      clear HT hon
      go_wp2_with fail
      go_ret
      exact ⟨by rw [H2.out]; rfl, rfl⟩
  · have d1 : decide ((1 : Int) ≤ (s.size : Int)) = false := decide_eq_false (by omega)
    have H2 : Hid (targetB s.data.toList = false) := Lib.hid (by rw [HT.out, decide_eq_false h1]; rfl)
    clear HT hon
    go_wp2_with fail
    go_ret
    exact ⟨by rw [H2.out]; rfl, rfl⟩

set_option maxRecDepth 100000 in
set_option maxHeartbeats 2000000 in
theorem nameMays_law (s : ByteArray) (W : World) (hs : s.size ≤ maxLen) :
    Calls Try.prog 3 #[.string s] W fun e W' => e = .returned (.bool true) ∧ Below W.heap.size W W' := by
  have hT := fun w => tenant_any s hs w
  have hG := fun w => target_any s hs w
  have hi := tenant_target s.data.toList
  unfold maxLen at hs
  by_cases h300 : 300 < s.size
  · clear hi hT hG
    go_enter Try.func3, Try.ntmps3
    go_wp2_with fail
    refine (awake7_any _).mono ?_
    rintro e W1 ⟨rfl, hb1⟩
    go_wp2_with fail
    go_ret
    exact ⟨rfl, hb1⟩
  · have hRT := fun w => refTenant_any s (by omega) w
    have hRG := fun w => refTarget_any s (by omega) w
    cases hg : targetB s.data.toList
    · have ht : tenantB s.data.toList = false := by
        cases ht : tenantB s.data.toList
        · rfl
        · rw [hi ht] at hg
          cases hg
      rw [hg] at hG hRG
      rw [ht] at hT hRT
      clear hi hg ht
      go_enter Try.func3, Try.ntmps3
      go_wp2_with fail
      refine (hT _).mono ?_
      rintro e W1 ⟨rfl, hb1⟩
      go_wp2_with fail
      refine (hRT _).mono ?_
      rintro e W2 ⟨rfl, rfl⟩
      go_wp2_with fail
      refine (hG _).mono ?_
      rintro e W3 ⟨rfl, hb3⟩
      go_wp2_with fail
      refine (hRG _).mono ?_
      rintro e W4 ⟨rfl, rfl⟩
      go_wp2_with fail
      refine (hT _).mono ?_
      rintro e W5 ⟨rfl, hb5⟩
      go_wp2_with fail
      refine (awake7_any _).mono ?_
      rintro e W6 ⟨rfl, hb6⟩
      have hb := bthen (bthen (bthen hb1 hb3) hb5) hb6
      go_wp2_with fail
      go_ret
      exact ⟨rfl, hb⟩
    · rw [hg] at hG hRG
      clear hi hg
      cases ht : tenantB s.data.toList
      · rw [ht] at hT hRT
        clear ht
        go_enter Try.func3, Try.ntmps3
        go_wp2_with fail
        refine (hT _).mono ?_
        rintro e W1 ⟨rfl, hb1⟩
        go_wp2_with fail
        refine (hRT _).mono ?_
        rintro e W2 ⟨rfl, rfl⟩
        go_wp2_with fail
        refine (hG _).mono ?_
        rintro e W3 ⟨rfl, hb3⟩
        go_wp2_with fail
        refine (hRG _).mono ?_
        rintro e W4 ⟨rfl, rfl⟩
        go_wp2_with fail
        refine (hT _).mono ?_
        rintro e W5 ⟨rfl, hb5⟩
        go_wp2_with fail
        refine (awake7_any _).mono ?_
        rintro e W6 ⟨rfl, hb6⟩
        have hb := bthen (bthen (bthen hb1 hb3) hb5) hb6
        go_wp2_with fail
        go_ret
        exact ⟨rfl, hb⟩
      · rw [ht] at hT hRT
        clear ht
        go_enter Try.func3, Try.ntmps3
        go_wp2_with fail
        refine (hT _).mono ?_
        rintro e W1 ⟨rfl, hb1⟩
        go_wp2_with fail
        refine (hRT _).mono ?_
        rintro e W2 ⟨rfl, rfl⟩
        go_wp2_with fail
        refine (hG _).mono ?_
        rintro e W3 ⟨rfl, hb3⟩
        go_wp2_with fail
        refine (hRG _).mono ?_
        rintro e W4 ⟨rfl, rfl⟩
        go_wp2_with fail
        refine (hT _).mono ?_
        rintro e W5 ⟨rfl, hb5⟩
        go_wp2_with fail
        refine (hG _).mono ?_
        rintro e W6 ⟨rfl, hb6⟩
        go_wp2_with fail
        refine (awake7_any _).mono ?_
        rintro e W7 ⟨rfl, hb7⟩
        have hb := bthen (bthen (bthen (bthen hb1 hb3) hb5) hb6) hb7
        go_wp2_with fail
        go_ret
        exact ⟨rfl, hb⟩

end Go.Proofs.Ytcjpnhfbnckhhaa
