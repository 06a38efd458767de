/-
  The reference's answer: does a line fit?
-/
import Derived.Test.YtpjjmnkiepdllaaGreatDoorLiE
import Derived.IntWalk
namespace Go.Proofs.YtpjjmnkiepdllaaGreatDoor
open Go.RowKit
set_option linter.unusedVariables false
set_option linter.unusedSimpArgs false

theorem u8_ne (x c : UInt8) (h : x ≠ c) : (((x.toNat : Nat) : Int) != ((c.toNat : Nat) : Int)) = true := by
  rw [bne, beq_byte]
  simpa using h
theorem u8_eq (x c : UInt8) (h : x = c) : (((x.toNat : Nat) : Int) != ((c.toNat : Nat) : Int)) = false := by
  rw [bne, beq_byte]
  simpa using h

set_option maxRecDepth 100000 in
set_option maxHeartbeats 4000000 in
theorem refCheck_any (s word pat : ByteArray) (hs : s.size ≤ 10000) (hp : pat.size ≤ 10000) (W : World) :
    Calls Tryz.prog 8 #[.string s, .string word, .string pat] W fun e W' => e = .returned (.int .i64 (checkE s.data.toList word.data.toList pat.data.toList)) ∧ Below W.heap.size W W' := by
  have hpl : pat.data.toList.length = pat.size := by simp
  have HPL := Lib.hid hpl
  have hRW := fun w => refWords_any s hs w
  clear hpl
  go_enter Tryz.func8, Tryz.ntmps8
  go_wp2_with fail
  refine (hRW _).mono ?_
  rintro e W1 ⟨v1, rfl, A1, n1, c1, rfl, hv1, hb1⟩
  have HV := Lib.hid hv1
  clear hRW hv1
  go_wp2
  go_loop [9] (fun i => ∃ k : Nat, k ≤ pat.size ∧ i = .int .i64 k ∧ isPat (pat.data.toList.take k) = true) (fun i => pat.size - (intOf i).toNat)
  case atStart => exact ⟨0, Nat.zero_le _, rfl, rfl⟩
  case round =>
    obtain ⟨k, hk, rfl, hno⟩ := hrel
    by_cases hlt : k < pat.size
    · have hby := byte_at pat k hlt
      obtain ⟨x, hx⟩ : ∃ x, pat[k]'hlt = x := ⟨_, rfl⟩
      rw [hx] at hby
      have hst := isPat_take _ k x hby
      rw [hno, Bool.true_and] at hst
      by_cases e1 : x = 116
      · have d1 : (((x.toNat : Nat) : Int) != 116) = false := u8_eq x 116 e1
        have HS : Hid (isPat (pat.data.toList.take (k + 1)) = true) := Lib.hid (by rw [hst, e1]; rfl)
        clear hst hno hby e1
        go_wp2
        go_round
        case rel => exact ⟨k + 1, by omega, by go_num, HS.out⟩
        case measure => simp [intOf]; omega
      have d1 : (((x.toNat : Nat) : Int) != 116) = true := u8_ne x 116 e1
      by_cases e2 : x = 104
      · have d2 : (((x.toNat : Nat) : Int) != 104) = false := u8_eq x 104 e2
        have HS : Hid (isPat (pat.data.toList.take (k + 1)) = true) := Lib.hid (by rw [hst, e2]; rfl)
        clear hst hno hby e1 e2
        go_wp2
        go_round
        case rel => exact ⟨k + 1, by omega, by go_num, HS.out⟩
        case measure => simp [intOf]; omega
      have d2 : (((x.toNat : Nat) : Int) != 104) = true := u8_ne x 104 e2
      by_cases e3 : x = 110
      · have d3 : (((x.toNat : Nat) : Int) != 110) = false := u8_eq x 110 e3
        have HS : Hid (isPat (pat.data.toList.take (k + 1)) = true) := Lib.hid (by rw [hst, e3]; rfl)
        clear hst hno hby e1 e2 e3
        go_wp2
        go_round
        case rel => exact ⟨k + 1, by omega, by go_num, HS.out⟩
        case measure => simp [intOf]; omega
      have d3 : (((x.toNat : Nat) : Int) != 110) = true := u8_ne x 110 e3
      by_cases e4 : x = 98
      · have d4 : (((x.toNat : Nat) : Int) != 98) = false := u8_eq x 98 e4
        have HS : Hid (isPat (pat.data.toList.take (k + 1)) = true) := Lib.hid (by rw [hst, e4]; rfl)
        clear hst hno hby e1 e2 e3 e4
        go_wp2
        go_round
        case rel => exact ⟨k + 1, by omega, by go_num, HS.out⟩
        case measure => simp [intOf]; omega
      have d4 : (((x.toNat : Nat) : Int) != 98) = true := u8_ne x 98 e4
      by_cases e5 : x = 115
      · have d5 : (((x.toNat : Nat) : Int) != 115) = false := u8_eq x 115 e5
        have HS : Hid (isPat (pat.data.toList.take (k + 1)) = true) := Lib.hid (by rw [hst, e5]; rfl)
        clear hst hno hby e1 e2 e3 e4 e5
        go_wp2
        go_round
        case rel => exact ⟨k + 1, by omega, by go_num, HS.out⟩
        case measure => simp [intOf]; omega
      have d5 : (((x.toNat : Nat) : Int) != 115) = true := u8_ne x 115 e5
      have HF : Hid (checkE s.data.toList word.data.toList pat.data.toList = 2) := Lib.hid (by
        have := isPat_out _ k x hby (by simp [sgB, e1, e2, e3, e4, e5])
        unfold checkE lfitsB
        rw [this, Bool.false_and]
        rfl)
      clear hst hno hby e1 e2 e3 e4 e5
      go_wp2
      go_ret
      exact ⟨by rw [HF.out]; rfl, hb1⟩
    · have hpat : isPat pat.data.toList = true := by
        rw [List.take_of_length_le (by have := HPL.out; omega)] at hno
        exact hno
      clear hno
      cases hf : lfitsB s.data.toList word.data.toList pat.data.toList
      · have HF : Hid (checkE s.data.toList word.data.toList pat.data.toList = 2) := Lib.hid (by
          unfold checkE
          rw [hf]
          rfl)
        unfold lfitsB at hf
        rw [hpat, Bool.true_and] at hf
        cases hi : lineIs s.data.toList
        · clear hf hi hpat
          go_wp2
          go_ret
          exact ⟨by rw [HF.out]; rfl, hb1⟩
        · rw [hi, Bool.true_and] at hf
          have hv1 := HV.out
          generalize lineW s.data.toList = L at hv1 hf
          have hn1 : n1 = L.length := by have := hv1.1; simp [wsV] at this; omega
          by_cases hl : L.length = pat.size + 1
          · rw [HPL.out, decide_eq_true hl, Bool.true_and] at hf
            obtain ⟨w0, ws, rfl⟩ : ∃ w0 ws, L = w0 :: ws := by
              cases L with
              | nil => simp at hl
              | cons a b => exact ⟨a, b, rfl⟩
            have hne : (w0 == word.toList) = false := by
              have h2 : decide (w0 = word.data.toList) = false := hf
              rw [ByteArray.toList_eq]
              simpa using h2
            rw [hl] at hn1
            subst hn1
            obtain ⟨b, o, y, rfl, hbB, hy, hc⟩ := hv1.at_ (k := 0) (by omega)
            obtain rfl : y = .string ⟨w0.toArray⟩ := by simpa [wsV] using hy.symm
            rw [Nat.add_zero] at hc
            clear hv1 hf hl hy hi hpat HV
            go_wp2
            go_ret
            exact ⟨by rw [HF.out]; rfl, hb1⟩
          · have hl2 : (((n1 : Nat) : Int) != ((pat.size : Nat) : Int) + 1) = true := by simp; omega
            clear hv1 hf hl hi hpat hn1 HV
            go_wp2
            go_ret
            exact ⟨by rw [HF.out]; rfl, hb1⟩
      · obtain ⟨_, ws, hwl, hL, _, hsw⟩ := fits_of _ _ _ hf
        have hi : lineIs s.data.toList = true := by
          have h2 := hf
          unfold lfitsB at h2
          simp only [Bool.and_eq_true] at h2
          exact h2.2.1
        have HC : Hid (checkE s.data.toList word.data.toList pat.data.toList = pairE pat.data.toList ws) := Lib.hid (by
          unfold checkE
          rw [hf, if_pos rfl, hL]
          rfl)
        have HM : Hid (∀ w ∈ ws, w.length ≤ 10000) := Lib.hid (by
          intro w hw
          have h1 := tailW_mem ws w hw
          have h2 : s.data.toList.length = word.data.toList.length + (tailW ws).length := by
            conv => lhs; rw [hsw]
            rw [List.length_append]
          have hsl : s.data.toList.length = s.size := by simp
          omega)
        have HP := Lib.hid (isPat_at _ hpat)
        have hv1 := HV.out
        rw [hL] at hv1
        have HW : Hid (ws.length = pat.size) := Lib.hid (by rw [hwl, HPL.out])
        have hn1 : n1 = pat.size + 1 := by have h1 := hv1.1; have h2 := HW.out; simp [wsV] at h1; omega
        subst hn1
        have HU := Lib.hid hv1
        obtain ⟨b, o, y, rfl, hbB, hy, hc⟩ := hv1.at_ (k := 0) (by omega)
        obtain rfl : y = .string word := by simpa [wsV] using hy.symm
        rw [Nat.add_zero] at hc
        have hdd : (word.toList == word.toList) = true := by simp
        clear hv1 hL hsw hwl hf hpat hy HV
        rw [hi]
        clear hi
        go_wp2
        clear hc hdd
        go_loopw [11] (fun iv wr => ∃ k : Nat, k ≤ pat.size ∧ iv = .int .i64 (k : Int) ∧ Hid (pairE pat.data.toList ws = pairE (pat.data.toList.drop k) (ws.drop k)) ∧ ∃ q, wr = W1.drewN q) (fun iv _ => pat.size - (intOf iv).toNat)
        case atStart => exact ⟨0, Nat.zero_le _, rfl, Lib.hid rfl, 0, rfl⟩
        case round =>
          obtain ⟨k2, hk2, rfl, HPE, q, hw⟩ := hrel
          by_cases hlt2 : k2 < pat.size
          · have hby := byte_at pat k2 hlt2
            obtain ⟨x, hx⟩ : ∃ x, pat[k2]'hlt2 = x := ⟨_, rfl⟩
            rw [hx] at hby
            obtain ⟨w, hws⟩ : ∃ w, ws[k2]? = some w := ⟨_, List.getElem?_eq_getElem (by have := HW.out; omega)⟩
            have hwm := HM.out w (List.mem_of_getElem? hws)
            obtain ⟨b2, o2, y, e2, hbB2, hy, hc2⟩ := HU.out.at_ (k := k2 + 1) (by omega)
            cases e2
            obtain rfl : y = .string ⟨w.toArray⟩ := by
              have : (wsV (word.data.toList :: ws))[k2 + 1]? = some (Value.string ⟨w.toArray⟩) := by simp [wsV, hws]
              exact Option.some.inj (hy.symm.trans this)
            have hd1 : wr.cell? ⟨b, o + (k2 + 1), none⟩ = some (.string ⟨w.toArray⟩) := by rw [hw]; exact hc2
            have hSg := fun w0 => refSign_any x (HP.out _ _ hby) ⟨w.toArray⟩ (by show w.toArray.size ≤ 10000; simpa using hwm) w0
            have HX := Lib.hid (pairE_drop _ _ _ _ _ hby hws)
            have hSg2 : ∀ w0 : World, Calls Tryz.prog 18 #[.int .u8 ((x.toNat : Nat) : Int), .string ⟨w.toArray⟩] w0 fun e W' => e = .returned (.int .i64 (signE x w)) ∧ W' = w0 := hSg
            clear hSg
            generalize signE x w = x0 at hSg2 HX
            have HW1 := Lib.hid hw
            have e1 : IntKind.i64.wrap ((k2 : Int) + 1) = (k2 : Int) + 1 := IntWalk.i64_in _ (by omega)
            have e2 : (0 : Int) ≤ (k2 : Int) + 1 := by omega
            have e3 : ((k2 : Int) + 1).toNat = k2 + 1 := by omega
            clear hw hc2 hy hby hws hwm
            go_wp2_with fail
            go_quiet ((go_at_call 18; exact Calls.quiet_of_same (hSg2 _)))
            have HN : Hid (wr.drewN nq = W1.drewN (q + nq)) := Lib.hid (by rw [HW1.out]; simp [World.drewN]; omega)
            revert HN
            generalize wr.drewN nq = w5
            intro HN
            clear e1 e2 e3 hd1 HW1
            by_cases h0 : x0 = 0
            · subst h0
              have HR : Hid (pairE pat.data.toList ws = pairE (pat.data.toList.drop (k2 + 1)) (ws.drop (k2 + 1))) := Lib.hid (by rw [HPE.out, HX.out, if_pos rfl])
              go_wp2
              go_roundw
              case rel => exact ⟨k2 + 1, by omega, by go_num, HR, q + nq, HN.out⟩
              case measure => simp [intOf]; omega
            · have d1 : (x0 != 0) = true := by simpa using h0
              have HR : Hid (checkE s.data.toList word.data.toList pat.data.toList = x0) := Lib.hid (by rw [HC.out, HPE.out, HX.out, if_neg h0])
              have HB : Hid (Below W.heap.size W w5) := Lib.hid (by rw [HN.out]; exact below_drewN hb1 _)
              clear h0
              go_wp2
              go_ret
              exact ⟨by rw [HR.out]; rfl, HB.out⟩
          · have HR : Hid (checkE s.data.toList word.data.toList pat.data.toList = 0) := Lib.hid (by rw [HC.out, HPE.out]; exact pairE_end _ _ _ (by have := HPL.out; omega))
            have HB : Hid (Below W.heap.size W wr) := Lib.hid (by rw [hw]; exact below_drewN hb1 _)
            clear hw
            go_wp2
            go_ret
            exact ⟨by rw [HR.out]; rfl, HB.out⟩

end Go.Proofs.YtpjjmnkiepdllaaGreatDoor
