/-
  The reference's Number.
-/
import Derived.Test.YtpjjmnkiepdllaaGreatDoorNaR
namespace Go.Proofs.YtpjjmnkiepdllaaGreatDoor
open Go.RowKit
set_option linter.unusedVariables false
set_option linter.unusedSimpArgs false

set_option maxRecDepth 100000 in
set_option maxHeartbeats 4000000 in
theorem refNum7_any (s : ByteArray) (hs : s.size ≤ 10000) (W : World) :
    Calls Tryz.prog 30 #[.string s] W fun e W' => e = .returned (.tuple #[.int .u64 ((numV s.data.toList : Nat) : Int), .int .i64 (numE s.data.toList)]) ∧ W' = W := by
  have hL := ByteArray.toList_eq s
  have hlen : s.data.toList.length = s.size := by simp
  have hon := fun w => refOnly_any s digT hs (by decide) w
  rw [allIn_dig] at hon
  by_cases h0 : 0 < s.size
  · have e0 : (s.toList == []) = false := by rw [hL]; simpa using full_text s h0
    have hby := byte_at s 0 h0
    obtain ⟨x, hx⟩ : ∃ x, s[0]'h0 = x := ⟨_, rfl⟩
    rw [hx] at hby
    have hg : s.data.toList.getD 0 0 = x := by simp [List.getD, hby]
    cases hd : allR digR s.data.toList
    · have hi : isNumB s.data.toList = false := by
        cases hi : isNumB s.data.toList
        · rfl
        · rw [(isNum_digits _ hi).2] at hd
          cases hd
      have h1 : Hid (numV s.data.toList = 0 ∧ numE s.data.toList = 2) := Lib.hid ⟨by unfold numV; rw [hi]; rfl, by unfold numE; rw [hi]; rfl⟩
      rw [hd] at hon
      clear hi hd hby hg hL hlen
      go_enter Tryz.func30, Tryz.ntmps30
      go_wp2_with fail
      refine (hon _).mono ?_
      rintro e W1 ⟨rfl, rfl⟩
      go_wp2_with fail
      go_ret2
      exact ⟨by rw [h1.out.1, h1.out.2]; rfl, rfl⟩
    · rw [hd] at hon
      by_cases hz : 1 < s.size ∧ x = 48
      · have hi : isNumB s.data.toList = false := by
          unfold isNumB
          rw [hg, decide_eq_false (show ¬ x ≠ 48 by simpa using hz.2), decide_eq_false (by intro e; rw [e] at hlen; simp at hlen; omega)]
          simp
        have h1 : Hid (numV s.data.toList = 0 ∧ numE s.data.toList = 2) := Lib.hid ⟨by unfold numV; rw [hi]; rfl, by unfold numE; rw [hi]; rfl⟩
        have d1 : decide ((1 : Int) < (s.size : Int)) = true := decide_eq_true (by omega)
        have d2 : (((x.toNat : Nat) : Int) == 48) = true := by rw [hz.2]; rfl
        clear hi hd hby hg hL hlen hz
        go_enter Tryz.func30, Tryz.ntmps30
        go_wp2_with fail
        refine (hon _).mono ?_
        rintro e W1 ⟨rfl, rfl⟩
        go_wp2_with fail
        go_ret2
        exact ⟨by rw [h1.out.1, h1.out.2]; rfl, rfl⟩
      · have hi : isNumB s.data.toList = true := by
          unfold isNumB
          by_cases hx48 : x = 48
          · have h1s : s.size = 1 := by
              have : ¬ 1 < s.size := fun h => hz ⟨h, hx48⟩
              omega
            have : s.data.toList = [48] := by
              apply List.ext_getElem?
              intro j
              cases j with
              | zero => rw [hby, hx48]; rfl
              | succ j => rw [List.getElem?_eq_none (by omega)]; simp
            rw [decide_eq_true this]
            rfl
          · rw [hg, decide_eq_true (show x ≠ 48 from hx48), hd, decide_eq_true (show 1 ≤ s.data.toList.length by omega)]
            simp
        have hd12 : ∃ q : Bool, decide ((1 : Int) < (s.size : Int)) = q ∧ (q = true → (((x.toNat : Nat) : Int) == 48) = false) := by
          refine ⟨_, rfl, fun h => ?_⟩
          have h1' : (1 : Int) < (s.size : Int) := by simpa using h
          have h1 : 1 < s.size := by omega
          have hne : x ≠ 48 := fun e => hz ⟨h1, e⟩
          have : x.toNat ≠ 48 := fun e => hne (UInt8.toNat_inj.1 e)
          simp
          omega
        obtain ⟨q, hq1, hq2⟩ := hd12
        obtain ⟨ms1, ms2, ms3⟩ := most_spell
        by_cases hM : spell 0 s.data.toList ≤ 18446744073709551615
        · have h1 : Hid (numV s.data.toList = spell 0 s.data.toList ∧ numE s.data.toList = 0) := Lib.hid ⟨by unfold numV; rw [hi, if_pos rfl, if_pos hM], by unfold numE; rw [hi, if_pos rfl, if_pos hM]⟩
          have h20 : s.size ≤ 20 := by
            by_cases h : s.size ≤ 20
            · exact h
            · exact absurd hM (long_spell _ hi (by omega))
          have hdd1 : decide ((20 : Int) < (s.size : Int)) = false := decide_eq_false (by omega)
          have hpre : ∃ b20 : Bool, ((s.size : Int) == 20) = b20 ∧ (b20 = true → (Op.bytesLess s.toList [49, 56, 52, 52, 54, 55, 52, 52, 48, 55, 51, 55, 48, 57, 53, 53, 49, 54, 49, 53] || s.toList == [49, 56, 52, 52, 54, 55, 52, 52, 48, 55, 51, 55, 48, 57, 53, 53, 49, 54, 49, 53]) = true) := by
            refine ⟨_, rfl, fun h => ?_⟩
            have h2 : (s.size : Int) = 20 := by simpa using h
            have hl := less_spell s.data.toList mostT.data.toList 0 (by omega) hd ms2
            rw [hL]
            rw [ms1] at hl
            show (Op.bytesLess s.data.toList mostT.data.toList || s.data.toList == mostT.data.toList) = true
            rw [hl]
            by_cases he : spell 0 s.data.toList = 18446744073709551615
            · have := spell_inj _ _ 0 (show s.data.toList.length = mostT.data.toList.length by omega) hd ms2 (by rw [he, ms1])
              rw [this]
              simp
            · rw [decide_eq_true (by omega)]
              rfl
          obtain ⟨b20, hb1, hb2⟩ := hpre
          have HD := Lib.hid hd
          have HM := Lib.hid hM
          clear hi hby hg hL hlen hM hd ms1 ms2 ms3 hz h20
          go_enter Tryz.func30, Tryz.ntmps30
          go_wp2_with fail
          refine (hon _).mono ?_
          rintro e W1 ⟨rfl, rfl⟩
          clear hon
          cases q <;> cases b20
          all_goals simp only [forall_const, true_implies, false_implies, reduceCtorEq] at hq2 hb2
          all_goals go_wp2_with fail
          all_goals
            clear hb1 hb2 hq1 hq2
            go_loop [5, 6] (fun nv i => ∃ k : Nat, k ≤ s.size ∧ i = .int .i64 ((k : Nat) : Int) ∧ nv = .int .u64 ((spell 0 (s.data.toList.take k) : Nat) : Int)) (fun _ i => s.size - (intOf i).toNat)
            case atStart => exact ⟨0, Nat.zero_le _, rfl, rfl⟩
            case round =>
              obtain ⟨k, hk, rfl, rfl⟩ := hrel
              by_cases hlt : k < s.size
              · have hby := byte_at s k hlt
                obtain ⟨y, hy⟩ : ∃ y, s[k]'hlt = y := ⟨_, rfl⟩
                rw [hy] at hby
                have hdy := digR_of y (by have h := HD.out; unfold allR at h; rw [List.all_eq_true] at h; exact h y (List.mem_of_getElem? hby))
                have hst := spell_take _ k y hby
                have hle := Nat.le_trans (spell_take_le s.data.toList (k + 1)) HM.out
                obtain ⟨p, hp⟩ : ∃ p, spell 0 (s.data.toList.take k) = p := ⟨_, rfl⟩
                obtain ⟨nx, hnx⟩ : ∃ nx, spell 0 (s.data.toList.take (k + 1)) = nx := ⟨_, rfl⟩
                obtain ⟨d, hd⟩ : ∃ d, y.toNat % 16 = d := ⟨_, rfl⟩
                obtain ⟨p10, hp10⟩ : ∃ p10, p * 10 = p10 := ⟨_, rfl⟩
                rw [hnx, hp, hd, hp10] at hst
                rw [hnx] at hle
                have r1 : IntKind.u64.wrap (10 * (p : Int)) = (p10 : Int) := by rw [IntKind.wrap_u64]; omega
                have r2 : IntKind.u8.wrap (((y.toNat : Nat) : Int) - 48) = (d : Int) := by rw [IntKind.wrap_u8]; omega
                have r3 : IntKind.u64.wrap (d : Int) = (d : Int) := by rw [IntKind.wrap_u64]; omega
                have r4 : IntKind.u64.wrap ((p10 : Int) + (d : Int)) = (nx : Int) := by rw [IntKind.wrap_u64]; omega
                have r6 : (d : Int) % 256 = (d : Int) := by omega
                have r5 : (((y.toNat : Nat) : Int) - 48) = (d : Int) := by omega
                have HNX := Lib.hid hnx
                rw [hp]
                clear hp hnx hd hp10 hst hle hdy hby
                go_wp2
                go_round
                case rel => exact ⟨k + 1, by omega, by go_num, by rw [HNX.out]⟩
                case measure => simp [intOf]; omega
              · have HE : Hid (spell 0 (s.data.toList.take k) = spell 0 s.data.toList) := Lib.hid (by rw [List.take_of_length_le (by simp; omega)])
                generalize spell 0 (s.data.toList.take k) = q at HE ⊢
                go_wp2
                go_ret2
                exact ⟨by rw [h1.out.1, h1.out.2, HE.out]; rfl, rfl⟩
        · have h1 : Hid (numV s.data.toList = 0 ∧ numE s.data.toList = 6) := Lib.hid ⟨by unfold numV; rw [hi, if_pos rfl, if_neg hM], by unfold numE; rw [hi, if_pos rfl, if_neg hM]⟩
          have h20 : 20 ≤ s.size := by
            by_cases h : 20 ≤ s.size
            · exact h
            · exact absurd (short_spell _ hd (by omega)) hM
          have hpre : ∃ b20 : Bool, decide ((20 : Int) < (s.size : Int)) = b20 ∧ (b20 = false → ((s.size : Int) == 20) = true ∧ (Op.bytesLess s.toList [49, 56, 52, 52, 54, 55, 52, 52, 48, 55, 51, 55, 48, 57, 53, 53, 49, 54, 49, 53] || s.toList == [49, 56, 52, 52, 54, 55, 52, 52, 48, 55, 51, 55, 48, 57, 53, 53, 49, 54, 49, 53]) = false) := by
            refine ⟨_, rfl, fun h => ?_⟩
            have h2 : ¬ (20 : Int) < (s.size : Int) := by simpa using h
            have hs20 : s.size = 20 := by omega
            refine ⟨by simp; omega, ?_⟩
            have hl := less_spell s.data.toList mostT.data.toList 0 (by omega) hd ms2
            rw [hL]
            rw [ms1] at hl
            show (Op.bytesLess s.data.toList mostT.data.toList || s.data.toList == mostT.data.toList) = false
            rw [hl, decide_eq_false (by omega), Bool.false_or]
            have hne : s.data.toList ≠ mostT.data.toList := fun e => by rw [e, ms1] at hM; omega
            simpa using hne
          obtain ⟨b20, hb1, hb2⟩ := hpre
          clear hi hby hg hL hlen hM hd ms1 ms2 ms3 hz h20
          go_enter Tryz.func30, Tryz.ntmps30
          go_wp2_with fail
          refine (hon _).mono ?_
          rintro e W1 ⟨rfl, rfl⟩
          clear hon
          cases q
          · cases b20
            · obtain ⟨hb3, hb4⟩ := hb2 rfl
              clear hb2 hq2
              go_wp2_with fail
              go_ret2
              exact ⟨by rw [h1.out.1, h1.out.2]; rfl, rfl⟩
            · clear hb2 hq2
              go_wp2_with fail
              go_ret2
              exact ⟨by rw [h1.out.1, h1.out.2]; rfl, rfl⟩
          · have hq3 := hq2 rfl
            cases b20
            · obtain ⟨hb3, hb4⟩ := hb2 rfl
              clear hb2 hq2
              go_wp2_with fail
              go_ret2
              exact ⟨by rw [h1.out.1, h1.out.2]; rfl, rfl⟩
            · clear hb2 hq2
              go_wp2_with fail
              go_ret2
              exact ⟨by rw [h1.out.1, h1.out.2]; rfl, rfl⟩
  · have e0 : (s.toList == []) = true := by rw [hL, empty_text s h0]; rfl
    have hi : isNumB s.data.toList = false := by rw [empty_text s h0]; rfl
    have h1 : Hid (numV s.data.toList = 0 ∧ numE s.data.toList = 2) := Lib.hid ⟨by unfold numV; rw [hi]; rfl, by unfold numE; rw [hi]; rfl⟩
    clear hi hL hlen hon
    go_enter Tryz.func30, Tryz.ntmps30
    go_wp2_with fail
    go_ret2
    exact ⟨by rw [h1.out.1, h1.out.2]; rfl, rfl⟩

end Go.Proofs.YtpjjmnkiepdllaaGreatDoor
