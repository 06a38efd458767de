/-
  The reference's names of segments.
-/
import Derived.Test.YtgococpbhbcpmaaDoorSgN
import Derived.Laws.Concat
import Derived.Laws.DeepStrings4
namespace Go.Proofs.YtgococpbhbcpmaaDoor
open Go.RowKit
set_option linter.unusedVariables false
set_option linter.unusedSimpArgs false

theorem hd16_slice {P : Program} (w : World) (t : TypeId) (k k' : IntKind) (d : Nat) (i j : Int) (hi : i = (d : Int)) (hj : j = (d : Int) + 1) (hd : d < 16) (h : P.underlying t = some .string) :
    (Instr.slice t (.string ⟨#[48, 49, 50, 51, 52, 53, 54, 55, 56, 57, 97, 98, 99, 100, 101, 102]⟩) (some (.int k i)) (some (.int k' j)) none).run P w = .ok (.string ⟨[hd16 d].toArray⟩) w := by
  subst hi; subst hj
  rw [run_slice_string_if w t _ k k' _ _ h, if_pos ⟨by omega, by show _ ≤ ((16 : Nat) : Int); omega⟩, if_pos ⟨by omega, by omega⟩]
  congr 1
  have e : ∀ d : Fin 16, (⟨#[48, 49, 50, 51, 52, 53, 54, 55, 56, 57, 97, 98, 99, 100, 101, 102]⟩ : ByteArray).extract d.val (d.val + 1) = ⟨[hd16 d.val].toArray⟩ := by decide +kernel
  have := e ⟨d, hd⟩
  rw [show ((d : Int)).toNat = d by omega, show ((d : Int) + 1).toNat = d + 1 by omega]
  exact congrArg Value.string this
theorem add_txts {P : Program} (x y z : List UInt8) (hz : z = x ++ y) (hx : (x.length : Int) ≤ 8388608) (hy : (y.length : Int) ≤ 8388608) (w : World) :
    (Op.stringOp .add ⟨x.toArray⟩ ⟨y.toArray⟩).run P w = .ok (.string ⟨z.toArray⟩) w := by
  subst hz
  exact run_string_add_lists w x y hx hy

set_option maxRecDepth 100000 in
set_option maxHeartbeats 2000000 in
theorem refSegName_any (n : Nat) (hn : n < 18446744073709551616) (W : World) :
    Calls Tryd.prog 9 #[.int .u64 (n : Nat)] W fun e W' => e = .returned (.string ⟨(nameL n).toArray⟩) ∧ W' = W := by
  go_enter Tryd.func9, Tryd.ntmps9
  go_wp2_with fail
  go_loopw [0, 3, 4] (fun q s i wr => ∃ (k m : Nat) (L : List UInt8), k ≤ 16 ∧ i = .int .i64 k ∧ q = .int .u64 m ∧ m = n / 16 ^ k ∧ L = hexL k n ∧ s = .string ⟨L.toArray⟩ ∧ wr = W) (fun _ _ i _ => 16 - (intOf i).toNat)
  case atStart => exact ⟨0, n, [], by omega, rfl, rfl, by simp, rfl, rfl, rfl⟩
  case round =>
    obtain ⟨k, m, L, hk, rfl, rfl, hm, hL, rfl, rfl⟩ := hrel
    have hLl : L.length = k := by rw [hL, hexL_len]
    by_cases hlt : k < 16
    · obtain ⟨d, hd⟩ : ∃ d, m % 16 = d := ⟨_, rfl⟩
      obtain ⟨m2, hm2⟩ : ∃ d, m / 16 = d := ⟨_, rfl⟩
      have hdl : d < 16 := by omega
      have hmm : m < 18446744073709551616 := by rw [hm]; exact Nat.lt_of_le_of_lt (Nat.div_le_self _ _) hn
      have H := Lib.hid (show m2 = n / 16 ^ (k + 1) ∧ hd16 d :: L = hexL (k + 1) n by
        refine ⟨by rw [← hm2, hm, Nat.div_div_eq_div_mul, Nat.pow_succ], ?_⟩
        show _ = hd16 (n / 16 ^ k % 16) :: hexL k n
        rw [← hm, hd, hL])
      have e1 : (m : Int) % 16 = (d : Int) := by omega
      have e2 : (m : Int) / 16 = (m2 : Int) := by omega
      have e3 : IntKind.u64.wrap ((d : Int) + 1) = (d : Int) + 1 := by rw [IntKind.wrap_u64]; omega
      have e4 : IntKind.u64.wrap (d : Int) = (d : Int) := by rw [IntKind.wrap_u64]; omega
      have e5 : IntKind.u64.wrap (m2 : Int) = (m2 : Int) := by rw [IntKind.wrap_u64]; omega
      have hsl0 := fun w => hd16_slice (P := Tryd.prog) w 9 .u64 .u64 d (d : Int) ((d : Int) + 1) rfl rfl (by omega) Tryd.underlying9
      obtain ⟨y, hy⟩ : ∃ y, hd16 d = y := ⟨_, rfl⟩
      rw [hy] at H
      have hsl : ∀ w, (Instr.slice 9 (.string ⟨#[48, 49, 50, 51, 52, 53, 54, 55, 56, 57, 97, 98, 99, 100, 101, 102]⟩) (some (.int .u64 (d : Int))) (some (.int .u64 ((d : Int) + 1))) none).run Tryd.prog w = .ok (.string ⟨#[y]⟩) w := by
        intro w; rw [hsl0 w, hy]
      obtain ⟨L2, hL2⟩ : ∃ L2, y :: L = L2 := ⟨_, rfl⟩
      have hadd : ∀ w, (Op.stringOp .add ⟨#[y]⟩ ⟨L.toArray⟩).run Tryd.prog w = .ok (.string ⟨L2.toArray⟩) w := fun w => add_txts (P := Tryd.prog) [y] L L2 hL2.symm (by simp) (by omega) w
      rw [hL2] at H
      clear hL2 hsl0 hy
      have hkl : (k : Int) < 16 := by omega
      clear hm hL hd hm2 hLl hlt
      go_wp2_with fail
      go_roundw
      case rel => exact ⟨k + 1, m2, L2, by omega, by go_num, rfl, H.out.1, H.out.2, rfl, trivial⟩
      case measure => simp [intOf]; omega
    · have hk16 : k = 16 := by omega
      subst hk16
      have hadd : ∀ w, (Op.stringOp .add ⟨#[119]⟩ ⟨L.toArray⟩).run Tryd.prog w = .ok (.string ⟨(nameL n).toArray⟩) w := fun w => add_txts (P := Tryd.prog) [119] L (nameL n) (by rw [hL]; rfl) (by simp) (by omega) w
      clear hm hL hLl
      go_wp2_with fail
      go_ret
      exact ⟨rfl, rfl⟩

theorem str_at {P : Program} (s : ByteArray) (t : TypeId) (h : P.underlying t = some .string) (k : Nat) (c : UInt8) (hc : s.data.toList[k]? = some c) (w : World) :
    (Instr.index t (.string s) (.int .i64 (k : Nat))).run P w = .ok (.int .u8 ((c.toNat : Nat) : Int)) w := by
  have hk : k < s.size := by
    have := (List.getElem?_eq_some_iff.1 hc).1
    simpa using this
  rw [run_index_string w t s .i64 _ h, dif_pos ⟨by omega, by omega⟩]
  have e : s[k]'hk = c := by
    have := (List.getElem?_eq_some_iff.1 hc).2
    rw [Array.getElem_toList] at this
    exact this
  simp only [Int.toNat_natCast, e]
theorem val_take (l : List UInt8) (k : Nat) (c : UInt8) (h : l[k]? = some c) : valS (l.take (k + 1)) = stepV (valS (l.take k)) c := by
  unfold valS
  rw [List.take_add_one, h]
  simp

set_option maxRecDepth 100000 in
set_option maxHeartbeats 4000000 in
theorem refSegNumber_any (s : ByteArray) (hs : s.size ≤ 1000000) (W : World) :
    Calls Tryd.prog 8 #[.string s] W fun e W' => e = .returned (.tuple #[.int .u64 ((numC s.data.toList).1 : Nat), .bool (numC s.data.toList).2]) ∧ W' = W := by
  have hln : s.data.toList.length = s.size := by simp
  by_cases h17 : s.size = 17
  · have hq : ((s.size : Int) == 17) = true := by rw [h17]; rfl
    have HC := Lib.hid (show numC s.data.toList = (valS (s.data.toList.drop 1), decide (nameL (valS (s.data.toList.drop 1)) = s.data.toList)) by unfold numC; rw [if_pos (by omega)])
    have hqn : ((s.size : Int) != 17) = false := by rw [h17]; rfl
    go_enter Tryd.func8, Tryd.ntmps8
    go_wp2_with fail
    go_loopw [4, 5] (fun v i wr => ∃ k m : Nat, k ≤ 16 ∧ i = .int .i64 (k + 1 : Nat) ∧ v = .int .u64 m ∧ m = valS ((s.data.toList.drop 1).take k) ∧ wr = W) (fun _ i _ => 17 - (intOf i).toNat)
    case atStart => exact ⟨0, 0, by omega, rfl, rfl, rfl, rfl⟩
    case round =>
      obtain ⟨k, m, hk, rfl, rfl, hm, rfl⟩ := hrel
      by_cases hlt : k < 16
      · obtain ⟨c, hc⟩ : ∃ c, s.data.toList[k + 1]? = some c := ⟨_, List.getElem?_eq_getElem (by omega)⟩
        have hcd : (s.data.toList.drop 1)[k]? = some c := by rw [List.getElem?_drop, Nat.add_comm]; exact hc
        have hx := str_at (P := Tryd.prog) s 9 Tryd.underlying9 (k + 1) c hc
        have hv := val_take _ k c hcd
        rw [← hm] at hv
        have hb := val_lt ((s.data.toList.drop 1).take k) 0
        have hb2 : ((s.data.toList.drop 1).take k).length = k := by rw [List.length_take, List.length_drop]; omega
        have hpw : 16 ^ k ≤ 16 ^ 15 := Nat.pow_le_pow_right (by decide) (by omega)
        rw [show (16 : Nat) ^ 15 = 1152921504606846976 by decide] at hpw
        have hm2 : m < 1152921504606846976 := by
          rw [hb2] at hb
          unfold valS at hm
          omega
        have hcl := c.toNat_lt
        obtain ⟨j, hj⟩ : ∃ j, k + 1 = j := ⟨_, rfl⟩
        rw [hj] at hx hv ⊢
        have hjl : (j : Int) < 17 := by omega
        have HJ := Lib.hid (show j = k + 1 ∧ k < 16 from ⟨hj.symm, hlt⟩)
        unfold stepV decR16 lowR16 at hv
        obtain ⟨x, hxx⟩ : ∃ x, c.toNat = x := ⟨_, rfl⟩
        rw [hxx] at hx hv hcl
        have hmul : IntKind.u64.wrap (16 * (m : Int)) = ((16 * m : Nat) : Int) := by rw [IntKind.wrap_u64]; omega
        obtain ⟨m16, hm16⟩ : ∃ z, 16 * m = z := ⟨_, rfl⟩
        rw [hm16] at hmul hv
        clear hc hcd hb hb2 hpw hm hj hlt hxx
        by_cases hd : 48 ≤ x ∧ x ≤ 57
        · rw [if_pos (decide_eq_true hd)] at hv
          obtain ⟨d, hdd⟩ : ∃ d, x % 16 = d := ⟨_, rfl⟩
          rw [hdd] at hv
          have e1 : IntKind.u8.wrap ((x : Int) - 48) = (d : Int) := by rw [IntKind.wrap_u8]; omega
          have e2 : IntKind.u64.wrap (d : Int) = (d : Int) := by rw [IntKind.wrap_u64]; omega
          have e3 : IntKind.u64.wrap ((m16 : Int) + (d : Int)) = ((m16 + d : Nat) : Int) := by rw [IntKind.wrap_u64]; omega
          obtain ⟨m3, hm3⟩ : ∃ z, m16 + d = z := ⟨_, rfl⟩
          rw [hm3] at hv e3
          have HV := Lib.hid hv
          have t1 : (48 : Int) ≤ (x : Int) := by omega
          have t2 : (x : Int) ≤ 57 := by omega
          clear hv hm3 hm16 hdd hd
          go_wp2_with fail
          go_roundw
          case rel => exact ⟨j, m3, by have := HJ.out; omega, by go_num, rfl, HV.out.symm, trivial⟩
          case measure => have := HJ.out; simp [intOf]; omega
        · rw [if_neg (by rw [decide_eq_false hd]; decide)] at hv
          by_cases hh : 97 ≤ x ∧ x ≤ 102
          · rw [if_pos (decide_eq_true hh)] at hv
            obtain ⟨d, hdd⟩ : ∃ d, x - 97 = d := ⟨_, rfl⟩
            have e1 : IntKind.u8.wrap ((x : Int) - 97) = (d : Int) := by rw [IntKind.wrap_u8]; omega
            have e2 : IntKind.u64.wrap (d : Int) = (d : Int) := by rw [IntKind.wrap_u64]; omega
            have e3 : IntKind.u64.wrap ((m16 : Int) + (d : Int)) = ((m16 + d : Nat) : Int) := by rw [IntKind.wrap_u64]; omega
            obtain ⟨m3, hm3⟩ : ∃ z, m16 + d = z := ⟨_, rfl⟩
            rw [hm3] at e3
            have e4 : IntKind.u64.wrap ((m3 : Int) + 10) = ((m3 + 10 : Nat) : Int) := by rw [IntKind.wrap_u64]; omega
            obtain ⟨m4, hm4⟩ : ∃ z, m3 + 10 = z := ⟨_, rfl⟩
            rw [hm4] at e4
            have HV := Lib.hid (show valS (List.take j (List.drop 1 s.data.toList)) = m4 by rw [hv]; omega)
            have t1 : (97 : Int) ≤ (x : Int) := by omega
            have t2 : (x : Int) ≤ 102 := by omega
            have t3 : (48 : Int) ≤ (x : Int) := by omega
            have t4 : ¬ (x : Int) ≤ 57 := by omega
            clear hv hm3 hm4 hm16 hdd hh hd
            go_wp2_with fail
            go_roundw
            case rel => exact ⟨j, m4, by have := HJ.out; omega, by go_num, rfl, HV.out.symm, trivial⟩
            case measure => have := HJ.out; simp [intOf]; omega
          · rw [if_neg (by rw [decide_eq_false hh]; decide)] at hv
            have HV := Lib.hid hv
            have hcase : ¬ (48 : Int) ≤ (x : Int) ∨ ((48 : Int) ≤ (x : Int) ∧ ¬ (x : Int) ≤ 57 ∧ ¬ (97 : Int) ≤ (x : Int)) ∨ ((48 : Int) ≤ (x : Int) ∧ ¬ (x : Int) ≤ 57 ∧ (97 : Int) ≤ (x : Int) ∧ ¬ (x : Int) ≤ 102) := by omega
            clear hv hm16 hh hd
            rcases hcase with t1 | ⟨t1, t2, t3⟩ | ⟨t1, t2, t3, t4⟩
            · have t5 : ¬ (97 : Int) ≤ (x : Int) := by omega
              go_wp2_with fail
              go_roundw
              case rel => exact ⟨j, m, by have := HJ.out; omega, by go_num, rfl, HV.out.symm, trivial⟩
              case measure => have := HJ.out; simp [intOf]; omega
            · go_wp2_with fail
              go_roundw
              case rel => exact ⟨j, m, by have := HJ.out; omega, by go_num, rfl, HV.out.symm, trivial⟩
              case measure => have := HJ.out; simp [intOf]; omega
            · go_wp2_with fail
              go_roundw
              case rel => exact ⟨j, m, by have := HJ.out; omega, by go_num, rfl, HV.out.symm, trivial⟩
              case measure => have := HJ.out; simp [intOf]; omega
      · have hk16 : k = 16 := by omega
        subst hk16
        rw [List.take_of_length_le (by rw [List.length_drop]; omega)] at hm
        rw [← hm] at HC
        have hml : m < 18446744073709551616 := by
          have hb := val_lt (s.data.toList.drop 1) 0
          rw [List.length_drop, hln, h17, show (16 : Nat) ^ (17 - 1) = 18446744073709551616 by decide] at hb
          unfold valS at hm
          omega
        have hN := fun w => refSegName_any m hml w
        have hL := ByteArray.toList_eq s
        have heq : (nameL m == s.toList) = decide (nameL m = s.data.toList) := by
          rw [hL]
          exact Bool.eq_iff_iff.2 (by simp)
        obtain ⟨b, hb⟩ : ∃ b, decide (nameL m = s.data.toList) = b := ⟨_, rfl⟩
        rw [hb] at heq HC
        clear hm hln h17 hL hb
        go_wp2_with (go_at_call 9; refine (hN _).mono ?_; rintro e w2 ⟨rfl, rfl⟩)
        go_ret2
        exact ⟨by rw [HC.out]; rfl, rfl⟩
  · have HC := Lib.hid (show numC s.data.toList = (0, false) by unfold numC; rw [if_neg (by omega)])
    have hqn : ((s.size : Int) != 17) = true := by simp; omega
    clear h17
    go_enter Tryd.func8, Tryd.ntmps8
    go_wp2
    go_ret2
    exact ⟨by rw [HC.out]; rfl, rfl⟩

end Go.Proofs.YtgococpbhbcpmaaDoor
