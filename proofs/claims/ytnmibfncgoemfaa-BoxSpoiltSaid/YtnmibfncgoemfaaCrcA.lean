/-
  Walks over package crc and its reference: afterByte, More, Sum, Seal, Open; the reference's Sum and Seal.
-/
import Derived.Test.YtnmibfncgoemfaaCrcM
namespace Go.Proofs.Ytnmibfncgoemfaa
open Go.RowKit
set_option linter.unusedVariables false
set_option linter.unusedSimpArgs false

set_option maxHeartbeats 1000000 in
theorem afterByte_any (r b : Nat) (hr : r < 4294967296) (hb : b < 256) (W : World) :
    Calls Try.prog 38 #[.int .u32 r, .int .u8 b] W fun e W' => e = .returned (.int .u32 (stepN 8 (r ^^^ b) : Nat)) ∧ W = W' := by
  have hx : bits .xor .u32 (r : Int) (b : Int) = ((r ^^^ b : Nat) : Int) := u32_xor_nat r b hr (by omega)
  have hlt : r ^^^ b < 4294967296 := Nat.xor_lt_two_pow (n := 32) hr (by omega)
  generalize r ^^^ b = x at hx hlt ⊢
  go_enter Try.func38, Try.ntmps38
  go_wp2_with fail
  go_loop [0, 5, 10] (fun rs _ i => ∃ k : Nat, k ≤ 8 ∧ i = .int .i64 k ∧ rs = .int .u32 ((stepN k x : Nat) : Int))
    (fun _ _ i => 8 - (intOf i).toNat)
  case atStart => exact ⟨0, by omega, rfl, rfl⟩
  case round =>
    obtain ⟨k, hk, rfl, rfl⟩ := hrel
    have hy : stepN k x < 4294967296 := stepN_lt k hlt
    have HS := Lib.hid (show stepN (k + 1) x = stepC (stepN k x) from rfl)
    have HX := Lib.hid (show stepN 8 x = stepN 8 x from rfl)
    by_cases h8 : k < 8
    · generalize hyy : stepN k x = y at hy HS ⊢
      clear hyy
      have hand : bits .and .u32 (y : Int) 1 = ((y % 2 : Nat) : Int) := by
        rw [← Nat.and_one_is_mod]; exact u32_and_nat y 1 hy (by decide)
      have hxo : bits .xor .u32 ((y : Int) / 2) 2197175160 = ((y / 2 ^^^ 2197175160 : Nat) : Int) := u32_xor_nat (y / 2) 2197175160 (by omega) (by decide)
      have hsh : (y : Int) / 2 ^ 1 = ((y / 2 : Nat) : Int) := by omega
      by_cases hodd : y % 2 = 1
      · rw [hodd] at hand
        have HC := Lib.hid (show stepC y = y / 2 ^^^ 2197175160 by unfold stepC; rw [if_pos hodd])
        clear hodd
        go_wp2
        go_round
        case rel => exact ⟨k + 1, by omega, by go_num, by rw [HS.out, HC.out]⟩
        case measure => simp [intOf]; omega
      · have h0 : y % 2 = 0 := by omega
        rw [h0] at hand
        have HC := Lib.hid (show stepC y = y / 2 by unfold stepC; rw [if_neg hodd])
        clear hodd h0
        go_wp2
        go_round
        case rel => exact ⟨k + 1, by omega, by go_num, by rw [HS.out, HC.out]; rfl⟩
        case measure => simp [intOf]; omega
    · obtain rfl : k = 8 := by omega
      go_wp2
      go_ret
      exact ⟨rfl, rfl⟩

theorem not_u32 (s : Nat) (hs : s < 4294967296) : bits .xor .u32 IntKind.u32.max (s : Int) = ((4294967295 - s : Nat) : Int) := by
  rw [sub_xor s hs, Nat.xor_comm]
  exact u32_xor_nat 4294967295 s (by decide) hs

/-- A sum that goes on. -/
def moreC (s : Nat) (l : List UInt8) : Nat := 4294967295 - crcReg (4294967295 - s) l
theorem moreC_le (s : Nat) (l : List UInt8) : moreC s l ≤ 4294967295 := by unfold moreC; omega

set_option maxHeartbeats 1000000 in
theorem more_any (s : Nat) (hs : s < 4294967296) (A : Option Addr) (n c : Nat) (l : List UInt8) (B : Nat) (W : World) (hl : Byt W B A n l) (hn : n ≤ 140737488355328) :
    Calls Try.prog 36 #[.int .u32 s, .slice A n c] W fun e W' => e = .returned (.int .u32 (moreC s l : Nat)) ∧ W = W' := by
  have HM := Lib.hid (show moreC s l = 4294967295 - crcReg (4294967295 - s) l from rfl)
  generalize moreC s l = M at HM ⊢
  go_enter Try.func36, Try.ntmps36
  go_wp2_with fail
  go_loop [5, 7, 12] (fun rs _ i => ∃ k : Nat, k ≤ n ∧ i = .int .i64 k ∧ rs = .int .u32 ((crcReg (4294967295 - s) (l.take k) : Nat) : Int))
    (fun _ _ i => n - (intOf i).toNat)
  case atStart => exact ⟨0, by omega, rfl, by rw [List.take_zero, not_u32 s hs]; rfl⟩
  case round =>
    obtain ⟨k, hk, rfl, rfl⟩ := hrel
    have hr : crcReg (4294967295 - s) (l.take k) < 4294967296 := crcReg_lt _ (by omega)
    by_cases hlt : k < n
    · obtain ⟨b, o, x, rfl, _, hx, hc⟩ := hl.at_ hlt
      have hx2 : x.toNat < 256 := x.toNat_lt
      have HS := Lib.hid (show crcReg (4294967295 - s) (l.take (k + 1)) = stepN 8 (crcReg (4294967295 - s) (l.take k) ^^^ x.toNat) by
        rw [List.take_add_one, hx]; exact crcReg_snoc _ _ _)
      generalize crcReg (4294967295 - s) (l.take k) = r at hr HS ⊢
      generalize x.toNat = xt at hc hx2 HS
      go_wp2_with (go_at_call 38; refine (afterByte_any r xt hr hx2 _).mono ?_; rintro e w' ⟨rfl, rfl⟩)
      go_round
      case rel => exact ⟨k + 1, by omega, by go_num, by rw [HS.out]⟩
      case measure => simp [intOf]; omega
    · have hkn : k = n := by omega
      have HT := Lib.hid (show crcReg (4294967295 - s) (l.take k) = crcReg (4294967295 - s) l by rw [List.take_of_length_le (by rw [hl.1]; omega)])
      generalize crcReg (4294967295 - s) (l.take k) = r at hr HT ⊢
      go_wp2
      go_ret
      refine ⟨?_, rfl⟩
      rw [HM.out, ← HT.out]
      rw [not_u32 r hr]; rfl

theorem crcSum_more (l : List UInt8) : crcSum l = moreC 0 l := rfl

set_option maxHeartbeats 1000000 in
theorem sum_any (A : Option Addr) (n c : Nat) (l : List UInt8) (B : Nat) (W : World) (hl : Byt W B A n l) (hn : n ≤ 140737488355328) :
    Calls Try.prog 28 #[.slice A n c] W fun e W' => e = .returned (.int .u32 (crcSum l : Nat)) ∧ W = W' := by
  rw [crcSum_more]
  go_enter Try.func28, Try.ntmps28
  go_wp2_with (go_at_call 36; refine (more_any 0 (by decide) _ _ _ _ _ _ hl hn).mono ?_; rintro e w' ⟨rfl, rfl⟩)
  go_ret
  exact ⟨rfl, rfl⟩

theorem ref_same (y z : Nat) (h : y % 2 = z % 2) : y / 2 ^^^ z / 2 = stepC (y ^^^ z) := by
  unfold stepC
  rw [if_neg (by rw [Nat.xor_mod_two_eq_one]; omega), Nat.xor_div_two]
theorem ref_other (y z : Nat) (h : y % 2 ≠ z % 2) : (y / 2 ^^^ 2197175160) ^^^ z / 2 = stepC (y ^^^ z) := by
  unfold stepC
  rw [if_pos (by rw [Nat.xor_mod_two_eq_one]; omega), Nat.xor_div_two, Nat.xor_assoc, Nat.xor_assoc, Nat.xor_comm (z / 2)]

theorem test_same (y z : Nat) (h : y % 2 = z % 2) : (!((y : Int) % 2 == 1) == ((z : Int) % 2 == 1)) = false := by
  have : (y : Int) % 2 = (z : Int) % 2 := by omega
  rw [this]; simp
theorem test_other (y z : Nat) (h : y % 2 ≠ z % 2) : (!((y : Int) % 2 == 1) == ((z : Int) % 2 == 1)) = true := by
  by_cases hy : (y : Int) % 2 = 1
  · have hz : (z : Int) % 2 = 0 := by omega
    rw [hy, hz]; rfl
  · have hy0 : (y : Int) % 2 = 0 := by omega
    have hz : (z : Int) % 2 = 1 := by omega
    rw [hy0, hz]; rfl

set_option maxHeartbeats 1000000 in
theorem refSum_any (A : Option Addr) (n c : Nat) (l : List UInt8) (B : Nat) (W : World) (hl : Byt W B A n l) (hn : n ≤ 140737488355328) :
    Calls Try.prog 29 #[.slice A n c] W fun e W' => e = .returned (.int .u32 (crcSum l : Nat)) ∧ W = W' := by
  have HM := Lib.hid (show crcSum l = 4294967295 - crcReg 4294967295 l from rfl)
  generalize crcSum l = M at HM ⊢
  go_enter Try.func29, Try.ntmps29
  go_wp2_with fail
  go_loop [3, 4, 5, 6, 7] (fun rs i _ _ _ => ∃ k : Nat, k ≤ n ∧ i = .int .i64 k ∧ rs = .int .u32 ((crcReg 4294967295 (l.take k) : Nat) : Int))
    (fun _ i _ _ _ => n - (intOf i).toNat)
  case atStart => exact ⟨0, by omega, rfl, rfl⟩
  case round =>
    obtain ⟨k, hk, rfl, rfl⟩ := hrel
    have hr : crcReg 4294967295 (l.take k) < 4294967296 := crcReg_lt _ (by omega)
    by_cases hlt : k < n
    · obtain ⟨b, o, x, rfl, _, hx, hc⟩ := hl.at_ hlt
      have hx2 : x.toNat < 256 := x.toNat_lt
      have HS := Lib.hid (show crcReg 4294967295 (l.take (k + 1)) = stepN 8 (crcReg 4294967295 (l.take k) ^^^ x.toNat) by
        rw [List.take_add_one, hx]; exact crcReg_snoc _ _ _)
      generalize crcReg 4294967295 (l.take k) = r at hr HS ⊢
      generalize x.toNat = xt at hc hx2 HS
      go_wp2_with fail
      go_loop [3, 5, 6, 7] (fun rs cs i _ => ∃ q y z : Nat, q ≤ 8 ∧ i = .int .i64 q ∧ rs = .int .u32 (y : Int) ∧ cs = .int .u8 (z : Int) ∧ y < 4294967296 ∧ z < 2 ^ (8 - q) ∧ y ^^^ z = stepN q (r ^^^ xt))
        (fun _ _ i _ => 8 - (intOf i).toNat)
      case atStart => exact ⟨0, r, xt, by omega, rfl, rfl, rfl, hr, hx2, rfl⟩
      case round =>
        obtain ⟨q, y, z, hq, rfl, rfl, rfl, hy, hz, hyz⟩ := hrel
        by_cases hq8 : q < 8
        · have hz2 : z / 2 < 2 ^ (8 - (q + 1)) := by
            rw [Nat.div_lt_iff_lt_mul (by omega), ← Nat.pow_succ, show (8 - (q + 1)).succ = 8 - q by omega]; exact hz
          have hzb : z < 256 := Nat.lt_of_lt_of_le hz (Nat.pow_le_pow_right (by omega) (show 8 - q ≤ 8 by omega))
          have hy2 : y / 2 < 4294967296 := by omega
          have HS2 := Lib.hid (show stepN (q + 1) (r ^^^ xt) = stepC (y ^^^ z) by rw [hyz]; rfl)
          have HZ := Lib.hid hz2
          clear hz hz2 hyz
          have hxo : bits .xor .u32 ((y : Int) / 2) 2197175160 = ((y / 2 ^^^ 2197175160 : Nat) : Int) := u32_xor_nat (y / 2) 2197175160 (by omega) (by decide)
          have hxl : y / 2 ^^^ 2197175160 < 4294967296 := Nat.xor_lt_two_pow (n := 32) (by omega) (by decide)
          by_cases hy1 : y % 2 = 1
          · by_cases hz1 : z % 2 = 1
            · have HR := Lib.hid (ref_same y z (by omega))
              have ht := test_same y z (by omega)
              clear hy1 hz1
              go_wp2
              go_round
              case rel => exact ⟨q + 1, y / 2, z / 2, by omega, by go_num, by go_num, by go_num, hy2, HZ.out, by rw [HS2.out, HR.out]⟩
              case measure => simp [intOf]; omega
            · have HR := Lib.hid (ref_other y z (by omega))
              have ht := test_other y z (by omega)
              clear hy1 hz1
              go_wp2
              go_round
              case rel => exact ⟨q + 1, y / 2 ^^^ 2197175160, z / 2, by omega, by go_num, by rw [← hxo], by go_num, hxl, HZ.out, by rw [HS2.out, HR.out]⟩
              case measure => simp [intOf]; omega
          · by_cases hz1 : z % 2 = 1
            · have HR := Lib.hid (ref_other y z (by omega))
              have ht := test_other y z (by omega)
              clear hy1 hz1
              go_wp2
              go_round
              case rel => exact ⟨q + 1, y / 2 ^^^ 2197175160, z / 2, by omega, by go_num, by rw [← hxo], by go_num, hxl, HZ.out, by rw [HS2.out, HR.out]⟩
              case measure => simp [intOf]; omega
            · have HR := Lib.hid (ref_same y z (by omega))
              have ht := test_same y z (by omega)
              clear hy1 hz1
              go_wp2
              go_round
              case rel => exact ⟨q + 1, y / 2, z / 2, by omega, by go_num, by go_num, by go_num, hy2, HZ.out, by rw [HS2.out, HR.out]⟩
              case measure => simp [intOf]; omega
        · obtain rfl : q = 8 := by omega
          obtain rfl : z = 0 := by simpa using hz
          rw [Nat.xor_zero] at hyz
          subst hyz
          have HS3 := Lib.hid HS.out
          go_wp2
          go_round
          case rel => exact ⟨k + 1, by omega, by go_num, by rw [HS3.out]⟩
          case measure => simp [intOf]; omega
    · have hkn : k = n := by omega
      have HT := Lib.hid (show crcReg 4294967295 (l.take k) = crcReg 4294967295 l by rw [List.take_of_length_le (by rw [hl.1]; omega)])
      generalize crcReg 4294967295 (l.take k) = r at hr HT ⊢
      go_wp2
      go_ret
      refine ⟨?_, rfl⟩
      rw [HM.out, ← HT.out]
      go_num

end Go.Proofs.Ytnmibfncgoemfaa
