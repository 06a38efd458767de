/-
  Package hmac: what its words mean over lists; Same.
-/
import Derived.Test.YtbpjklafhohlnaaDoorShaS
import Derived.Laws.BitsAllLaws
namespace Go.Proofs.YtbpjklafhohlnaaDoor
open Go.RowKit
set_option linter.unusedVariables false
set_option linter.unusedSimpArgs false

/-- A key's block. -/
def keyL (k : List UInt8) : List UInt8 := if 64 < k.length then shaD k ++ List.replicate 32 0 else k ++ List.replicate (64 - k.length) 0
/-- Each byte turned by one. -/
def xorL (x : UInt8) (l : List UInt8) : List UInt8 := l.map (· ^^^ x)
/-- The tag. -/
def hmacD (k b : List UInt8) : List UInt8 := shaD (xorL 92 (keyL k) ++ shaD (xorL 54 (keyL k) ++ b))
theorem keyL_len (k : List UInt8) : (keyL k).length = 64 := by
  unfold keyL
  split
  · rw [List.length_append, shaD_len, List.length_replicate]
  · rw [List.length_append, List.length_replicate]; omega
theorem xorL_len (x : UInt8) (k : List UInt8) : (xorL x k).length = k.length := by unfold xorL; rw [List.length_map]
theorem hmacD_len (k b : List UInt8) : (hmacD k b).length = 32 := shaD_len _
theorem keyL_zeros (k : List UInt8) (m : Nat) (h : k.length + m ≤ 64) : keyL (k ++ List.replicate m 0) = keyL k := by
  unfold keyL
  rw [if_neg (by rw [List.length_append, List.length_replicate]; omega), if_neg (by omega), List.append_assoc, List.replicate_append_replicate, List.length_append, List.length_replicate, show m + (64 - (k.length + m)) = 64 - k.length by omega]
theorem keyL_sha (k : List UInt8) (h : 64 < k.length) : keyL (shaD k) = keyL k := by
  unfold keyL
  rw [if_neg (by rw [shaD_len]; omega), if_pos h, shaD_len]

theorem ofInt_i64 (a : Nat) (ha : a < 9223372036854775808) : (BitVec.ofInt 64 (a : Int)).toNat = a := by
  rw [BitVec.ofInt_natCast, BitVec.toNat_ofNat]; exact Nat.mod_eq_of_lt (by omega)
theorem wrap_i64_nat (a : Nat) (ha : a < 9223372036854775808) : IntKind.i64.wrap (a : Int) = (a : Int) := IntWalk.i64_in _ (by omega)
theorem i64_xor_nat (a b : Nat) (ha : a < 9223372036854775808) (hb : b < 9223372036854775808) : bits .xor .i64 (a : Int) (b : Int) = ((a ^^^ b : Nat) : Int) := by
  have hx : a ^^^ b < 2 ^ 63 := Nat.xor_lt_two_pow (by omega) (by omega)
  show IntKind.i64.wrap ((BitVec.ofInt 64 (a : Int) ^^^ BitVec.ofInt 64 (b : Int)).toNat : Int) = _
  rw [BitVec.toNat_xor, ofInt_i64 a ha, ofInt_i64 b hb, wrap_i64_nat _ (by omega)]
theorem i64_or_nat (a b : Nat) (ha : a < 9223372036854775808) (hb : b < 9223372036854775808) : bits .or .i64 (a : Int) (b : Int) = ((a ||| b : Nat) : Int) := by
  have hx : a ||| b < 2 ^ 63 := Nat.or_lt_two_pow (by omega) (by omega)
  show IntKind.i64.wrap ((BitVec.ofInt 64 (a : Int) ||| BitVec.ofInt 64 (b : Int)).toNat : Int) = _
  rw [BitVec.toNat_or, ofInt_i64 a ha, ofInt_i64 b hb, wrap_i64_nat _ (by omega)]

theorem xor_zero (a b : Nat) : a ^^^ b = 0 ↔ a = b := by
  constructor
  · intro h
    apply Nat.eq_of_testBit_eq
    intro i
    have := congrArg (Nat.testBit · i) h
    simpa [Nat.testBit_xor] using this
  · rintro rfl
    exact Nat.xor_self _

/-- What is apart behind k bytes. -/
def apartN (l1 l2 : List UInt8) : Nat → Nat
  | 0 => l1.length ^^^ l2.length
  | k + 1 => apartN l1 l2 k ||| ((l1.getD k 0).toNat ^^^ (l2.getD k 0).toNat)
theorem apartN_lt (l1 l2 : List UInt8) (h1 : l1.length < 9223372036854775808) (h2 : l2.length < 9223372036854775808) : ∀ k, apartN l1 l2 k < 9223372036854775808
  | 0 => Nat.xor_lt_two_pow (n := 63) (by omega) (by omega)
  | k + 1 => Nat.or_lt_two_pow (n := 63) (apartN_lt l1 l2 h1 h2 k) (Nat.lt_of_lt_of_le (Nat.xor_lt_two_pow (n := 8) (UInt8.toNat_lt _) (UInt8.toNat_lt _)) (by decide))
theorem apartN_zero (l1 l2 : List UInt8) : ∀ k, k ≤ l1.length → k ≤ l2.length → (apartN l1 l2 k = 0 ↔ l1.length = l2.length ∧ l1.take k = l2.take k)
  | 0, _, _ => by simp [apartN, xor_zero]
  | k + 1, h1, h2 => by
    have e1 : l1[k]? = some l1[k] := List.getElem?_eq_getElem (by omega)
    have e2 : l2[k]? = some l2[k] := List.getElem?_eq_getElem (by omega)
    rw [apartN, Nat.or_eq_zero_iff, apartN_zero l1 l2 k (by omega) (by omega), xor_zero, UInt8.toNat_inj, List.getD_eq_getElem?_getD, List.getD_eq_getElem?_getD, List.take_add_one, List.take_add_one, e1, e2]
    simp only [Option.getD_some, Option.toList_some]
    constructor
    · rintro ⟨⟨h, ht⟩, hx⟩
      exact ⟨h, by rw [ht, hx]⟩
    · rintro ⟨h, ht⟩
      have hl : (l1.take k).length = (l2.take k).length := by rw [List.length_take, List.length_take]; omega
      obtain ⟨a, b⟩ := List.append_inj ht hl
      exact ⟨⟨h, a⟩, by simpa using b⟩
theorem apartN_end (l1 l2 : List UInt8) (m : Nat) (hm : m = min l1.length l2.length) : decide (apartN l1 l2 m = 0) = decide (l1 = l2) := by
  rw [decide_eq_decide, apartN_zero l1 l2 m (by omega) (by omega)]
  constructor
  · rintro ⟨h, ht⟩
    rwa [List.take_of_length_le (by omega), List.take_of_length_le (by omega)] at ht
  · rintro rfl
    exact ⟨rfl, rfl⟩

set_option maxHeartbeats 1000000 in
theorem hsame_any (A1 A2 : Option Addr) (n1 c1 n2 c2 : Nat) (l1 l2 : List UInt8) (B : Nat) (W : World) (h1 : Byt W B A1 n1 l1) (h2 : Byt W B A2 n2 l2) (hn1 : n1 ≤ 140737488355328) (hn2 : n2 ≤ 140737488355328) :
    Calls Tryd.prog 11 #[.slice A1 n1 c1, .slice A2 n2 c2] W fun e W' => e = .returned (.bool (decide (l1 = l2))) ∧ ∃ k, W' = W.drewN k := by
  have hl1 := h1.1
  have hl2 := h2.1
  have hlt := apartN_lt l1 l2 (by omega) (by omega)
  obtain ⟨m, hm⟩ : ∃ m, m = min n1 n2 := ⟨_, rfl⟩
  have hmm : (if n2 < n1 then (n2 : Int) else (n1 : Int)) = (m : Int) := by split <;> omega
  have hx := i64_xor_nat n1 n2 (by omega) (by omega)
  have h0 : apartN l1 l2 0 = n1 ^^^ n2 := by unfold apartN; rw [hl1, hl2]
  rw [← h0] at hx
  have HE := Lib.hid (apartN_end l1 l2 m (by rw [hl1, hl2]; exact hm))
  have HL := Lib.hid (And.intro hl1 hl2)
  have HT := Lib.hid hlt
  clear h0 hl1 hl2 hlt
  have HM := Lib.hid hm
  clear hm
  go_enter Tryd.func11, Tryd.ntmps11
  go_wp2_with fail
  clear hx hmm
  have hm12 : m ≤ n1 ∧ m ≤ n2 := by have := HM.out; omega
  obtain ⟨hm1, hm2⟩ := hm12
  go_loopw [5, 17] (fun s i wr => ∃ k q : Nat, k ≤ m ∧ i = .int .i64 k ∧ wr = W.drewN q ∧ s = .int .i64 ((apartN l1 l2 k : Nat) : Int))
    (fun _ i _ => m - (intOf i).toNat)
  case atStart => exact ⟨0, 0, by omega, rfl, rfl, rfl⟩
  case round =>
    obtain ⟨k, q, hk, rfl, rfl, rfl⟩ := hrel
    by_cases hlt : k < m
    · obtain ⟨b, o, x, rfl, _, hx, hc⟩ := h1.at_ (show k < n1 by omega)
      obtain ⟨b', o', y, rfl, _, hy, hc'⟩ := h2.at_ (show k < n2 by omega)
      have hkn1 : (k : Int) < (n1 : Int) := by omega
      have hkn2 : (k : Int) < (n2 : Int) := by omega
      obtain ⟨d, hd⟩ : ∃ d : Nat, d = x.toNat ^^^ y.toNat := ⟨_, rfl⟩
      have hd8 : d < 256 := by rw [hd]; exact Nat.xor_lt_two_pow (n := 8) (UInt8.toNat_lt _) (UInt8.toNat_lt _)
      have r1 : bits .xor .u8 ((x.toNat : Nat) : Int) ((y.toNat : Nat) : Int) = (d : Int) := by rw [hd]; exact u8_xor_nat _ _ (UInt8.toNat_lt _) (UInt8.toNat_lt _)
      have r2 : bits .or .i64 ((apartN l1 l2 k : Nat) : Int) (d : Int) = ((apartN l1 l2 (k + 1) : Nat) : Int) := by
        rw [i64_or_nat _ _ (HT.out k) (by omega), apartN, List.getD_eq_getElem?_getD, List.getD_eq_getElem?_getD, hx, hy, hd]; rfl
      have HD := Lib.hid hd
      clear hd hx hy
      go_wp2_with fail
      go_quiet (fail)
      go_wp2_with fail
      go_roundw
      case rel => exact ⟨k + 1, q + nq, by omega, by go_num, by simp, by rfl⟩
      case measure => simp [intOf]; omega
    · have HK := Lib.hid (show k = m by omega)
      have hkm : ¬ ((k : Int) < (m : Int)) := by omega
      clear hlt hk
      go_wp2_with fail
      go_ret
      refine ⟨?_, q, rfl⟩
      have hz : (((apartN l1 l2 k : Nat) : Int) == 0) = decide (apartN l1 l2 m = 0) := by
        rw [HK.out, Bool.eq_iff_iff]
        simp
      rw [← HE.out, ← hz, HK.out]
      rfl

end Go.Proofs.YtbpjklafhohlnaaDoor
