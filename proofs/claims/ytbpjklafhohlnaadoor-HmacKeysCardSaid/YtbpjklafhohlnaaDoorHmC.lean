/-
  Package hmac: the closure that turns a key's block; its reference.
-/
import Derived.Test.YtbpjklafhohlnaaDoorHmB
import Derived.Test.YtbpjklafhohlnaaDoorShaT
namespace Go.Proofs.YtbpjklafhohlnaaDoor
open Go.RowKit
set_option linter.unusedVariables false
set_option linter.unusedSimpArgs false

theorem xorL_take (x : UInt8) (l : List UInt8) (k : Nat) (b : UInt8) (h : l[k]? = some b) : (xorL x l).take (k + 1) = (xorL x l).take k ++ [b ^^^ x] := by
  unfold xorL
  rw [List.take_add_one, List.getElem?_map, h]
  rfl
theorem xorL_take0 (x : UInt8) (l : List UInt8) (k : Nat) (h : l[k]? = some 0) : (xorL x l).take (k + 1) = (xorL x l).take k ++ [x] := by
  rw [xorL_take x l k 0 h, UInt8.zero_xor]
theorem bv_xor (b x : UInt8) : bits .xor .u8 ((b.toNat : Nat) : Int) ((x.toNat : Nat) : Int) = (((b ^^^ x).toNat : Nat) : Int) := by
  rw [u8_xor_nat _ _ (UInt8.toNat_lt _) (UInt8.toNat_lt _), UInt8.toNat_xor]

set_option maxRecDepth 100000 in
set_option maxHeartbeats 2000000 in
theorem hpad_any (x : UInt8) (z : Int) (hz : z = ((x.toNat : Nat) : Int)) (K : List UInt8) (hK : K.length = 64) (g : Nat) (W : World) (hB : Blk W g 31 (K.map bv)) :
    Calls Tryd.prog 14 #[.int .u8 z, .pointer (some ⟨g, 0, none⟩)] W fun e W' => ∃ v, e = .returned v ∧
      W'.ownsRow W.heap.size 5 1 v 64 ((xorL x K).map bv) ∧ Below W.heap.size W W' := by
  obtain ⟨i0, hi, hz0, hz1, hz2⟩ := info_parts Tryd.info5
  have HZ := Lib.hid hz
  have HK := Lib.hid hK
  have hKm : (K.map bv).length = 64 := by rw [List.length_map]; exact hK
  have HKm := Lib.hid hKm
  clear hz hK hKm
  go_enter Tryd.func14, Tryd.ntmps14
  go_wp2_with (first
    | (at_make; refine wpList_make_byt _ rfl _ _ 22 rfl W.heap.size 5 i0 Tryd.underlying22 hi hz0 hz1 hz2 .i64 .i64 _ _ 0 64 rfl rfl rfl rfl (by omega) (by omega) (Nat.le_refl _) ?_;
       intro w1 hown1 hg1;
       have hb1 : Below W.heap.size W w1 := (Below.refl _ _).grown hg1 (Nat.le_refl _) (by intro k h; cases h);
       have hB1 := hB.below hb1 hB.lt;
       clear hg1)
    | (refine ld_blk rfl 31 _ rfl g rfl 31 (K.map bv) hB1 64 5 Tryd.underlying31 (by rw [HKm.out]; kernel_rfl) ?_))
  go_loopw [4, 9] (fun v i wr => ∃ k : Nat, k ≤ 64 ∧ i = .int .i64 k ∧ wr.ownsRow W.heap.size 5 1 v k (((xorL x K).take k).map bv) ∧ Below W.heap.size W wr)
    (fun _ i _ => 64 - (intOf i).toNat)
  case atStart => exact ⟨0, by omega, rfl, by simpa using hown1, hb1⟩
  case round =>
    obtain ⟨k, hk, rfl, hown, hb⟩ := hrel
    have hs := hb.size
    clear hown1 hb1 hB1
    by_cases h64 : k < 64
    · obtain ⟨b, hkb⟩ : ∃ b, K[k]? = some b := ⟨_, List.getElem?_eq_getElem (by have := HK.out; omega)⟩
      have hx : ∀ w : World, (Instr.index 31 (.agg (K.map bv).toArray) (.int .i64 ((k : Nat) : Int))).run Tryd.prog w = .ok (.int .u8 ((b.toNat : Nat) : Int)) w := fun w =>
        index_agg w 31 5 64 (K.map bv) Tryd.underlying31 (by kernel_rfl) (by kernel_rfl) k .i64 h64 _ (by rw [List.getElem?_map, hkb]; rfl)
      have HT := Lib.hid (xorL_take x K k b hkb)
      have hxx : bits .xor .u8 ((b.toNat : Nat) : Int) z = (((b ^^^ x).toNat : Nat) : Int) := by rw [HZ.out]; exact bv_xor b x
      clear hkb
      go_wp2_with (at_builtin; refine wpList_append_byt _ rfl _ _ 22 rfl W.heap.size 5 i0 (.int .u8 0) Tryd.underlying22 hi hz0 hz1 hz2 rfl _ _ _ rfl (hown.alloc _) (wr.heap.size + 1) _ 1 1 [b ^^^ x] rfl ?c1 ?c2 ?c3 ?c4 ?_)
      case c1 => exact Byt.one _ _ _ rfl _
      case c2 => intro h; cases h
      case c3 => omega
      case c4 => simp; omega
      intro v' w3 hown' hgrow
      have hb' := own_step hb (Nat.le_refl _) hown hgrow
      clear hown hgrow hb
      have HO := Lib.hid hown'
      clear hown'
      go_wp2
      go_roundw
      case rel => exact ⟨k + 1, by omega, by go_num, by have := HO.out; rw [HT.out, List.map_append, List.map_take]; exact this, hb'⟩
      case measure => simp [intOf]; omega
    · have hk64 : ¬ ((k : Int) < 64) := by omega
      have HKK := Lib.hid (show k = 64 by omega)
      have HO := Lib.hid hown
      clear hk h64 hown
      go_wp2_with fail
      go_ret
      refine ⟨_, rfl, ?_, hb⟩
      have := HO.out
      rw [HKK.out, List.take_of_length_le (by rw [xorL_len, HK.out]; exact Nat.le_refl _)] at this
      exact this

theorem keyL_in (k : List UInt8) (L : List UInt8) (hL : L = if 64 < k.length then shaD k else k) (j : Nat) (b : UInt8) (h : L[j]? = some b) : (keyL k)[j]? = some b := by
  rw [keyL_of, ← hL, List.getElem?_append_left (List.getElem?_eq_some_iff.1 h).1]
  exact h
theorem keyL_out (k : List UInt8) (L : List UInt8) (hL : L = if 64 < k.length then shaD k else k) (j : Nat) (h : L.length ≤ j) (h64 : j < 64) : (keyL k)[j]? = some 0 := by
  rw [keyL_of, ← hL, List.getElem?_append_right h, List.getElem?_replicate_of_lt (by omega)]

set_option maxRecDepth 100000 in
set_option maxHeartbeats 2000000 in
theorem padded_any (x : UInt8) (z : Int) (hz : z = ((x.toNat : Nat) : Int)) (A : Option Addr) (n c : Nat) (l : List UInt8) (W : World) (hl : Byt W W.heap.size A n l) (hnil : A = none → c = 0) (hn : n ≤ 35184372088832) :
    Calls Tryd.prog 17 #[.slice A n c, .int .u8 z] W fun e W' => ∃ v, e = .returned v ∧
      W'.ownsRow W.heap.size 5 1 v 64 ((xorL x (keyL l)).map bv) ∧ Below W.heap.size W W' := by
  obtain ⟨i0, hi, hz0, hz1, hz2⟩ := info_parts Tryd.info5
  have HZ := Lib.hid hz
  have hln := hl.1
  have HLN := Lib.hid hln
  clear hz hln
  have hxz : bits .xor .u8 0 z = ((x.toNat : Nat) : Int) := by rw [HZ.out]; have := bv_xor 0 x; rwa [UInt8.zero_xor] at this
  by_cases h64 : 64 < n
  · have hL0 : shaD l = if 64 < l.length then shaD l else l := by rw [if_pos (by rw [HLN.out]; exact h64)]
    have HL0 := Lib.hid hL0
    clear hL0
    go_enter Tryd.func17, Tryd.ntmps17
    go_wp2_with fail
    refine (refSha_any A n c l W hl hnil hn).mono ?_
    rintro e wc ⟨v, rfl, hown, hbc⟩
    obtain ⟨X, q, rfl, hn3, hl3, hm3⟩ := own_form hown
    have hx := Byt.of_own hown
    obtain ⟨L, hL⟩ : ∃ L, L = shaD l := ⟨_, rfl⟩
    rw [← hL] at hx
    have HL := Lib.hid (hL.trans HL0.out)
    clear hown hL h64 HL0
    obtain ⟨m, hm⟩ : ∃ m, m = 32 := ⟨_, rfl⟩
    rw [← hm] at hx hl3 ⊢
    have hm64 : m ≤ 64 := by omega
    clear hm
    go_wp2_with fail
    go_loopw [5, 6] (fun v i wr => ∃ k : Nat, k ≤ 64 ∧ i = .int .i64 k ∧ wr.ownsRow wc.heap.size 5 1 v k (((xorL x (keyL l)).take k).map bv) ∧ Below wc.heap.size wc wr)
      (fun _ i _ => 64 - (intOf i).toNat)
    case atStart => exact ⟨0, by omega, rfl, World.ownsRow_nil _ _ _ _, Below.refl _ _⟩
    case round =>
      obtain ⟨k, hk, rfl, hown, hb⟩ := hrel
      have hs := hb.size
      by_cases h64 : k < 64
      · by_cases hkm : k < m
        · obtain ⟨b8, o8, b, rfl, hlt8, hLb, hc8⟩ := (hx.below hb).at_ hkm
          have HT := Lib.hid (xorL_take x (keyL l) k b (keyL_in l L HL.out k b hLb))
          have hxx : bits .xor .u8 ((b.toNat : Nat) : Int) z = (((b ^^^ x).toNat : Nat) : Int) := by rw [HZ.out]; exact bv_xor b x
          have hkm' : (k : Int) < (m : Int) := by omega
          clear hLb
          go_wp2_with (at_builtin; refine wpList_append_byt _ rfl _ _ 22 rfl wc.heap.size 5 i0 (.int .u8 0) Tryd.underlying22 hi hz0 hz1 hz2 rfl _ _ _ rfl (hown.alloc _) (wr.heap.size + 1) _ 1 1 [b ^^^ x] rfl (Byt.one _ _ _ rfl _) (fun h => by cases h) (by omega) (by simp; omega) ?_)
          intro v' w3 hown' hgrow
          have hb' := own_step hb (Nat.le_refl _) hown hgrow
          clear hown hgrow hb
          have HO := Lib.hid hown'
          clear hown'
          go_wp2
          go_roundw
          case rel => exact ⟨k + 1, by omega, by go_num, by have := HO.out; rw [HT.out, List.map_append, List.map_take]; exact this, hb'⟩
          case measure => simp [intOf]; omega
        · have hkm' : ¬ ((k : Int) < (m : Int)) := by omega
          have HT := Lib.hid (xorL_take0 x (keyL l) k (keyL_out l L HL.out k (by rw [hx.1]; omega) h64))
          go_wp2_with (at_builtin; refine wpList_append_byt _ rfl _ _ 22 rfl wc.heap.size 5 i0 (.int .u8 0) Tryd.underlying22 hi hz0 hz1 hz2 rfl _ _ _ rfl (hown.alloc _) (wr.heap.size + 1) _ 1 1 [x] rfl (Byt.one _ _ _ rfl _) (fun h => by cases h) (by omega) (by simp; omega) ?_)
          intro v' w3 hown' hgrow
          have hb' := own_step hb (Nat.le_refl _) hown hgrow
          clear hown hgrow hb
          have HO := Lib.hid hown'
          clear hown'
          go_wp2
          go_roundw
          case rel => exact ⟨k + 1, by omega, by go_num, by have := HO.out; rw [HT.out, List.map_append, List.map_take]; exact this, hb'⟩
          case measure => simp [intOf]; omega
      · have hk64 : ¬ ((k : Int) < 64) := by omega
        have HKK := Lib.hid (show k = 64 by omega)
        have HO := Lib.hid hown
        clear hk h64 hown
        go_wp2_with fail
        go_ret
        refine ⟨_, rfl, ?_, hbc.trans (hb.mono hbc.size)⟩
        have := HO.out
        rw [HKK.out, List.take_of_length_le (by rw [xorL_len, keyL_len]; exact Nat.le_refl _)] at this
        exact own_mono this hbc.size
  · have HL := Lib.hid (show l = if 64 < l.length then shaD l else l by rw [if_neg (by rw [HLN.out]; exact h64)])
    go_enter Tryd.func17, Tryd.ntmps17
    go_wp2_with fail
    have hbc := Below.refl W.heap.size W
    have hx := hl
    have hm64 : n ≤ 64 := by omega
    clear h64
    go_loopw [5, 6] (fun v i wr => ∃ k : Nat, k ≤ 64 ∧ i = .int .i64 k ∧ wr.ownsRow W.heap.size 5 1 v k (((xorL x (keyL l)).take k).map bv) ∧ Below W.heap.size W wr)
      (fun _ i _ => 64 - (intOf i).toNat)
    case atStart => exact ⟨0, by omega, rfl, World.ownsRow_nil _ _ _ _, Below.refl _ _⟩
    case round =>
      obtain ⟨k, hk, rfl, hown, hb⟩ := hrel
      have hs := hb.size
      by_cases h64 : k < 64
      · by_cases hkm : k < n
        · obtain ⟨b8, o8, b, rfl, hlt8, hLb, hc8⟩ := (hx.below hb).at_ hkm
          have HT := Lib.hid (xorL_take x (keyL l) k b (keyL_in l l HL.out k b hLb))
          have hxx : bits .xor .u8 ((b.toNat : Nat) : Int) z = (((b ^^^ x).toNat : Nat) : Int) := by rw [HZ.out]; exact bv_xor b x
          have hkm' : (k : Int) < (n : Int) := by omega
          clear hLb
          go_wp2_with (at_builtin; refine wpList_append_byt _ rfl _ _ 22 rfl W.heap.size 5 i0 (.int .u8 0) Tryd.underlying22 hi hz0 hz1 hz2 rfl _ _ _ rfl (hown.alloc _) (wr.heap.size + 1) _ 1 1 [b ^^^ x] rfl (Byt.one _ _ _ rfl _) (fun h => by cases h) (by omega) (by simp; omega) ?_)
          intro v' w3 hown' hgrow
          have hb' := own_step hb (Nat.le_refl _) hown hgrow
          clear hown hgrow hb
          have HO := Lib.hid hown'
          clear hown'
          go_wp2
          go_roundw
          case rel => exact ⟨k + 1, by omega, by go_num, by have := HO.out; rw [HT.out, List.map_append, List.map_take]; exact this, hb'⟩
          case measure => simp [intOf]; omega
        · have hkm' : ¬ ((k : Int) < (n : Int)) := by omega
          have HT := Lib.hid (xorL_take0 x (keyL l) k (keyL_out l l HL.out k (by rw [hx.1]; omega) h64))
          go_wp2_with (at_builtin; refine wpList_append_byt _ rfl _ _ 22 rfl W.heap.size 5 i0 (.int .u8 0) Tryd.underlying22 hi hz0 hz1 hz2 rfl _ _ _ rfl (hown.alloc _) (wr.heap.size + 1) _ 1 1 [x] rfl (Byt.one _ _ _ rfl _) (fun h => by cases h) (by omega) (by simp; omega) ?_)
          intro v' w3 hown' hgrow
          have hb' := own_step hb (Nat.le_refl _) hown hgrow
          clear hown hgrow hb
          have HO := Lib.hid hown'
          clear hown'
          go_wp2
          go_roundw
          case rel => exact ⟨k + 1, by omega, by go_num, by have := HO.out; rw [HT.out, List.map_append, List.map_take]; exact this, hb'⟩
          case measure => simp [intOf]; omega
      · have hk64 : ¬ ((k : Int) < 64) := by omega
        have HKK := Lib.hid (show k = 64 by omega)
        have HO := Lib.hid hown
        clear hk h64 hown
        go_wp2_with fail
        go_ret
        refine ⟨_, rfl, ?_, hbc.trans (hb.mono hbc.size)⟩
        have := HO.out
        rw [HKK.out, List.take_of_length_le (by rw [xorL_len, keyL_len]; exact Nat.le_refl _)] at this
        exact own_mono this hbc.size

end Go.Proofs.YtbpjklafhohlnaaDoor
