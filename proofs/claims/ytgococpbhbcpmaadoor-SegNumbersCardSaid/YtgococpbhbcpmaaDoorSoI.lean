/-
  The library's sort of words: patterns broken by chance.
-/
import Derived.Test.YtgococpbhbcpmaaDoorSoH
import Derived.Test.YtgococpbhbcpmaaDoorShelf
import Derived.Laws.BitsAllLaws
namespace Go.Proofs.YtgococpbhbcpmaaDoor
open Go.RowKit
set_option linter.unusedVariables false
set_option linter.unusedSimpArgs false

theorem pow_len (x : Nat) : 0 < x → x < 18446744073709551616 → 2 ^ Lib.bitLen x ≤ 2 * x := by
  induction x using Nat.strongRecOn with
  | ind x ih =>
    intro h0 h1
    rw [Lib.bitLen_half x (by omega) h1, Nat.add_comm 1, Nat.pow_succ]
    by_cases h : x = 1
    · subst h; decide
    · have := ih (x / 2) (by omega) (by omega) (by omega)
      omega

set_option maxRecDepth 100000 in
theorem npow_any (l M : Nat) (h0 : 0 < l) (hl : l ≤ 1000000000) (hM : 2 ^ Lib.bitLen l = M) (W : World) :
    Calls Tryd.prog 65 #[.int .i64 (l : Nat)] W fun e W' => e = .returned (.int .u64 (M : Nat)) ∧ W' = W := by
  have hp := pow_len l h0 (by omega)
  have hB := fun w => Tryd.bits_Len (l : Int) w (by omega) (by omega)
  rw [Int.toNat_natCast] at hB
  have hk : Lib.bitLen l < 31 := by
    rcases Nat.lt_or_ge (Lib.bitLen l) 31 with h | h
    · exact h
    · have := Nat.pow_le_pow_right (show 0 < 2 by decide) h
      omega
  obtain ⟨k, hkk⟩ : ∃ k, Lib.bitLen l = k := ⟨_, rfl⟩
  rw [hkk] at hB hk hM hp
  have hw : IntKind.u64.wrap (l : Int) = (l : Int) := by rw [IntKind.wrap_u64]; omega
  have hmk : min k 64 = k := by omega
  have hM2 : ((2 : Int) ^ k) = (M : Int) := by rw [← hM]; simp
  have hwM : IntKind.u64.wrap (M : Int) = (M : Int) := by rw [IntKind.wrap_u64]; omega
  clear hkk hp hM
  go_enter Tryd.func65, Tryd.ntmps65
  go_wp2_with fail
  refine (hB _).mono ?_
  rintro e w1 ⟨rfl, rfl⟩
  go_wp2_with fail
  go_ret
  exact ⟨rfl, rfl⟩

def XsP (W : World) (gx : Nat) (e : Ending) (W' : World) : Prop := ∃ v : Nat, v < 18446744073709551616 ∧ e = .returned (.int .u64 (v : Nat)) ∧ Blk W' gx 100 [.int .u64 (v : Nat)] ∧ Turn (fun k => k = gx) W W'

set_option maxRecDepth 100000 in
set_option maxHeartbeats 4000000 in
theorem xs_any (gx v : Nat) (W : World) (hb : Blk W gx 100 [.int .u64 (v : Nat)]) (hv : v < 18446744073709551616) :
    Calls Tryd.prog 66 #[.pointer (some ⟨gx, 0, none⟩)] W (XsP W gx) := by
  obtain ⟨v1, h1⟩ : ∃ x, v * 8192 % 18446744073709551616 = x := ⟨_, rfl⟩
  obtain ⟨v2, h2⟩ : ∃ x, v ^^^ v1 = x := ⟨_, rfl⟩
  have l1 : v1 < 18446744073709551616 := by omega
  have l2 : v2 < 18446744073709551616 := by rw [← h2]; exact Nat.xor_lt_two_pow (n := 64) (by omega) (by omega)
  obtain ⟨v3, h3⟩ : ∃ x, v2 / 128 = x := ⟨_, rfl⟩
  have l3 : v3 < 18446744073709551616 := by omega
  obtain ⟨v4, h4⟩ : ∃ x, v2 ^^^ v3 = x := ⟨_, rfl⟩
  have l4 : v4 < 18446744073709551616 := by rw [← h4]; exact Nat.xor_lt_two_pow (n := 64) (by omega) (by omega)
  obtain ⟨v5, h5⟩ : ∃ x, v4 * 131072 % 18446744073709551616 = x := ⟨_, rfl⟩
  have l5 : v5 < 18446744073709551616 := by omega
  obtain ⟨v6, h6⟩ : ∃ x, v4 ^^^ v5 = x := ⟨_, rfl⟩
  have l6 : v6 < 18446744073709551616 := by rw [← h6]; exact Nat.xor_lt_two_pow (n := 64) (by omega) (by omega)
  have e1 : IntKind.u64.wrap ((v : Int) * 8192) = (v1 : Int) := by rw [IntKind.wrap_u64]; omega
  have e2 : bits .xor .u64 (v : Int) (v1 : Int) = (v2 : Int) := by rw [u64_xor_nat v v1 hv l1, h2]
  have e3 : (v2 : Int) / 128 = (v3 : Int) := by omega
  have e4 : bits .xor .u64 (v2 : Int) (v3 : Int) = (v4 : Int) := by rw [u64_xor_nat v2 v3 l2 l3, h4]
  have e5 : IntKind.u64.wrap ((v4 : Int) * 131072) = (v5 : Int) := by rw [IntKind.wrap_u64]; omega
  have e6 : bits .xor .u64 (v4 : Int) (v5 : Int) = (v6 : Int) := by rw [u64_xor_nat v4 v5 l4 l5, h6]
  have k3 : IntKind.u64.wrap (v3 : Int) = (v3 : Int) := by rw [IntKind.wrap_u64]; omega
  have HL := Lib.hid l6
  have c1 : W.cell? ⟨gx, 0, none⟩ = some (.int .u64 (v : Nat)) := hb.cell 0
  have f1 := hb.frozen 0
  have B2 := hb.set 0 (.int .u64 (v2 : Nat))
  have T2 := (Turn.refl (fun k => k = gx) W).setCell (p := ⟨gx, 0, none⟩) rfl (.int .u64 (v2 : Nat))
  clear h1 h2 h3 h4 h5 h6 l1 l2 l3 l4 l5 l6 hv hb
  go_enter Tryd.func66, Tryd.ntmps66
  go_wp2_with fail
  go_region
  obtain ⟨w2, hw2⟩ : ∃ x, (W.setCell ⟨gx, 0, none⟩ (.int .u64 (v2 : Nat))).drew = x := ⟨_, rfl⟩
  have H2 := Lib.hid (show Blk w2 gx 100 [.int .u64 (v2 : Nat)] ∧ Turn (fun k => k = gx) W w2 from by rw [← hw2]; exact ⟨B2, ⟨T2.os, T2.tape, T2.output, T2.size, T2.block⟩⟩)
  rw [hw2]
  clear hw2 B2 T2 c1 f1
  have c1 : w2.cell? ⟨gx, 0, none⟩ = some (.int .u64 (v2 : Nat)) := H2.out.1.cell 0
  have f1 := H2.out.1.frozen 0
  have B4 := H2.out.1.set 0 (.int .u64 (v4 : Nat))
  have T4 := H2.out.2.setCell (p := ⟨gx, 0, none⟩) rfl (.int .u64 (v4 : Nat))
  clear H2
  go_wp2_with fail
  go_region
  obtain ⟨w4, hw4⟩ : ∃ x, (w2.setCell ⟨gx, 0, none⟩ (.int .u64 (v4 : Nat))).drew = x := ⟨_, rfl⟩
  have H4 := Lib.hid (show Blk w4 gx 100 [.int .u64 (v4 : Nat)] ∧ Turn (fun k => k = gx) W w4 from by rw [← hw4]; exact ⟨B4, ⟨T4.os, T4.tape, T4.output, T4.size, T4.block⟩⟩)
  rw [hw4]
  clear hw4 B4 T4 c1 f1
  have c1 : w4.cell? ⟨gx, 0, none⟩ = some (.int .u64 (v4 : Nat)) := H4.out.1.cell 0
  have f1 := H4.out.1.frozen 0
  have B6 := H4.out.1.set 0 (.int .u64 (v6 : Nat))
  have T6 := H4.out.2.setCell (p := ⟨gx, 0, none⟩) rfl (.int .u64 (v6 : Nat))
  clear H4
  go_wp2_with fail
  go_region
  obtain ⟨w6, hw6⟩ : ∃ x, (w4.setCell ⟨gx, 0, none⟩ (.int .u64 (v6 : Nat))).drew = x := ⟨_, rfl⟩
  have H6 := Lib.hid (show Blk w6 gx 100 [.int .u64 (v6 : Nat)] ∧ Turn (fun k => k = gx) W w6 from by rw [← hw6]; exact ⟨B6, ⟨T6.os, T6.tape, T6.output, T6.size, T6.block⟩⟩)
  rw [hw6]
  clear hw6 B6 T6 c1 f1
  have c1 : w6.cell? ⟨gx, 0, none⟩ = some (.int .u64 (v6 : Nat)) := H6.out.1.cell 0
  go_wp2_with fail
  go_ret
  exact ⟨v6, HL.out, rfl, H6.out.1, H6.out.2⟩

end Go.Proofs.YtgococpbhbcpmaaDoor
