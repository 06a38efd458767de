/-
  The library's Sort at words: of a row of one's own, of nil.
-/
import Derived.Test.YtgococpbhbcpmaaDoorSoI
import Derived.Test.YtgococpbhbcpmaaDoorSoK
namespace Go.Proofs.YtgococpbhbcpmaaDoor
open Go.RowKit
set_option linter.unusedVariables false
set_option linter.unusedSimpArgs false

theorem bitLen_small (l : Nat) (hl : l ≤ 1000000000) : Lib.bitLen l ≤ 64 := by
  by_cases h0 : l = 0
  · subst h0; decide
  · have hp := pow_len l (by omega) (by omega)
    rcases Nat.lt_or_ge (Lib.bitLen l) 31 with h | h
    · omega
    · have := Nat.pow_le_pow_right (show 0 < 2 by decide) h
      omega

set_option maxRecDepth 100000 in
theorem sort_any (B g n c : Nat) (hn : n ≤ 1000000000) (xs : List Nat) (W : World) (h : RowN W B g n c xs) :
    Calls Tryd.prog 15 #[.slice (some ⟨g, 0, none⟩) n c] W (SoPost W B g n c fun ys => Sws 0 n xs ys ∧ Srt 0 n ys) := by
  have hB := fun w => Tryd.bits_Len (n : Int) w (by omega) (by omega)
  rw [Int.toNat_natCast] at hB
  have hk := bitLen_small n hn
  obtain ⟨k, hkk⟩ : ∃ k, Lib.bitLen n = k := ⟨_, rfl⟩
  rw [hkk] at hB hk
  have hw : IntKind.u64.wrap (n : Int) = (n : Int) := by rw [IntKind.wrap_u64]; omega
  have hS := pdq_any B g n c hn (n - 0) 0 n k xs W rfl h (Nat.zero_le _) (Nat.le_refl _) hk (fun h => absurd h (by omega))
  clear hkk
  go_enter Tryd.func15, Tryd.ntmps15
  go_wp2_with fail
  refine (hB _).mono ?_
  rintro e w1 ⟨rfl, rfl⟩
  go_wp2_with fail
  refine hS.mono ?_
  rintro e w2 ⟨rfl, zs, h2⟩
  go_wp2_with fail
  go_end0
  exact ⟨rfl, zs, h2⟩

set_option maxRecDepth 100000 in
theorem ins_nil (W : World) : Calls Tryd.prog 44 #[.slice none 0 0, .int .i64 0, .int .i64 0] W fun e W' => e = .returned (.tuple #[]) ∧ W' = W := by
  go_enter Tryd.func44, Tryd.ntmps44
  go_wp2_with fail
  go_loopw [6] (fun vi wr => vi = .int .i64 1 ∧ wr = W) (fun _ _ => 0)
  case atStart => exact ⟨rfl, rfl⟩
  case round =>
    obtain ⟨rfl, rfl⟩ := hrel
    go_wp2_with fail
    go_end0
    exact ⟨rfl, rfl⟩

set_option maxRecDepth 100000 in
set_option maxHeartbeats 4000000 in
theorem pdq_nil (W : World) : Calls Tryd.prog 27 #[.slice none 0 0, .int .i64 0, .int .i64 0, .int .i64 0] W fun e W' => e = .returned (.tuple #[]) ∧ W' = W := by
  have hI := ins_nil W
  go_enter Tryd.func27, Tryd.ntmps27
  go_wp2_with fail
  go_loopw [1, 2, 3, 8, 9] (fun va vb vl v8 v9 wr => va = .int .i64 0 ∧ vb = .int .i64 0 ∧ vl = .int .i64 0 ∧ v8 = .bool true ∧ v9 = .bool true ∧ wr = W) (fun _ _ _ _ _ _ => 0)
  case atStart => exact ⟨rfl, rfl, rfl, rfl, rfl, rfl⟩
  case round =>
    obtain ⟨rfl, rfl, rfl, rfl, rfl, rfl⟩ := hrel
    go_wp2_with fail
    refine hI.mono ?_
    rintro e w2 ⟨rfl, rfl⟩
    go_wp2_with fail
    refine bodyPost_ret (results_none rfl _ _ _) rfl ?_
    exact ⟨rfl, rfl⟩

set_option maxRecDepth 100000 in
theorem sort_nil (W : World) : Calls Tryd.prog 15 #[.slice none 0 0] W fun e W' => e = .returned (.tuple #[]) ∧ W' = W := by
  have hB := fun w => Tryd.bits_Len (0 : Int) w (by omega) (by omega)
  rw [show Lib.bitLen (0 : Int).toNat = 0 from by decide] at hB
  have hw : IntKind.u64.wrap (0 : Int) = 0 := by decide
  have hS := pdq_nil W
  go_enter Tryd.func15, Tryd.ntmps15
  go_wp2_with fail
  refine (hB _).mono ?_
  rintro e w1 ⟨rfl, rfl⟩
  go_wp2_with fail
  refine hS.mono ?_
  rintro e w2 ⟨rfl, rfl⟩
  go_wp2_with fail
  go_end0
  exact ⟨rfl, rfl⟩

end Go.Proofs.YtgococpbhbcpmaaDoor
