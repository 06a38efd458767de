/-
  A disk that is nil; DiskNobody, walked.
-/
import Derived.Test.YtnjkilmhphcocaaDpN
namespace Go.Proofs.Ytnjkilmhphcocaa
open Go.RowKit
set_option linter.unusedVariables false
set_option linter.unusedSimpArgs false

set_option maxRecDepth 100000 in
set_option maxHeartbeats 2000000 in
theorem ndown_any (W : World) : Calls Try.prog 17 #[.pointer none] W fun e W' => e = .returned (.bool true) ∧ W' = W := by
  go_enter Try.func17, Try.ntmps17
  go_wp2
  go_ret
  exact ⟨rfl, rfl⟩
set_option maxRecDepth 100000 in
set_option maxHeartbeats 2000000 in
theorem ncalls_any (W : World) : Calls Try.prog 16 #[.pointer none] W fun e W' => e = .returned (.int .u64 0) ∧ W' = W := by
  go_enter Try.func16, Try.ntmps16
  go_wp2
  go_ret
  exact ⟨rfl, rfl⟩
set_option maxRecDepth 100000 in
set_option maxHeartbeats 2000000 in
theorem nsize_any (W : World) : Calls Try.prog 18 #[.pointer none] W fun e W' => e = .returned (.int .i64 0) ∧ W' = W := by
  go_enter Try.func18, Try.ntmps18
  go_wp2
  go_ret
  exact ⟨rfl, rfl⟩
set_option maxRecDepth 100000 in
set_option maxHeartbeats 2000000 in
theorem nlist_any (W : World) : Calls Try.prog 21 #[.pointer none] W fun e W' => e = .returned (.slice none 0 0) ∧ W' = W := by
  go_enter Try.func21, Try.ntmps21
  go_wp2
  go_ret
  exact ⟨rfl, rfl⟩
set_option maxRecDepth 100000 in
set_option maxHeartbeats 2000000 in
theorem nfiles_any (W : World) : Calls Try.prog 15 #[.pointer none] W fun e W' => e = .returned (.slice none 0 0) ∧ W' = W := by
  go_enter Try.func15, Try.ntmps15
  go_wp2_with fail
  refine (nlist_any W).mono ?_
  rintro e W1 ⟨rfl, rfl⟩
  go_wp2_with fail
  go_loop [3, 10] (fun v i => v = .slice none 0 0 ∧ i = .int .i64 0) (fun _ _ => 0)
  case atStart => exact ⟨rfl, rfl⟩
  case round =>
    obtain ⟨rfl, rfl⟩ := hrel
    go_wp2
    go_ret
    exact ⟨rfl, rfl⟩
set_option maxRecDepth 100000 in
set_option maxHeartbeats 2000000 in
theorem nread_any (W : World) (s : ByteArray) : Calls Try.prog 11 #[.pointer none, .string s] W fun e W' => e = .returned (.tuple #[.slice none 0 0, .int .i64 19]) ∧ W' = W := by
  go_enter Try.func11, Try.ntmps11
  go_wp2_with fail
  refine (ndown_any W).mono ?_
  rintro e W1 ⟨rfl, rfl⟩
  go_wp2_with fail
  go_ret2
  exact ⟨rfl, rfl⟩
set_option maxRecDepth 100000 in
set_option maxHeartbeats 2000000 in
theorem nbegin_any (W : World) (v : Value) : Calls Try.prog 38 #[.pointer none, v] W fun e W' => e = .returned (.int .i64 19) ∧ W' = W := by
  go_enter Try.func38, Try.ntmps38
  go_wp2_with fail
  refine (ndown_any W).mono ?_
  rintro e W1 ⟨rfl, rfl⟩
  go_wp2_with fail
  go_ret
  exact ⟨rfl, rfl⟩
set_option maxRecDepth 100000 in
set_option maxHeartbeats 2000000 in
theorem nappend_any (W : World) (s : ByteArray) (v : Value) : Calls Try.prog 23 #[.pointer none, .string s, v] W fun e W' => e = .returned (.int .i64 19) ∧ Below W.heap.size W W' := by
  go_enter Try.func23, Try.ntmps23
  go_wp2_with fail
  refine (nbegin_any _ _).mono ?_
  rintro e W1 ⟨rfl, rfl⟩
  go_wp2_with fail
  go_ret
  exact ⟨rfl, (Below.refl _ W).alloc (Nat.le_refl _) _⟩
set_option maxRecDepth 100000 in
set_option maxHeartbeats 2000000 in
theorem nsync_any (W : World) (s : ByteArray) : Calls Try.prog 24 #[.pointer none, .string s] W fun e W' => e = .returned (.int .i64 19) ∧ Below W.heap.size W W' := by
  go_enter Try.func24, Try.ntmps24
  go_wp2_with fail
  refine (nbegin_any _ _).mono ?_
  rintro e W1 ⟨rfl, rfl⟩
  go_wp2_with fail
  go_ret
  exact ⟨rfl, (Below.refl _ W).alloc (Nat.le_refl _) _⟩
set_option maxRecDepth 100000 in
set_option maxHeartbeats 2000000 in
theorem nrename_any (W : World) (s t : ByteArray) : Calls Try.prog 25 #[.pointer none, .string s, .string t] W fun e W' => e = .returned (.int .i64 19) ∧ Below W.heap.size W W' := by
  go_enter Try.func25, Try.ntmps25
  go_wp2_with fail
  refine (nbegin_any _ _).mono ?_
  rintro e W1 ⟨rfl, rfl⟩
  go_wp2_with fail
  go_ret
  exact ⟨rfl, (Below.refl _ W).alloc (Nat.le_refl _) _⟩
set_option maxRecDepth 100000 in
set_option maxHeartbeats 2000000 in
theorem nremove_any (W : World) (s : ByteArray) : Calls Try.prog 26 #[.pointer none, .string s] W fun e W' => e = .returned (.int .i64 19) ∧ Below W.heap.size W W' := by
  go_enter Try.func26, Try.ntmps26
  go_wp2_with fail
  refine (nbegin_any _ _).mono ?_
  rintro e W1 ⟨rfl, rfl⟩
  go_wp2_with fail
  go_ret
  exact ⟨rfl, (Below.refl _ W).alloc (Nat.le_refl _) _⟩
set_option maxRecDepth 100000 in
set_option maxHeartbeats 2000000 in
theorem narm_any (W : World) (n m : Int) : Calls Try.prog 27 #[.pointer none, .int .u64 n, .int .i64 m] W fun e W' => e = .returned (.tuple #[]) ∧ W' = W := by
  go_enter Try.func27, Try.ntmps27
  go_wp2
  go_end0
  exact ⟨rfl, rfl⟩
set_option maxRecDepth 100000 in
set_option maxHeartbeats 2000000 in
theorem ncrash_any (W : World) (m : Int) : Calls Try.prog 22 #[.pointer none, .int .i64 m] W fun e W' => e = .returned (.tuple #[]) ∧ W' = W := by
  go_enter Try.func22, Try.ntmps22
  go_wp2
  (try simp only [Exit.inBlock, Exit.then])
  refine bodyPost_ret (results_none rfl _ _ _) rfl ?_
  exact ⟨rfl, rfl⟩
set_option maxRecDepth 100000 in
set_option maxHeartbeats 2000000 in
theorem nup_any (W : World) : Calls Try.prog 28 #[.pointer none] W fun e W' => e = .returned (.tuple #[]) ∧ W' = W := by
  go_enter Try.func28, Try.ntmps28
  go_wp2
  go_end0
  exact ⟨rfl, rfl⟩

/-- A step. -/
def nobR (s : Sp) : Int := if isCall s then 19 else 0
set_option maxRecDepth 100000 in
set_option maxHeartbeats 4000000 in
theorem ndo_any (W : World) (s : Sp) (A : Option Addr) (n c : Nat) : Calls Try.prog 9 #[.pointer none, spV s A n c] W fun e W' => e = .returned (.int .i64 (nobR s)) ∧ Below W.heap.size W W' := by
  unfold spV nobR isCall
  obtain ⟨K, hK⟩ : ∃ K, s.kind = K := ⟨_, rfl⟩
  rw [hK]
  clear hK
  have hb : ∀ (o : Obj), Below W.heap.size W (W.alloc o) := fun o => (Below.refl _ W).alloc (Nat.le_refl _) o
  have HB := Lib.hid hb
  clear hb
  by_cases k1 : K = 1
  · subst k1
    go_enter Try.func9, Try.ntmps9
    go_wp2_with fail
    refine (nappend_any _ _ _).mono ?_
    rintro e W' ⟨rfl, hb⟩
    have HP := Lib.hid (bthen (HB.out _) hb)
    clear hb
    go_wp2_with fail
    go_ret
    exact ⟨rfl, HP.out⟩
  by_cases k2 : K = 2
  · subst k2
    go_enter Try.func9, Try.ntmps9
    go_wp2_with fail
    refine (nsync_any _ _).mono ?_
    rintro e W' ⟨rfl, hb⟩
    have HP := Lib.hid (bthen (HB.out _) hb)
    clear hb
    go_wp2_with fail
    go_ret
    exact ⟨rfl, HP.out⟩
  by_cases k3 : K = 3
  · subst k3
    go_enter Try.func9, Try.ntmps9
    go_wp2_with fail
    refine (nrename_any _ _ _).mono ?_
    rintro e W' ⟨rfl, hb⟩
    have HP := Lib.hid (bthen (HB.out _) hb)
    clear hb
    go_wp2_with fail
    go_ret
    exact ⟨rfl, HP.out⟩
  by_cases k4 : K = 4
  · subst k4
    go_enter Try.func9, Try.ntmps9
    go_wp2_with fail
    refine (nremove_any _ _).mono ?_
    rintro e W' ⟨rfl, hb⟩
    have HP := Lib.hid (bthen (HB.out _) hb)
    clear hb
    go_wp2_with fail
    go_ret
    exact ⟨rfl, HP.out⟩
  by_cases k5 : K = 5
  · subst k5
    go_enter Try.func9, Try.ntmps9
    go_wp2_with fail
    refine (narm_any _ _ _).mono ?_
    rintro e W' ⟨rfl, rfl⟩
    go_wp2_with fail
    go_ret
    exact ⟨rfl, HB.out _⟩
  by_cases k6 : K = 6
  · subst k6
    go_enter Try.func9, Try.ntmps9
    go_wp2_with fail
    refine (ncrash_any _ _).mono ?_
    rintro e W' ⟨rfl, rfl⟩
    go_wp2_with fail
    go_ret
    exact ⟨rfl, HB.out _⟩
  by_cases k7 : K = 7
  · subst k7
    go_enter Try.func9, Try.ntmps9
    go_wp2_with fail
    refine (nup_any _).mono ?_
    rintro e W' ⟨rfl, rfl⟩
    go_wp2_with fail
    go_ret
    exact ⟨rfl, HB.out _⟩
  have hn : (decide (1 ≤ K) && decide (K ≤ 4)) = false := by simp; omega
  have d1 : (K == 1) = false := by simpa using k1
  have d2 : (K == 2) = false := by simpa using k2
  have d3 : (K == 3) = false := by simpa using k3
  have d4 : (K == 4) = false := by simpa using k4
  have d5 : (K == 5) = false := by simpa using k5
  have d6 : (K == 6) = false := by simpa using k6
  have d7 : (K == 7) = false := by simpa using k7
  rw [hn]
  clear hn k1 k2 k3 k4 k5 k6 k7
  go_enter Try.func9, Try.ntmps9
  go_wp2_with fail
  go_ret
  exact ⟨rfl, HB.out _⟩

set_option maxRecDepth 100000 in
set_option maxHeartbeats 4000000 in
theorem diskNobody_law (A : Option Addr) (n c : Nat) (ss : List Sp) (W : World) (hss : Sps W (fun j => W.heap.size ≤ j) A n ss) (hsn : ∀ s ∈ ss, s.n < 18446744073709551616) (_ : A = none → c = 0) (hnc : n ≤ c) (hcm : c ≤ maxLen) :
    Calls Try.prog 5 #[.slice A n c] W fun e W' => e = .returned (.bool true) ∧ Below W.heap.size W W' := by
  have hn : n ≤ maxLen := Nat.le_trans hnc hcm
  have hLg := large9_any A n c ss _ W hss hn
  have HI := Lib.hid hss
  clear hss hsn hnc hcm
  cases hlg : largeS ss
  · obtain ⟨hl90, hsm⟩ := largeS_false ss hlg
    rw [hlg] at hLg
    have hn90 : n ≤ 90 := by have := HI.out.1; omega
    clear hlg hn hl90 hsm
    go_enter Try.func5, Try.ntmps5
    go_wp2_with fail
    refine hLg.mono ?_
    rintro e W1 ⟨rfl, rfl⟩
    clear hLg
    go_wp2_with fail
    go_loopw [4] (fun i wr => ∃ k : Nat, k ≤ n ∧ i = .int .i64 k ∧ Below W1.heap.size W1 wr) (fun i _ => n - (intOf i).toNat)
    case atStart => exact ⟨0, Nat.zero_le _, rfl, Below.refl _ _⟩
    case round =>
      obtain ⟨k, hk, rfl, hb⟩ := hrel
      by_cases hlt : k < n
      · obtain ⟨s, hs⟩ : ∃ s, ss[k]? = some s := ⟨_, List.getElem?_eq_getElem (by have := HI.out.1; omega)⟩
        obtain ⟨b, o, rfl, hbS, hfa⟩ := HI.out.2 (by omega)
        obtain ⟨y0, y1, y2, y3, y4, y5, hc, hv⟩ := hfa k s hs
        obtain ⟨A2, n2, c2, rfl, rfl, rfl, rfl, rfl, rfl, hby, hnil2, hnc2, hcm2⟩ := sp_parts hv
        have hbw : b < W1.heap.size := Nat.not_le.1 hbS
        obtain ⟨z0, z1, z2, z3, z4, z5⟩ := StepAt.turn (W := W1) hc hbw (Turn.of_below hb)
        have HSA : Hid (∀ w, Below W1.heap.size W1 w → w.cell? ⟨b, o + k * 6, none⟩ = some (.int .i64 s.kind)) := Lib.hid (fun w hb => (StepAt.turn (W := W1) hc hbw (Turn.of_below hb)).1)
        have hdo := fun w => ndo_any w s A2 n2 c2
        unfold spV nobR isCall at hdo
        obtain ⟨K, hK⟩ : ∃ K, s.kind = K := ⟨_, rfl⟩
        rw [hK] at hdo z0 HSA
        have HB := Lib.hid hb
        have i0 : (0 : Int) ≤ (k : Int) := by omega
        have i1 : (k : Int) < (n : Int) := by omega
        clear hfa hc hv hby hnil2 hnc2 hcm2 hs hbS hK hb
        go_wp2_with fail
        refine (hdo _).mono ?_
        rintro e w3 ⟨rfl, hb3⟩
        have hb4 := bthen HB.out hb3
        have z0' := HSA.out w3 hb4
        have HB4 := Lib.hid hb4
        clear hdo hb3 hb4 z0 z1 z2 z3 z4 z5 HB
        by_cases hc4 : 1 ≤ K ∧ K ≤ 4
        · have d1 : decide (1 ≤ K) = true := decide_eq_true hc4.1
          have d2 : decide (K ≤ 4) = true := decide_eq_true hc4.2
          have d3 : decide (K ≥ 1) = true := d1
          rw [d1, d2]
          clear hc4
          go_wp2_with fail
          go_roundw
          case rel => exact ⟨k + 1, by omega, by go_num, HB4.out⟩
          case measure => simp [intOf]; omega
        · have d0 : (decide (1 ≤ K) && decide (K ≤ 4)) = false := by simp; omega
          rw [d0]
          by_cases h1 : 1 ≤ K
          · have d1 : decide (1 ≤ K) = true := decide_eq_true h1
            have d2 : decide (K ≤ 4) = false := decide_eq_false (by omega)
            have d3 : decide (K ≥ 1) = true := d1
            clear hc4 h1 d0
            go_wp2_with fail
            go_roundw
            case rel => exact ⟨k + 1, by omega, by go_num, HB4.out⟩
            case measure => simp [intOf]; omega
          · have d1 : decide (1 ≤ K) = false := decide_eq_false h1
            have d3 : decide (K ≥ 1) = false := d1
            clear hc4 h1 d0
            go_wp2_with fail
            go_roundw
            case rel => exact ⟨k + 1, by omega, by go_num, HB4.out⟩
            case measure => simp [intOf]; omega
      · have HB := Lib.hid hb
        clear hb
        go_wp2_with fail
        refine (nread_any _ _).mono ?_
        rintro e w3 ⟨rfl, rfl⟩
        go_wp2_with fail
        refine (ndown_any _).mono ?_
        rintro e w4 ⟨rfl, rfl⟩
        go_wp2_with fail
        refine (nfiles_any _).mono ?_
        rintro e w5 ⟨rfl, rfl⟩
        go_wp2_with fail
        refine (nlist_any _).mono ?_
        rintro e w6 ⟨rfl, rfl⟩
        go_wp2_with fail
        refine (nsize_any _).mono ?_
        rintro e w7 ⟨rfl, rfl⟩
        go_wp2_with fail
        refine (ncalls_any _).mono ?_
        rintro e w8 ⟨rfl, rfl⟩
        go_wp2_with fail
        refine (awake9_law _).mono ?_
        rintro e w9 ⟨rfl, hb9⟩
        have HB9 := Lib.hid (bthen HB.out hb9)
        clear hb9
        go_wp2_with fail
        go_ret
        exact ⟨rfl, HB9.out⟩
  · rw [hlg] at hLg
    clear HI hlg hn
    go_enter Try.func5, Try.ntmps5
    go_wp2_with fail
    refine hLg.mono ?_
    rintro e W1 ⟨rfl, rfl⟩
    clear hLg
    go_wp2_with fail
    refine (awake9_law _).mono ?_
    rintro e W2 ⟨rfl, hb⟩
    have HB := Lib.hid hb
    clear hb
    go_wp2_with fail
    go_ret
    exact ⟨rfl, HB.out⟩

end Go.Proofs.Ytnjkilmhphcocaa
