/-
  A digest's bytes; slices.Grow and slices.Concat, where Sum calls them.
-/
import Derived.Test.YtnmibfncgoemfaaShaP
import Derived.Test.YtnmibfncgoemfaaShaB
import Derived.Lib.AppendZeros
namespace Go.Proofs.Ytnmibfncgoemfaa
open Go.RowKit
set_option linter.unusedVariables false
set_option linter.unusedSimpArgs false

/-- A number's four bytes, the highest first. -/
def wb (x : UInt32) : List UInt8 := [UInt8.ofNat (x.toNat / 16777216), UInt8.ofNat (x.toNat / 65536), UInt8.ofNat (x.toNat / 256), UInt8.ofNat x.toNat]
/-- The digest of a state. -/
def digL (l : List UInt32) : List UInt8 := l.flatMap wb
def digK (l : List UInt32) : Nat → List UInt8
  | 0 => List.replicate 32 0
  | k + 1 => ((((digK l k).set (4 * k) (UInt8.ofNat ((l.getD k 0).toNat / 16777216))).set (4 * k + 1) (UInt8.ofNat ((l.getD k 0).toNat / 65536))).set (4 * k + 2) (UInt8.ofNat ((l.getD k 0).toNat / 256))).set (4 * k + 3) (UInt8.ofNat (l.getD k 0).toNat)
theorem digK_len (l : List UInt32) (k : Nat) : (digK l k).length = 32 := by
  induction k with
  | zero => rfl
  | succ k ih => rw [digK, List.length_set, List.length_set, List.length_set, List.length_set, ih]
theorem digK_8 (s : St) : digK s.l 8 = digL s.l := by
  obtain ⟨a, b, c, d, e, f, g, h⟩ := s
  unfold digL
  simp only [digK, St.l, List.getD_cons_zero, List.getD_cons_succ, List.flatMap_cons, List.flatMap_nil, wb, List.replicate, List.set_cons_succ, List.set_cons_zero, Nat.reduceMul, Nat.reduceAdd, Nat.mul_zero, Nat.zero_add, List.cons_append, List.nil_append]
theorem digL_len (s : St) : (digL s.l).length = 32 := rfl

theorem by_3 (x : UInt32) : uN x / 16777216 % 256 = (((UInt8.ofNat (x.toNat / 16777216)).toNat : Nat) : Int) := by unfold uN; rw [ofNat_mod]; simp
theorem by_2 (x : UInt32) : uN x / 65536 % 256 = (((UInt8.ofNat (x.toNat / 65536)).toNat : Nat) : Int) := by unfold uN; rw [ofNat_mod]; simp
theorem by_1 (x : UInt32) : uN x / 256 % 256 = (((UInt8.ofNat (x.toNat / 256)).toNat : Nat) : Int) := by unfold uN; rw [ofNat_mod]; simp
theorem by_0 (x : UInt32) : uN x % 256 = (((UInt8.ofNat x.toNat).toNat : Nat) : Int) := by unfold uN; rw [ofNat_mod]; simp

set_option maxHeartbeats 1000000 in
/-- Grow of the nil slice by n > 0. -/
theorem grow_any (n : Nat) (h0 : 0 < n) (hn : n ≤ 140737488355328) (W : World) :
    Calls Try.prog 27 #[.slice none 0 0, .int .i64 ((n : Nat) : Int)] W fun e W' => ∃ v, e = .returned v ∧
      W'.ownsRow W.heap.size 5 1 v 0 [] ∧ Below W.heap.size W W' := by
  obtain ⟨i0, hi, hz0, hz1, hz2⟩ := info_parts Try.info5
  go_enter Try.func27, Try.ntmps27
  go_wp2_with (at_builtin; refine Lib.wpList_append_run _ rfl _ _ 22 3 rfl (.slice none 0 0) (.int .i64 n) rfl rfl _ _ (Lib.run_append_nil_zeros _ 22 3 _ 5 i0 (.int .u8 0) .i64 .i64 Try.underlying22 Try.underlying3 hi hz0 n h0 (by rw [hz1]; decide) (by omega) (by rw [hz2]; omega)) ?_)
  go_ret
  refine ⟨_, rfl, ⟨rfl, .inr ⟨W.heap.size, grownCap W n 0 5, _, rfl, Nat.le_refl _, heap_alloc_new W _, Nat.zero_le _, grownCap_le_maxLen _ _ _ _ (by unfold maxLen; omega), ?_, by simp⟩⟩, ?_⟩
  · have := grownCap_ge W n 0 5
    rw [Array.size_append, size_zeroCells, size_zeroCells]
    simp
    omega
  · exact below_drew ((Below.refl _ _).alloc (Nat.le_refl _) _)

/-- The bytes of the first k of two. -/
def twoL (l1 l2 : List UInt8) (k : Nat) : List UInt8 := if k = 0 then [] else if k = 1 then l1 else l1 ++ l2
def twoN (n1 n2 k : Nat) : Nat := if k = 0 then 0 else if k = 1 then n1 else n1 + n2

set_option maxHeartbeats 2000000 in
/-- Concat of two slices of bytes that lie in a slice of two. -/
theorem concat_any (A1 : Option Addr) (n1 c1 : Nat) (l1 : List UInt8) (A2 : Option Addr) (n2 c2 : Nat) (l2 : List UInt8) (g B : Nat) (W : World)
    (h1 : Byt W B A1 n1 l1) (hn1 : A1 = none → c1 = 0) (h2 : Byt W B A2 n2 l2) (hn2 : A2 = none → c2 = 0) (hB : B ≤ W.heap.size) (hb1 : n1 ≤ 70368744177664) (hb2 : n2 ≤ 70368744177664) (h0 : 0 < n1 + n2)
    (hc0 : W.cell? ⟨g, 0, none⟩ = some (.slice A1 n1 c1)) (hc1 : W.cell? ⟨g, 1, none⟩ = some (.slice A2 n2 c2)) :
    Calls Try.prog 19 #[.slice (some ⟨g, 0, none⟩) 2 2] W fun e W' => ∃ v, e = .returned v ∧
      W'.ownsRow W.heap.size 5 1 v (n1 + n2) ((l1 ++ l2).map bv) ∧ Below W.heap.size W W' := by
  obtain ⟨i0, hi, hz0, hz1, hz2⟩ := info_parts Try.info5
  have hgl := World.block_lt_of_cell? W _ hc0
  go_enter Try.func19, Try.ntmps19
  go_wp2_with fail
  go_loopw [3, 5, 11] (fun sz _ i wr => wr = W ∧ ∃ k m : Nat, k ≤ 2 ∧ i = .int .i64 k ∧ sz = .int .i64 m ∧ m = twoN n1 n2 k)
    (fun _ _ i _ => 2 - (intOf i).toNat)
  case atStart => exact ⟨rfl, 0, 0, by omega, rfl, rfl, rfl⟩
  case round =>
    obtain ⟨rfl, k, m, hk, rfl, rfl, hm⟩ := hrel
    by_cases hk0 : k = 0
    · subst hk0
      obtain rfl : m = 0 := hm
      go_wp2
      go_roundw
      case rel => exact ⟨trivial, 1, n1, by omega, by go_num, by go_num, rfl⟩
      case measure => simp [intOf]
    · by_cases hk1 : k = 1
      · subst hk1
        obtain rfl : m = n1 := hm
        go_wp2
        go_roundw
        case rel => exact ⟨trivial, 2, m + n2, by omega, by go_num, by go_num, rfl⟩
        case measure => simp [intOf]
      · have hk2 : ¬ ((k : Int) < 2) := by omega
        have hmm : m = n1 + n2 := by rw [hm]; unfold twoN; rw [if_neg hk0, if_neg hk1]
        have hm0 : 0 < m := by omega
        have hm47 : m ≤ 140737488355328 := by omega
        have HM := Lib.hid hmm
        clear hk hk0 hk1 hm hmm
        go_wp2_with (go_at_call 27; refine (grow_any m hm0 hm47 _).mono ?_; rintro e w1 ⟨v, rfl, hown, hbel⟩)
        obtain ⟨w0, rfl⟩ : ∃ w0, w0 = wr := ⟨_, rfl⟩
        clear hk2
        go_loopw [6, 8, 27] (fun v _ i wx => ∃ j : Nat, j ≤ 2 ∧ i = .int .i64 j ∧ wx.ownsRow w0.heap.size 5 1 v (twoN n1 n2 j) ((twoL l1 l2 j).map bv) ∧ Below w0.heap.size w0 wx)
          (fun _ _ i _ => 2 - (intOf i).toNat)
        case atStart => exact ⟨0, by omega, rfl, hown, hbel⟩
        case round =>
          obtain ⟨j, hj, rfl, hown2, hb2⟩ := hrel
          have hs2 := hb2.size
          have d0 := (hb2.cell (p := ⟨g, 0, none⟩) hgl).trans hc0
          have d1 := (hb2.cell (p := ⟨g, 1, none⟩) hgl).trans hc1
          have e1 := h1.below (hb2.mono hB)
          have e2 := h2.below (hb2.mono hB)
          clear hown hbel
          by_cases hj0 : j = 0
          · subst hj0
            go_wp2_with (at_builtin; refine wpList_append_byt _ rfl _ _ 22 rfl w0.heap.size 5 i0 (.int .u8 0) Try.underlying22 hi hz0 hz1 hz2 rfl _ _ _ rfl hown2 B A1 n1 c1 l1 rfl e1 hn1 ?x3 ?x4 ?_)
            case x3 => show 0 + n1 ≤ _; omega
            case x4 => omega
            intro v' w3 hown' hgrow
            have hb' := hb2.grown hgrow hs2 (fun j hj => (hown2.lt j hj).1)
            have HO := Lib.hid hown'
            clear hown' hown2 hgrow
            go_wp2
            go_roundw
            case rel => exact ⟨1, by omega, by go_num, by have := HO.out; simpa [twoN, twoL] using this, hb'⟩
            case measure => simp [intOf]
          · by_cases hj1 : j = 1
            · subst hj1
              go_wp2_with (at_builtin; refine wpList_append_byt _ rfl _ _ 22 rfl w0.heap.size 5 i0 (.int .u8 0) Try.underlying22 hi hz0 hz1 hz2 rfl _ _ _ rfl hown2 B A2 n2 c2 l2 rfl e2 hn2 ?y3 ?y4 ?_)
              case y3 => unfold twoN; simp; omega
              case y4 => omega
              intro v' w3 hown' hgrow
              have hb' := hb2.grown hgrow hs2 (fun j hj => (hown2.lt j hj).1)
              have HO := Lib.hid hown'
              clear hown' hown2 hgrow
              go_wp2
              go_roundw
              case rel => exact ⟨2, by omega, by go_num, by have := HO.out; simpa [twoN, twoL] using this, hb'⟩
              case measure => simp [intOf]
            · have hj2 : ¬ ((j : Int) < 2) := by omega
              have HJ := Lib.hid (show j = 2 by omega)
              have HO := Lib.hid hown2
              clear hj hj0 hj1 hown2
              go_wp2_with fail
              go_ret
              refine ⟨_, rfl, ?_, hb2⟩
              have := HO.out
              rw [HJ.out] at this
              simpa [twoN, twoL] using this

end Go.Proofs.Ytnmibfncgoemfaa
