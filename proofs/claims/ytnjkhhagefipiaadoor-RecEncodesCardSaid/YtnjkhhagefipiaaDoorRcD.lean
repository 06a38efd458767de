/-
  The reference of records: a record's bytes.
-/
import Derived.Test.YtnjkhhagefipiaaDoorRcC
import Derived.Lib.AppendStr
namespace Go.Proofs.YtnjkhhagefipiaaDoor
open Go.RowKit
set_option linter.unusedVariables false
set_option linter.unusedSimpArgs false

theorem str_cells (T : ByteArray) : Lib.strCells T = T.data.toList.map bv := rfl

/-- What was below stays so where a row of one's own grows. -/
theorem acc_step {B n : Nat} {W1 w2 w3 : World} {e : TypeId} {v : Value} {xs : List Value} (hB : Below B W1 w2) (hle : B ≤ w2.heap.size) (ha : w2.ownsRow B e 1 v n xs) (hg : w2.grownBy w3 v.ownBlock) : Below B W1 w3 :=
  hB.grown hg hle fun q hq => (ha.lt q hq).1

theorem own_cast {w : World} {base n : Nat} {e : TypeId} {v : Value} {xs ys : List Value} (h : w.ownsRow base e 1 v n xs) (he : xs = ys) : w.ownsRow base e 1 v n ys := he ▸ h

set_option maxRecDepth 100000 in
theorem refText_any (T : ByteArray) (hT : T.size ≤ 1000000) (W : World) :
    Calls Tryd.prog 34 #[.int .i64 1, .string T] W fun e W' => ∃ v n, e = .returned v ∧ n ≤ 1000001 ∧ W'.ownsRow W.heap.size 5 1 v n ((UInt8.ofNat T.size :: T.data.toList).map bv) ∧ Below W.heap.size W W' := by
  obtain ⟨i0, hi, hz0, hz1, hz2⟩ := info_parts Tryd.info5
  go_enter Tryd.func34, Tryd.ntmps34
  go_wp2_with fail
  refine (bytes_any 1 T.size (by omega) (by omega) _).mono ?_
  rintro e w2 ⟨u, rfl, hu, hb2⟩
  simp only [show (1 : Int).toNat = 1 from rfl] at hu
  go_wp2_with (at_builtin; refine Lib.wpList_append_own_string _ rfl _ _ 32 9 rfl W.heap.size 5 i0 Tryd.underlying32 Tryd.underlying9 hi hz0 hz1 hz2 _ _ _ rfl hu T rfl (by unfold maxLen; omega) (by omega) hb2.size ?_; intro v3 w3 ha3 hg3 _; have hB3 := acc_step hb2 hb2.size hu hg3)
  go_ret
  exact ⟨_, _, rfl, by omega, ha3, hB3⟩

attribute [local go_sem] fz1_108 fz1_110 fz1_98 fz2_108 fz2_110 fz2_98 fz3_108 fz3_110 fz3_98 fz4_108 fz4_110 fz4_98 fz5_108 fz5_110 fz5_98

set_option maxRecDepth 100000 in
set_option maxHeartbeats 4000000 in
theorem refBytes_any (s : Nat) (k : Int) (T : ByteArray) (l n b : Nat) (hs : s < 18446744073709551616) (hl : l < 18446744073709551616) (hn : n < 18446744073709551616) (hb : b < 18446744073709551616) (hT : T.size ≤ 1000000) (hk : isK k = true) (W : World) :
    Calls Tryd.prog 14 #[rcV s k T l n b] W fun e W' => ∃ v m, e = .returned v ∧ W'.ownsRow W.heap.size 5 1 v m ((encC ⟨s, k, T.data.toList, l, n, b⟩).map bv) ∧ Below W.heap.size W W' := by
  obtain ⟨i0, hi, hz0, hz1, hz2⟩ := info_parts Tryd.info5
  have h : 1 ≤ k ∧ k ≤ 5 := by unfold isK at hk; simpa using hk
  have hsz : T.data.toList.length = T.size := by simp
  unfold rcV
  have hN := Blk.new (cs := rcCs s k T l n b) W 24 _ rfl
  have hB0 : Below W.heap.size W (W.alloc (.cells (rcCs s k T l n b).toArray 24)) := (Below.refl W.heap.size W).alloc (Nat.le_refl _) _
  have HB0 := Lib.hid hB0
  have hB : Below (W.heap.size + 1) (W.alloc (.cells (rcCs s k T l n b).toArray 24)) (W.alloc (.cells (rcCs s k T l n b).toArray 24)) := Below.refl _ _
  obtain rfl | rfl | rfl | rfl | rfl : k = 1 ∨ k = 2 ∨ k = 3 ∨ k = 4 ∨ k = 5 := by omega
  all_goals
    clear h hk hB0
    go_enter Tryd.func14, Tryd.ntmps14
    go_wp2_with fail
    refine (bytes_int 1 _ (by decide) (by decide) (by decide) _).mono ?_
    rintro e w2 ⟨u, rfl, hu, hb2⟩
    have hN1 := hN.below hb2 (by simp)
    have hB1 := hB.trans (hb2.mono (by simp))
    have ha := own_mono hu (show W.heap.size + 1 ≤ _ by simp)
    clear hN hB hu hb2
    have hN := hN1
    have hB := hB1
    clear hN1 hB1
    obtain ⟨z0, z1, z2, z3, z4, z5⟩ := rc_cells hN
    have hlt := hN.lt
    go_wp2_with (first
      | (go_at_call 33; refine (bytes_any 8 _ (by omega) (by decide) _).mono ?_; rintro e w3 ⟨u3, rfl, hu, hb3⟩; obtain ⟨X, q, rfl, hn3, hl3, hm3⟩ := own_form hu; simp only [show (8 : Int).toNat = 8 from rfl] at hu hn3 hl3 ⊢; have hx := Byt.of_own hu; have ha' := own_below ha hb3; have hN' := hN.below hb3 hN.lt; have hB' := hB.trans (hb3.mono hN.lt); have hs3 := Nat.lt_of_lt_of_le hN.lt hb3.size; clear ha hN hB hu hb3; clear z0 z1 z2 z3 z4 z5; obtain ⟨z0, z1, z2, z3, z4, z5⟩ := rc_cells hN')
      | (go_at_call 34; refine (refText_any T hT _).mono ?_; rintro e w3 ⟨u3, m3, rfl, HM, hu, hb3⟩; obtain ⟨X, q, rfl, hn3, hl3, hm3⟩ := own_form hu; have hx := Byt.of_own hu; have ha' := own_below ha hb3; have hN' := hN.below hb3 hN.lt; have hB' := hB.trans (hb3.mono hN.lt); have hs3 := Nat.lt_of_lt_of_le hN.lt hb3.size; clear ha hN hB hu hb3; clear z0 z1 z2 z3 z4 z5; obtain ⟨z0, z1, z2, z3, z4, z5⟩ := rc_cells hN')
      | (go_at_call 10; refine (refHas_any _ _ (by decide) _).mono ?_; rintro e w3 ⟨rfl, hx⟩; have ha' := own_below ha hx; have hN' := hN.below hx hN.lt; have hB' := hB.trans (hx.mono hN.lt); clear ha hN hB hx; clear z0 z1 z2 z3 z4 z5; obtain ⟨z0, z1, z2, z3, z4, z5⟩ := rc_cells hN'; have ha := ha'; have hN := hN'; have hB := hB'; clear ha' hN' hB')
      | (at_builtin; refine wpList_append_byt _ rfl _ _ 32 rfl (W.heap.size + 1) 5 i0 (.int .u8 0) Tryd.underlying32 hi hz0 hz1 hz2 rfl _ _ _ rfl ha' _ X _ q _ rfl hx (fun h => (hn3 h).2) (by omega) hs3 ?_; intro v4 w4 ha hg4; have hB := acc_step hB' hs3 ha' hg4; have hN := hN'.below (B := W.heap.size + 1) (acc_step (Below.refl _ _) hs3 ha' hg4) (by omega); clear ha' hN' hB' hg4 hx hs3; clear z0 z1 z2 z3 z4 z5; obtain ⟨z0, z1, z2, z3, z4, z5⟩ := rc_cells hN))
    go_ret
    exact ⟨_, _, rfl, own_cast (own_mono ha (show W.heap.size ≤ W.heap.size + 1 by omega)) (by simp [encC, fldC, kL, kN, kB, hsz]), HB0.out.trans (hB.mono (by omega))⟩

end Go.Proofs.YtnjkhhagefipiaaDoor
