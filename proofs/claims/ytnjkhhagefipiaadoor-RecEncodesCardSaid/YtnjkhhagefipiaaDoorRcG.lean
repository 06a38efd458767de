/-
  Records: equal ones; the first statement of records.
-/
import Derived.Test.YtnjkhhagefipiaaDoorRcF
import Derived.DeepKeys
import Derived.Laws.IdiomArrays
namespace Go.Proofs.YtnjkhhagefipiaaDoor
open Go.RowKit
set_option linter.unusedVariables false
set_option linter.unusedSimpArgs false

theorem u64_wf (x : Nat) (h : x < 18446744073709551616) : (Lit.int .u64 ((x : Nat) : Int)).wf = true := by
  simp [Lit.wf, IntKind.min, IntKind.max, IntKind.signed, IntKind.bits]
  omega
theorem i64_wf (k : Int) (h1 : -9223372036854775808 ≤ k) (h2 : k ≤ 9223372036854775807) : (Lit.int .i64 k).wf = true := by
  simp [Lit.wf, IntKind.min, IntKind.max, IntKind.signed, IntKind.bits]
  omega
theorem rc_lits (r : Rc) (T : ByteArray) (hT : T.size ≤ maxLen) (ho : r.okay) :
    Tryd.prog.keyLits 2 24 (rcV r.seq r.kind T r.lease r.n r.bits).cells.toList = some [.int .u64 ((r.seq : Nat) : Int), .int .i64 r.kind, .string T.data.toList, .int .u64 ((r.lease : Nat) : Int), .int .u64 ((r.n : Nat) : Int), .int .u64 ((r.bits : Nat) : Int)] := by
  obtain ⟨o1, o2, o3, o4, o5, o6⟩ := ho
  have c1 : Tryd.prog.cellsOf 22 = 1 := by kernel_rfl
  have c2 : Tryd.prog.cellsOf 3 = 1 := by kernel_rfl
  have c3 : Tryd.prog.cellsOf 9 = 1 := by kernel_rfl
  have c4 : Tryd.prog.cellsOf 24 = 6 := by kernel_rfl
  simp [Program.keyLits, Tryd.underlying24, Tryd.underlying22, Tryd.underlying3, Tryd.underlying9, c1, c2, c3, c4, rcV, Value.cells, u64_wf, i64_wf, o1, o2, o3, o4, o5, o6, hT]

theorem rc_equal (r q : Rc) (T U : ByteArray) (hT : T.size ≤ maxLen) (hU : U.size ≤ maxLen) (hr : r.okay) (hq : q.okay) (w : World) :
    (Op.equalIn 10000 24 (rcV r.seq r.kind T r.lease r.n r.bits) (rcV q.seq q.kind U q.lease q.n q.bits)).run Tryd.prog w = .ok (decide (r.seq = q.seq ∧ r.kind = q.kind ∧ T = U ∧ r.lease = q.lease ∧ r.n = q.n ∧ r.bits = q.bits)) w := by
  obtain ⟨z, hz, hiff⟩ := run_equalIn_deep (P := Tryd.prog) 9998 2 24 (by kernel_rfl) w 2 2 (rcV r.seq r.kind T r.lease r.n r.bits) (rcV q.seq q.kind U q.lease q.n q.bits) _ _ (by
    have c4 : Tryd.prog.cellsOf 24 = 6 := by kernel_rfl
    simp [Value.formed, Tryd.underlying24, rcV, c4]) (by
    have c4 : Tryd.prog.cellsOf 24 = 6 := by kernel_rfl
    simp [Value.formed, Tryd.underlying24, rcV, c4]) (rc_lits r T hT hr) (rc_lits q U hU hq)
  have : z = decide (r.seq = q.seq ∧ r.kind = q.kind ∧ T = U ∧ r.lease = q.lease ∧ r.n = q.n ∧ r.bits = q.bits) := by
    rw [Bool.eq_iff_iff, hiff]
    have hs : T.data.toList = U.data.toList ↔ T = U := ⟨fun h => by
      obtain ⟨⟨x⟩⟩ := T
      obtain ⟨⟨y⟩⟩ := U
      simpa using h, fun h => by rw [h]⟩
    simp only [List.cons.injEq, Lit.int.injEq, Lit.string.injEq, true_and, and_true, decide_eq_true_eq, hs, Int.ofNat_inj]
  rw [← this]
  exact hz

/-- The comparison of two records. -/
theorem rc_eql (r q : Rc) (T U : ByteArray) (hT : T.size ≤ maxLen) (hU : U.size ≤ maxLen) (hr : r.okay) (hq : q.okay) (w : World) :
    (binOp .eql 24 (rcV r.seq r.kind T r.lease r.n r.bits) (rcV q.seq q.kind U q.lease q.n q.bits)).run Tryd.prog w = .ok (.bool (decide (r.seq = q.seq ∧ r.kind = q.kind ∧ T = U ∧ r.lease = q.lease ∧ r.n = q.n ∧ r.bits = q.bits))) w := by
  have h := rc_equal r q T U hT hU hr hq w
  unfold rcV at h ⊢
  simp only [binOp]
  simp [Op.equal, Op.maxDepth, h]

set_option maxRecDepth 100000 in
set_option maxHeartbeats 1000000 in
theorem awake11_any (W : World) (hD : DK W) : Calls Tryd.prog 6 #[] W fun e W' => e = .returned (.bool true) ∧ Below W.heap.size W W' := by
  have hE := encode_ok 1 1 ⟨#[97]⟩ 0 5 0 (by decide) (by decide) (by decide) (by decide) (by unfold maxLen; decide) W hD (by decide)
  unfold rcV at hE
  have hL : encC ⟨1, 1, (⟨#[97]⟩ : ByteArray).data.toList, 0, 5, 0⟩ = [1, 1, 0, 0, 0, 0, 0, 0, 0, 1, 97, 5, 0, 0, 0, 0, 0, 0, 0] := by decide
  rw [hL] at hE
  clear hL
  go_enter Tryd.func6, Tryd.ntmps6
  go_wp2_with fail
  refine hE.mono ?_
  rintro e w1 ⟨v, m, rfl, ho, hb⟩
  obtain ⟨A, c, rfl, h1, h2, h3⟩ := own_form ho
  have hm : m = 19 := (own_len ho).symm
  subst hm
  obtain ⟨b, o, rfl, hlt, hc⟩ := (Byt.of_own ho).2 (by decide)
  have z0 : w1.cell? ⟨b, o, none⟩ = some (.int .u8 1) := hc 0 1 rfl
  have z9 : w1.cell? ⟨b, o + 9, none⟩ = some (.int .u8 1) := hc 9 1 rfl
  have z10 : w1.cell? ⟨b, o + 10, none⟩ = some (.int .u8 97) := hc 10 97 rfl
  have z11 : w1.cell? ⟨b, o + 11, none⟩ = some (.int .u8 5) := hc 11 5 rfl
  clear hc ho h1
  go_wp2_with fail
  go_ret
  exact ⟨rfl, hb⟩

set_option maxRecDepth 100000 in
set_option maxHeartbeats 2000000 in
theorem recChecks_law (s : Nat) (k : Int) (T : ByteArray) (l n b : Nat) (kind : Int) (W : World) (hb : b < 18446744073709551616) (hT : T.size ≤ maxLen) (hD : DK W) :
    Calls Tryd.prog 3 #[rcV s k T l n b, .int .i64 kind] W fun e W' => e = .returned (.bool true) ∧ Below W.heap.size W W' := by
  have hB0 := (Below.refl W.heap.size W).alloc (Nat.le_refl _) (.cells (rcCs s k T l n b).toArray 24)
  have hN0 := Blk.new (cs := rcCs s k T l n b) W 24 _ rfl
  have hD0 := dk_below hD hB0 (Nat.le_refl _)
  obtain ⟨w1, hw1⟩ : ∃ w1, W.alloc (.cells (rcCs s k T l n b).toArray 24) = w1 := ⟨_, rfl⟩
  have hw2 : W.alloc (.cells #[.int .u64 ((s : Nat) : Int), .int .i64 k, .string T, .int .u64 ((l : Nat) : Int), .int .u64 ((n : Nat) : Int), .int .u64 ((b : Nat) : Int)] 24) = w1 := hw1
  rw [hw1] at hB0 hN0 hD0
  unfold rcV
  by_cases hbig : 100 < T.size
  · have HW := Lib.hid hw2
    clear hw1 hw2 hN0
    go_enter Tryd.func3, Tryd.ntmps3
    go_wp2_with (go_at_call 6; refine (awake11_any _ (by rw [HW.out]; exact hD0)).mono ?_; rintro e w2 ⟨rfl, hb2⟩; rw [HW.out] at hb2)
    go_ret
    exact ⟨rfl, hB0.trans (hb2.mono hB0.size)⟩
  have hck : ∀ w, Below w1.heap.size w1 w → Calls Tryd.prog 8 #[rcV s k T l n b] w fun e W' => e = .returned (.int .i64 (checkC ⟨s, k, T.data.toList, l, n, b⟩)) ∧ Below w.heap.size w W' := fun w hw => check_any s k T l n b hT hb w (dk_below hD0 hw (Nat.le_refl _))
  have hrk : ∀ w, Calls Tryd.prog 9 #[rcV s k T l n b] w fun e W' => e = .returned (.int .i64 (checkC ⟨s, k, T.data.toList, l, n, b⟩)) ∧ Below w.heap.size w W' := fun w => refCheck_any s k T l n b (by omega) hb w
  have hH := fun w => has_any kind w
  have hRH := fun z hz w => refHas_any kind z hz w
  have e1 : fldZ kind 108 = kL kind := rfl
  have e2 : fldZ kind 110 = kN kind := rfl
  have e3 : fldZ kind 98 = kB kind := rfl
  have hA := fun w (hw : Below w1.heap.size w1 w) => awake11_any w (dk_below hD0 hw (Nat.le_refl _))
  unfold rcV at hck hrk
  generalize checkC ⟨s, k, T.data.toList, l, n, b⟩ = c at hck hrk
  generalize kL kind = q1 at hH e1
  generalize kN kind = q2 at hH e2
  generalize kB kind = q3 at hH e3
  have HC : Hid (∀ w, Below w1.heap.size w1 w → w.cell? ⟨W.heap.size, 0, none⟩ = some (.int .u64 ((s : Nat) : Int)) ∧ w.cell? ⟨W.heap.size, 1, none⟩ = some (.int .i64 k) ∧ w.cell? ⟨W.heap.size, 2, none⟩ = some (.string T) ∧ w.cell? ⟨W.heap.size, 3, none⟩ = some (.int .u64 ((l : Nat) : Int)) ∧ w.cell? ⟨W.heap.size, 4, none⟩ = some (.int .u64 ((n : Nat) : Int)) ∧ w.cell? ⟨W.heap.size, 5, none⟩ = some (.int .u64 ((b : Nat) : Int))) :=
    Lib.hid (fun w hb => rc_cells (hN0.below hb hN0.lt))
  obtain ⟨z0, z1, z2, z3, z4, z5⟩ := rc_cells hN0
  have HB0 := Lib.hid hB0
  clear hB0 hN0 hD0 hw1 hD
  have hsm : ¬ (100 : Int) < (T.size : Int) := by omega
  go_enter Tryd.func3, Tryd.ntmps3
  go_wp2_with (go_at_call 7; refine (hH _).mono ?_; rintro e w1 ⟨rfl, rfl⟩)
  go_region_held3 (fun w' => w'.cell? ⟨W.heap.size, 0, none⟩ = some (.int .u64 ((s : Nat) : Int)) ∧ w'.cell? ⟨W.heap.size, 1, none⟩ = some (.int .i64 k) ∧ w'.cell? ⟨W.heap.size, 2, none⟩ = some (.string T) ∧ w'.cell? ⟨W.heap.size, 3, none⟩ = some (.int .u64 ((l : Nat) : Int)) ∧ w'.cell? ⟨W.heap.size, 4, none⟩ = some (.int .u64 ((n : Nat) : Int)) ∧ w'.cell? ⟨W.heap.size, 5, none⟩ = some (.int .u64 ((b : Nat) : Int)))
    (first | exact ⟨f0, f1, f2, f3, f4, f5⟩ | exact ⟨z0, z1, z2, z3, z4, z5⟩ | go_keep)
    ((first
      | (go_at_call 8; refine (hck _ (below_drewN (Below.refl _ w1) 1)).mono ?_; rintro r w2 ⟨rfl, hb2⟩; have hB := bthen (below_drewN (Below.refl _ w1) 1) hb2; obtain ⟨f0, f1, f2, f3, f4, f5⟩ := HC.out w2 hB; clear hb2)
      | (go_at_call 9; refine (hrk _).mono ?_; rintro r w3 ⟨rfl, hb3⟩; have hB3 := bthen hB hb3; clear hB hb3 f0 f1 f2 f3 f4 f5; have hB := hB3; clear hB3; obtain ⟨f0, f1, f2, f3, f4, f5⟩ := HC.out w3 hB)
      | (go_at_call 10; refine (hRH _ (by decide) _).mono ?_; rintro r w4 ⟨rfl, hb4⟩; have hB4 := bthen hB hb4; clear hB hb4 f0 f1 f2 f3 f4 f5; have hB := hB4; clear hB4; obtain ⟨f0, f1, f2, f3, f4, f5⟩ := HC.out w4 hB)
      | (go_at_call 6; refine (hA _ hB).mono ?_; rintro r w5 ⟨rfl, hb5⟩; have HB5 := Lib.hid (bthen hB hb5); clear hB hb5; obtain ⟨f0, f1, f2, f3, f4, f5⟩ := HC.out w5 HB5.out)))
  all_goals
    go_wp2_with fail
    go_ret
    exact ⟨rfl, HB0.out.trans (HB5.out.mono HB0.out.size)⟩

end Go.Proofs.YtnjkhhagefipiaaDoor
