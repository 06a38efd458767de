/-
  Records: equal ones; the first statement of records.
-/
import Derived.Test.YthjikbhjciphiaaGreatDoorZz23
import Derived.DeepKeys
import Derived.Laws.IdiomArrays
import Derived.Test.YthjikbhjciphiaaGreatDoorZz16
import Derived.Test.YthjikbhjciphiaaGreatDoorZz3
import Derived.Test.YthjikbhjciphiaaGreatDoorZz24
import Derived.Test.YthjikbhjciphiaaGreatDoorZz25
namespace Go.Proofs.YthjikbhjciphiaaGreatDoor
open Go.RowKit
set_option linter.unusedVariables false
set_option linter.unusedSimpArgs false

theorem u64_wf (x : Nat) (h : x < 18446744073709551616) : (Lit.int .u64 ((x : Nat) : Int)).wf = true := by
  simp [Lit.wf, IntKind.min, IntKind.max, IntKind.signed, IntKind.bits]
  omega
theorem i64_wf (k : Int) (h1 : -9223372036854775808 ≤ k) (h2 : k ≤ 9223372036854775807) : (Lit.int .i64 k).wf = true := by
  simp [Lit.wf, IntKind.min, IntKind.max, IntKind.signed, IntKind.bits]
  omega
theorem rc_lits (r : Rc) (T : ByteArray) (hT : T.size ≤ maxLen) (ho : r.okay) :
    Tryz.prog.keyLits 2 35 (rcV r.seq r.kind T r.lease r.n r.bits).cells.toList = some [.int .u64 ((r.seq : Nat) : Int), .int .i64 r.kind, .string T.data.toList, .int .u64 ((r.lease : Nat) : Int), .int .u64 ((r.n : Nat) : Int), .int .u64 ((r.bits : Nat) : Int)] := by
  obtain ⟨o1, o2, o3, o4, o5, o6⟩ := ho
  have c1 : Tryz.prog.cellsOf 23 = 1 := by kernel_rfl
  have c2 : Tryz.prog.cellsOf 3 = 1 := by kernel_rfl
  have c3 : Tryz.prog.cellsOf 9 = 1 := by kernel_rfl
  have c4 : Tryz.prog.cellsOf 35 = 6 := by kernel_rfl
  simp [Program.keyLits, Tryz.underlying35, Tryz.underlying23, Tryz.underlying3, Tryz.underlying9, c1, c2, c3, c4, rcV, Value.cells, u64_wf, i64_wf, o1, o2, o3, o4, o5, o6, hT]

theorem rc_equal (r q : Rc) (T U : ByteArray) (hT : T.size ≤ maxLen) (hU : U.size ≤ maxLen) (hr : r.okay) (hq : q.okay) (w : World) :
    (Op.equalIn 10000 35 (rcV r.seq r.kind T r.lease r.n r.bits) (rcV q.seq q.kind U q.lease q.n q.bits)).run Tryz.prog w = .ok (decide (r.seq = q.seq ∧ r.kind = q.kind ∧ T = U ∧ r.lease = q.lease ∧ r.n = q.n ∧ r.bits = q.bits)) w := by
  obtain ⟨z, hz, hiff⟩ := run_equalIn_deep (P := Tryz.prog) 9998 2 35 (by kernel_rfl) w 2 2 (rcV r.seq r.kind T r.lease r.n r.bits) (rcV q.seq q.kind U q.lease q.n q.bits) _ _ (by
    have c4 : Tryz.prog.cellsOf 35 = 6 := by kernel_rfl
    simp [Value.formed, Tryz.underlying35, rcV, c4]) (by
    have c4 : Tryz.prog.cellsOf 35 = 6 := by kernel_rfl
    simp [Value.formed, Tryz.underlying35, rcV, c4]) (rc_lits r T hT hr) (rc_lits q U hU hq)
  have : z = decide (r.seq = q.seq ∧ r.kind = q.kind ∧ T = U ∧ r.lease = q.lease ∧ r.n = q.n ∧ r.bits = q.bits) := by
    rw [Bool.eq_iff_iff, hiff]
    have hs : T.data.toList = U.data.toList ↔ T = U := ⟨fun h => by
      obtain ⟨⟨x⟩⟩ := T
      obtain ⟨⟨y⟩⟩ := U
      simpa using h, fun h => by rw [h]⟩
    simp only [List.cons.injEq, Lit.int.injEq, Lit.string.injEq, true_and, and_true, decide_eq_true_eq, hs, Int.ofNat_inj]
  rw [← this]
  exact hz

/-- The comparison of two records. -/
theorem rc_eql (r q : Rc) (T U : ByteArray) (hT : T.size ≤ maxLen) (hU : U.size ≤ maxLen) (hr : r.okay) (hq : q.okay) (w : World) :
    (binOp .eql 35 (rcV r.seq r.kind T r.lease r.n r.bits) (rcV q.seq q.kind U q.lease q.n q.bits)).run Tryz.prog w = .ok (.bool (decide (r.seq = q.seq ∧ r.kind = q.kind ∧ T = U ∧ r.lease = q.lease ∧ r.n = q.n ∧ r.bits = q.bits))) w := by
  have h := rc_equal r q T U hT hU hr hq w
  unfold rcV at h ⊢
  simp only [binOp]
  simp [Op.equal, Op.maxDepth, h]

end Go.Proofs.YthjikbhjciphiaaGreatDoor

/-
  Lists of records compared, and whether there are too many; the statement SegRecords by the program's contracts.
-/
namespace Go.Proofs.YthjikbhjciphiaaGreatDoor
open Go.RowKit
set_option linter.unusedVariables false
set_option linter.unusedSimpArgs false

theorem rc_neq (r q : Rc) (T U : ByteArray) (hT : T.size ≤ maxLen) (hU : U.size ≤ maxLen) (hr : r.okay) (hq : q.okay) (w : World) :
    (binOp .neq 35 (rcV r.seq r.kind T r.lease r.n r.bits) (rcV q.seq q.kind U q.lease q.n q.bits)).run Tryz.prog w = .ok (.bool (!decide (r.seq = q.seq ∧ r.kind = q.kind ∧ T = U ∧ r.lease = q.lease ∧ r.n = q.n ∧ r.bits = q.bits))) w := by
  have h := rc_equal r q T U hT hU hr hq w
  unfold rcV at h ⊢
  simp only [binOp]
  simp [Op.equal, Op.maxDepth, h]

/-- Records whose numbers are words and whose names are short. -/
def Fine (l : List Rc) : Prop := ∀ r ∈ l, r.okay ∧ r.ten.length ≤ maxLen

set_option maxRecDepth 100000 in
set_option maxHeartbeats 2000000 in
theorem sameRcs_any (A1 A2 : Option Addr) (n c1 c2 : Nat) (l : List Rc) (S1 S2 : Nat → Prop) (W : World) (h1 : Rcs W S1 A1 n l) (h2 : Rcs W S2 A2 n l) (hn : n ≤ 1000000) (hf : Fine l) :
    Calls Tryz.prog 26 #[.slice A1 n c1, .slice A2 n c2] W fun e W' => e = .returned (.bool true) ∧ ∃ k, W' = W.drewN k := by
  have HN := Lib.hid (And.intro h1.len hn)
  have hnn : ((n : Int) != (n : Int)) = false := by simp
  go_enter Tryz.func26, Tryz.ntmps26
  go_wp2_with fail
  go_loopw [5] (fun i wr => ∃ k q : Nat, k ≤ n ∧ i = .int .i64 (k : Nat) ∧ wr = W.drewN q) (fun i _ => n - (intOf i).toNat)
  case atStart => exact ⟨0, 0, Nat.zero_le _, rfl, rfl⟩
  case round =>
    obtain ⟨k, q, hk, rfl, rfl⟩ := hrel
    by_cases hlt : k < n
    · obtain ⟨r, hr⟩ : ∃ r, l[k]? = some r := ⟨_, List.getElem?_eq_getElem (by have := HN.out; omega)⟩
      obtain ⟨ho, ht⟩ := hf r (List.mem_of_getElem? hr)
      obtain ⟨g1, o1, e1, _, _, a0, a1, a2, a3, a4, a5⟩ := Rcs.at_ h1 hr
      obtain ⟨g2, o2, e2, _, _, b0, b1, b2, b3, b4, b5⟩ := Rcs.at_ h2 hr
      have hne := fun w => rc_neq r r ⟨r.ten.toArray⟩ ⟨r.ten.toArray⟩ (by show r.ten.toArray.size ≤ _; rw [List.size_toArray]; exact ht) (by show r.ten.toArray.size ≤ _; rw [List.size_toArray]; exact ht) ho ho w
      have hdd : (!decide (r.seq = r.seq ∧ r.kind = r.kind ∧ (⟨r.ten.toArray⟩ : ByteArray) = ⟨r.ten.toArray⟩ ∧ r.lease = r.lease ∧ r.n = r.n ∧ r.bits = r.bits)) = false := by simp
      rw [hdd] at hne
      unfold rcV at hne
      have hkn : (k : Int) < (n : Int) := by omega
      have hkl : k ≤ 1000000 := by have := HN.out; omega
      have HK := Lib.hid hlt
      subst e1 e2
      clear hlt hk hr ho ht hdd h1 h2 hf
      go_wp2_with fail
      go_quiet (fail)
      rw [World.drewN_drewN]
      go_wp2_with fail
      go_roundw
      case rel => exact ⟨k + 1, _, by have := HK.out; omega, by go_num, rfl⟩
      case measure => have := HK.out; simp [intOf]; omega
    · have hkn : ¬ (k : Int) < (n : Int) := by omega
      clear hlt hk
      go_wp2_with fail
      go_ret
      exact ⟨rfl, q, rfl⟩

/-- The program's records of segments. -/
structure SegR (I : World → Prop) : Prop extends SegN I where
  box : ∀ (s : Nat) (k : Int) (T : ByteArray) (l n b : Nat) (W : World), I W → (⟨s, k, T.data.toList, l, n, b⟩ : Rc).okay → T.size ≤ 10000 → Calls Tryz.prog 58 #[rcV s k T l n b] W fun e W' => ∃ A m c, e = .returned (.tuple #[.slice A m c, .int .i64 (checkC ⟨s, k, T.data.toList, l, n, b⟩)]) ∧
    Byt W' W'.heap.size A m (if checkC ⟨s, k, T.data.toList, l, n, b⟩ = 0 then boxC (encC ⟨s, k, T.data.toList, l, n, b⟩) else []) ∧ (A = none → c = 0) ∧ m ≤ c ∧ c ≤ maxLen ∧ Below W.heap.size W W'
  records : ∀ (A : Option Addr) (n c : Nat) (L : List (List UInt8)) (W : World), I W → Lst W (fun k => W.heap.size ≤ k) A n L → (A = none → c = 0) → n ≤ c → c ≤ maxLen → sumL L ≤ 100000 → n ≤ 100000 →
    Calls Tryz.prog 30 #[.slice A n c] W fun e W' => ∃ A' k c', e = .returned (.slice A' k c') ∧ Rcs W' (fun _ => False) A' k (segsR [] L) ∧ Below W.heap.size W W'

theorem recP_ten (b : List UInt8) : (recP b).ten.length ≤ 255 := by
  have h : tnB b < 256 := (b.getD 9 0).toNat_lt
  show ((b.drop 10).take (tnB b)).length ≤ 255
  rw [List.length_take]
  omega
theorem takeR_fine : ∀ (bs : List (List UInt8)) (out : List Rc), Fine out → Fine (takeR out bs) := by
  intro bs
  induction bs with
  | nil => intro out h; exact h
  | cons b bs ih =>
    intro out h
    unfold takeR
    split
    · refine ih _ (fun r hr => ?_)
      rcases List.mem_append.1 hr with hr | hr
      · exact h r hr
      · rw [List.mem_singleton.1 hr]
        exact ⟨recP_okay b, Nat.le_trans (recP_ten b) (by unfold maxLen; decide)⟩
    · exact h
theorem segsR_fine : ∀ (l : List (List UInt8)) (out : List Rc), Fine out → Fine (segsR out l) := by
  intro l
  induction l with
  | nil => intro out h; exact h
  | cons s l ih => intro out h; exact ih _ (takeR_fine _ _ h)

end Go.Proofs.YthjikbhjciphiaaGreatDoor

/-
  The reference of journals: Numbered.
-/
namespace Go.Proofs.YthjikbhjciphiaaGreatDoor
open Go.RowKit
set_option linter.unusedVariables false
set_option linter.unusedSimpArgs false

/-- A record with another number. -/
def Rc.at_ (r : Rc) (s : Nat) : Rc := ⟨s, r.kind, r.ten, r.lease, r.n, r.bits⟩
/-- Records, numbered from f on. -/
def numR (l : List Rc) (f : Nat) : List Rc := l.mapIdx fun i r => r.at_ ((f + i) % 18446744073709551616)
theorem numR_len (l : List Rc) (f : Nat) : (numR l f).length = l.length := List.length_mapIdx
theorem numR_snoc (l : List Rc) (r : Rc) (f : Nat) : numR (l ++ [r]) f = numR l f ++ [r.at_ ((f + l.length) % 18446744073709551616)] := List.mapIdx_concat

set_option maxRecDepth 100000 in
set_option maxHeartbeats 2000000 in
theorem refNumbered_any (A : Option Addr) (n c : Nat) (l : List Rc) (f : Nat) (W : World) (hR : Rcs W (fun k => W.heap.size ≤ k) A n l) (hn : n ≤ 100000) (hf : f < 18446744073709551616) :
    Calls Tryz.prog 19 #[.slice A n c, .int .u64 (f : Nat)] W fun e W' => ∃ A' c', e = .returned (.slice A' n c') ∧ Rcs W' (fun k => k < W.heap.size) A' n (numR l f) ∧ n ≤ c' ∧ Below W.heap.size W W' := by
  obtain ⟨i0, hi, hz0, hz1, hz2⟩ := info_parts Tryz.infoRc
  have HN := Lib.hid (And.intro hR.len (And.intro hn hf))
  have HR := Lib.hid hR
  clear hR hn hf
  go_enter Tryz.func19, Tryz.ntmps19
  go_wp2_with fail
  go_loopw [5, 6, 7] (fun v i p wr => ∃ k : Nat, k ≤ n ∧ i = .int .i64 (k : Nat) ∧ RcsI W v (numR (l.take k) f) wr) (fun _ i _ _ => n - (intOf i).toNat)
  case atStart => exact ⟨0, Nat.zero_le _, rfl, World.ownsRow_nil _ _ _ _, Below.refl _ _⟩
  case round =>
    obtain ⟨k, hk, rfl, hown, hb⟩ := hrel
    have hln : (numR (l.take k) f).length = k := by rw [numR_len, List.length_take, HN.out.1]; omega
    obtain ⟨T, hT⟩ : ∃ T, numR (l.take k) f = T := ⟨_, rfl⟩
    rw [hT] at hown hln
    obtain ⟨A9, c9, rfl, hR9⟩ := Rcs.of_own (S := fun k => k < W.heap.size) hown (fun _ h => .inl h)
    by_cases hlt : k < n
    · obtain ⟨r, hr⟩ : ∃ r, l[k]? = some r := ⟨_, List.getElem?_eq_getElem (by have := HN.out.1; omega)⟩
      obtain ⟨g, o, rfl, hgw, _, f0, f1, f2, f3, f4, f5⟩ := Rcs.at_ HR.out hr
      have hgw : g < W.heap.size := Nat.lt_of_not_le hgw
      have e0 := (hb.cell (p := ⟨g, o + k * 6, none⟩) hgw).trans f0
      have e1 := (hb.cell (p := ⟨g, o + k * 6 + 1, none⟩) hgw).trans f1
      have e2 := (hb.cell (p := ⟨g, o + k * 6 + 2, none⟩) hgw).trans f2
      have e3 := (hb.cell (p := ⟨g, o + k * 6 + 3, none⟩) hgw).trans f3
      have e4 := (hb.cell (p := ⟨g, o + k * 6 + 4, none⟩) hgw).trans f4
      have e5 := (hb.cell (p := ⟨g, o + k * 6 + 5, none⟩) hgw).trans f5
      have hkn : (k : Int) < (n : Int) := by omega
      have hk0 : k < 100000 := by have := HN.out.2.1; omega
      obtain ⟨s, hs⟩ : ∃ s, (f + k) % 18446744073709551616 = s := ⟨_, rfl⟩
      have hw1 : IntKind.u64.wrap (k : Int) = (k : Int) := by rw [IntKind.wrap_u64]; omega
      have hw2 : IntKind.u64.wrap ((f : Int) + (k : Int)) = (s : Int) := by rw [IntKind.wrap_u64]; omega
      have HH := Lib.hid (And.intro hT (And.intro hown (And.intro hb (And.intro hr (And.intro hs hlt)))))
      clear hT hs hr f0 f1 f2 f3 f4 f5 hlt
      go_upto_region 7 with fail
      obtain ⟨W1, hW1⟩ : ∃ x, (wr.alloc (.cells #[.int .u64 (s : Nat), .int .i64 r.kind, .string ⟨r.ten.toArray⟩, .int .u64 (r.lease : Nat), .int .u64 (r.n : Nat), .int .u64 (r.bits : Nat)] 35)) = x := ⟨_, rfl⟩
      rw [hW1]
      have own1 : W1.ownsRow W.heap.size 35 6 (.slice A9 T.length c9) T.length (rcCells T) := by rw [← hW1]; exact hown.alloc _
      have hb1 : Below W.heap.size W W1 := by rw [← hW1]; exact hb.alloc hb.size _
      have hB : Blk W1 wr.heap.size 35 (r.at_ s).cells := by rw [← hW1]; exact Blk.new wr _ _ rfl
      have d0 : W1.cell? ⟨wr.heap.size, 0, none⟩ = some (.int .u64 (s : Nat)) := hB.cell 0
      have d1 : W1.cell? ⟨wr.heap.size, 1, none⟩ = some (.int .i64 r.kind) := hB.cell 1
      have d2 : W1.cell? ⟨wr.heap.size, 2, none⟩ = some (.string ⟨r.ten.toArray⟩) := hB.cell 2
      have d3 : W1.cell? ⟨wr.heap.size, 3, none⟩ = some (.int .u64 (r.lease : Nat)) := hB.cell 3
      have d4 : W1.cell? ⟨wr.heap.size, 4, none⟩ = some (.int .u64 (r.n : Nat)) := hB.cell 4
      have d5 : W1.cell? ⟨wr.heap.size, 5, none⟩ = some (.int .u64 (r.bits : Nat)) := hB.cell 5
      have hbs := hb1.size
      have HB1 := Lib.hid (And.intro own1 hb1)
      clear e0 e1 e2 e3 e4 e5 hb1 hB hW1 hown hb
      go_wp2_with (at_builtin; refine wpList_append_own_at _ rfl _ _ 29 rfl W.heap.size 35 i0 _ 6 56 Tryz.underlying29 hi hz0 hz1 hz2 rfl (by decide) (Value.slice A9 T.length c9) T.length (rcCells T) rfl (own1.alloc _) ⟨W1.heap.size, 0, none⟩ 1 1 (r.at_ s).cells rfl rfl (fun q u hu => by rw [Addr.add_lit, Nat.zero_add, World.cell?_alloc_new]; simpa [Rc.cells, Rc.at_] using hu) (PrtsV.one (w := W1) (S := fun _ => False) (rcP (r.at_ s)) (r.at_ s).cells (rcP_cells _ _ (r.at_ s))) (by unfold maxLen; omega) (by omega) (by simp; omega) ?_; intro v9 w9 h9 hg9 hv9; have H9 := Lib.hid (And.intro h9 (And.intro hg9 hv9)); clear h9 hg9 hv9)
      go_roundw
      case rel =>
        obtain ⟨hT, _, _, hr, hs, hlt⟩ := HH.out
        have e : numR (l.take (k + 1)) f = T ++ [r.at_ s] := by
          rw [List.take_add_one, hr, ← hT]
          show numR (l.take k ++ [r]) f = _
          rw [numR_snoc, List.length_take, HN.out.1, show min k n = k by omega, hs]
        refine ⟨k + 1, hlt, by go_num, ?_, (HB1.out.2.alloc HB1.out.2.size _).grown H9.out.2.1 (by have := HB1.out.2.size; simp; omega) (fun q hq => (HB1.out.1.lt q hq).1)⟩
        rw [e, rcCells_snoc]
        simpa using H9.out.1
      case measure => have := HH.out; simp [intOf]; omega
    · have hkn : ¬ (k : Int) < (n : Int) := by omega
      have hkk : k = n := by omega
      have hnc9 : T.length ≤ c9 := by
        rcases hown.2 with ⟨e, h0⟩ | ⟨g, cap, cur, e, _, _, hn, _⟩
        · injection e with _ _ e; omega
        · injection e with _ _ e; omega
      have HH := Lib.hid (And.intro hT (And.intro hln (And.intro hR9 (And.intro hb hnc9))))
      clear hT hln hR9 hb hown hlt hnc9
      go_wp2_with fail
      go_ret
      obtain ⟨hT, hln, hR9, hb, hnc9⟩ := HH.out
      have e : numR l f = T := by rw [← hT, hkk, ← HN.out.1, List.take_of_length_le (Nat.le_refl _)]
      rw [e, ← hkk, ← hln]
      exact ⟨A9, c9, rfl, hR9, hnc9, hb⟩

/-- A list that is a beginning of another one. -/
theorem refBegins_yes (A1 A2 : Option Addr) (m c1 n c2 : Nat) (l1 l2 : List Rc) (S1 S2 : Nat → Prop) (W : World) (h1 : Rcs W S1 A1 m l1) (h2 : Rcs W S2 A2 n l2) (he : l1 = l2.take m) (hm : m ≤ n) (hn : n ≤ 1000000) (hc2 : n ≤ c2) (hf : Fine l1) :
    Calls Tryz.prog 20 #[.slice A1 m c1, .slice A2 n c2] W fun e W' => e = .returned (.bool true) ∧ ∃ k, W' = W.drewN k := by
  have h2' : Rcs W S2 A2 m (l2.take m) := by
    have := Sls.take h2 hm
    unfold Rcs rcPs
    rw [List.map_take]
    exact this
  rw [← he] at h2'
  have hS := fun k => sameRcs_any A1 A2 m c1 c2 l1 S1 S2 (W.drewN k) (Sls.turn h1 ((Turn.refl _ _).drewN k)) (Sls.turn h2' ((Turn.refl _ _).drewN k)) (by omega) hf
  have hle : (m : Int) ≤ (n : Int) := by omega
  have hmc : (m : Int) ≤ (c2 : Int) := by omega
  clear h1 h2 h2' he hf
  go_enter Tryz.func20, Tryz.ntmps20
  go_wp2_with fail
  refine (hS 0).mono ?_
  rintro e w ⟨rfl, k, rfl⟩
  go_wp2_with fail
  go_ret
  exact ⟨rfl, ⟨k, rfl⟩⟩

/-- A step that is done to a journal. -/
structure Jst where
  kind : Int
  n : Int
  m : Int
  r : Rc
def jsP (s : Jst) : List Prt := .num .i64 s.kind :: .num .i64 s.n :: .num .i64 s.m :: rcP s.r
def Jst.cells (s : Jst) : List Value := .int .i64 s.kind :: .int .i64 s.n :: .int .i64 s.m :: s.r.cells
/-- Steps in memory. -/
def Jsts (w : World) (S : Nat → Prop) (A : Option Addr) (n : Nat) (l : List Jst) : Prop := Sls w S 9 A n (l.map jsP)
theorem Jsts.len {w : World} {S : Nat → Prop} {A : Option Addr} {n : Nat} {l : List Jst} (h : Jsts w S A n l) : l.length = n := by have := h.1; rwa [List.length_map] at this
theorem Jsts.at_ {w : World} {S : Nat → Prop} {A : Option Addr} {n : Nat} {l : List Jst} (h : Jsts w S A n l) {j : Nat} {s : Jst} (hj : l[j]? = some s) :
    ∃ g o, A = some ⟨g, o, none⟩ ∧ ¬ S g ∧ g < w.heap.size ∧ w.cell? ⟨g, o + j * 9, none⟩ = some (.int .i64 s.kind) ∧ w.cell? ⟨g, o + j * 9 + 1, none⟩ = some (.int .i64 s.n) ∧ w.cell? ⟨g, o + j * 9 + 2, none⟩ = some (.int .i64 s.m) ∧
      w.cell? ⟨g, o + j * 9 + 3, none⟩ = some (.int .u64 (s.r.seq : Nat)) ∧ w.cell? ⟨g, o + j * 9 + 4, none⟩ = some (.int .i64 s.r.kind) ∧ w.cell? ⟨g, o + j * 9 + 5, none⟩ = some (.string ⟨s.r.ten.toArray⟩) ∧
      w.cell? ⟨g, o + j * 9 + 6, none⟩ = some (.int .u64 (s.r.lease : Nat)) ∧ w.cell? ⟨g, o + j * 9 + 7, none⟩ = some (.int .u64 (s.r.n : Nat)) ∧ w.cell? ⟨g, o + j * 9 + 8, none⟩ = some (.int .u64 (s.r.bits : Nat)) := by
  have hj' : (l.map jsP)[j]? = some (jsP s) := by rw [List.getElem?_map, hj]; rfl
  obtain ⟨g, o, ys, e, hs, hl, hp, _, hc⟩ := Sls.at_ h hj'
  obtain ⟨v0, q0, rfl, e0, v1, q1, rfl, e1, v2, q2, rfl, e2, v3, q3, rfl, e3, v4, q4, rfl, e4, v5, q5, rfl, e5, v6, q6, rfl, e6, v7, q7, rfl, e7, v8, q8, rfl, e8, _⟩ := hp
  refine ⟨g, o, e, hs, hl, ?_, ?_, ?_, ?_, ?_, ?_, ?_, ?_, ?_⟩
  · rw [← show v0 = .int .i64 s.kind from e0]; exact hc 0 v0 rfl
  · rw [← show v1 = .int .i64 s.n from e1]; exact hc 1 v1 rfl
  · rw [← show v2 = .int .i64 s.m from e2]; exact hc 2 v2 rfl
  · rw [← show v3 = .int .u64 (s.r.seq : Nat) from e3]; exact hc 3 v3 rfl
  · rw [← show v4 = .int .i64 s.r.kind from e4]; exact hc 4 v4 rfl
  · rw [← show v5 = .string ⟨s.r.ten.toArray⟩ from e5]; exact hc 5 v5 rfl
  · rw [← show v6 = .int .u64 (s.r.lease : Nat) from e6]; exact hc 6 v6 rfl
  · rw [← show v7 = .int .u64 (s.r.n : Nat) from e7]; exact hc 7 v7 rfl
  · rw [← show v8 = .int .u64 (s.r.bits : Nat) from e8]; exact hc 8 v8 rfl

/-- Too many steps, or too long ones. -/
def largeJ (l : List Jst) : Bool := (l.take 80).any (fun s => decide (100 < s.r.ten.length)) || decide (80 < l.length)
def FineJ (l : List Jst) : Prop := ∀ s ∈ l, s.r.okay ∧ s.r.ten.length ≤ maxLen ∧ (-9223372036854775808 ≤ s.kind ∧ s.kind ≤ 9223372036854775807) ∧ (-9223372036854775808 ≤ s.n ∧ s.n ≤ 9223372036854775807) ∧ (-9223372036854775808 ≤ s.m ∧ s.m ≤ 9223372036854775807)

set_option maxRecDepth 100000 in
set_option maxHeartbeats 2000000 in
theorem refLargeJ_any (A : Option Addr) (n c : Nat) (l : List Jst) (S : Nat → Prop) (W : World) (h : Jsts W S A n l) (hn : n ≤ maxLen) (hf : FineJ l) :
    Calls Tryz.prog 7 #[.slice A n c] W fun e W' => e = .returned (.bool (largeJ l)) ∧ W' = W := by
  unfold maxLen at hn
  have HN := Lib.hid h.len
  go_enter Tryz.func7, Tryz.ntmps7
  go_wp2_with fail
  go_loopw [3] (fun i wr => ∃ k : Nat, k ≤ n ∧ k ≤ 80 ∧ i = .int .i64 (k : Nat) ∧ wr = W ∧ (l.take k).any (fun r => decide (100 < r.r.ten.length)) = false) (fun i _ => 80 - (intOf i).toNat)
  case atStart => exact ⟨0, Nat.zero_le _, by omega, rfl, rfl, rfl⟩
  case round =>
    obtain ⟨k, hk, hk6, rfl, rfl, hno⟩ := hrel
    by_cases hlt : k < n
    · by_cases h6 : k < 80
      · obtain ⟨r, hr⟩ : ∃ r, l[k]? = some r := ⟨_, List.getElem?_eq_getElem (by have := HN.out; omega)⟩
        obtain ⟨g, o, rfl, _, _, _, _, _, _, _, z2, _⟩ := Jsts.at_ h hr
        have hm := (hf r (List.mem_of_getElem? hr)).2.1
        unfold maxLen at hm
        have hsu : (l.take (k + 1)).any (fun r => decide (100 < r.r.ten.length)) = decide (100 < r.r.ten.length) := by
          rw [List.take_add_one, hr, List.any_append, hno]
          simp
        have hkn : (k : Int) < (n : Int) := by omega
        have hk80 : (k : Int) < 80 := by omega
        by_cases ht : 100 < r.r.ten.length
        · have h1 : (100 : Int) < (r.r.ten.length : Int) := by omega
          have HR := Lib.hid (show largeJ l = true by
            rw [decide_eq_true ht] at hsu
            unfold largeJ
            rw [Bool.or_eq_true]
            left
            rw [List.any_eq_true] at hsu ⊢
            obtain ⟨x, hx, hx2⟩ := hsu
            exact ⟨x, List.take_subset_take_left l (by omega) hx, hx2⟩)
          clear hsu hno hlt h6 hk hk6 hr ht hm
          go_wp2_with fail
          go_ret
          exact ⟨by rw [HR.out]; rfl, rfl⟩
        · have h1 : ¬ (100 : Int) < (r.r.ten.length : Int) := by omega
          rw [decide_eq_false ht] at hsu
          have HS := Lib.hid (And.intro hsu (And.intro hlt h6))
          clear hsu hno hlt h6 hk hk6 hr ht hm
          go_wp2_with fail
          go_roundw
          case rel => exact ⟨k + 1, by have := HS.out; omega, by have := HS.out; omega, by go_num, trivial, HS.out.1⟩
          case measure => have := HS.out; simp [intOf]; omega
      · have hk80 : ¬ (k : Int) < 80 := by omega
        have hkn : (k : Int) < (n : Int) := by omega
        obtain rfl : k = 80 := by omega
        have HR := Lib.hid (show largeJ l = decide (80 < l.length) by unfold largeJ; rw [hno]; rfl)
        have hl := HN.out
        obtain ⟨d, hd⟩ : ∃ d, decide (80 < l.length) = d := ⟨_, rfl⟩
        have h2 : (80 : Int) < (n : Int) := by omega
        obtain rfl : d = true := by rw [← hd]; exact decide_eq_true (by omega)
        rw [hd] at HR
        clear hno hlt h6 hk hk6 hd hl
        go_wp2_with fail
        go_ret
        exact ⟨by rw [HR.out]; rfl, rfl⟩
    · have hkn : ¬ (k : Int) < (n : Int) := by omega
      have hkk : k = n := by omega
      have hl := HN.out
      have h2 : ¬ (80 : Int) < (n : Int) := by omega
      have HR := Lib.hid (show largeJ l = false by
        unfold largeJ
        rw [List.take_of_length_le (by omega)]
        rw [hkk, List.take_of_length_le (by omega)] at hno
        rw [hno, decide_eq_false (by omega)]
        rfl)
      clear hno hlt hk hk6 hkk hl
      go_wp2_with fail
      go_ret
      exact ⟨by rw [HR.out]; rfl, rfl⟩
theorem largeJ_not (l : List Jst) (h : largeJ l = false) : l.length ≤ 80 ∧ ∀ r ∈ l, r.r.ten.length ≤ 100 := by
  unfold largeJ at h
  obtain ⟨h1, h2⟩ := Bool.or_eq_false_iff.1 h
  have h3 : l.length ≤ 80 := by have := of_decide_eq_false h2; omega
  refine ⟨h3, fun r hr => ?_⟩
  rw [List.take_of_length_le h3, List.any_eq_false] at h1
  have := h1 r hr
  simp at this
  exact this

end Go.Proofs.YthjikbhjciphiaaGreatDoor

/-
  Law 14's own functions: right.
-/
namespace Go.Proofs.YthjikbhjciphiaaGreatDoor
open Go.RowKit
set_option linter.unusedVariables false
set_option linter.unusedSimpArgs false

set_option maxRecDepth 100000 in
set_option maxHeartbeats 2000000 in
theorem right14_any (s : Nat) (k : Int) (T : ByteArray) (l n b : Nat) (hT : T.size ≤ 10000) (hb : b < 18446744073709551616) (W : World) :
    Calls Tryz.prog 13 #[rcV s k T l n b] W fun e W' => e = .returned (.bool (decide (checkC ⟨1, k, T.data.toList, l, n, b⟩ = 0))) ∧ Below W.heap.size W W' := by
  have hC := fun w => refCheck_any 1 k T l n b (by omega) hb w
  unfold rcV at hC ⊢
  obtain ⟨ck, hck⟩ : ∃ ck, checkC ⟨1, k, T.data.toList, l, n, b⟩ = ck := ⟨_, rfl⟩
  rw [hck] at hC
  rw [hck]
  clear hck
  go_enter Tryz.func13, Tryz.ntmps13
  go_wp2_with fail
  refine (hC _).mono ?_
  rintro e w1 ⟨rfl, hb1⟩
  go_wp2_with fail
  go_ret
  refine ⟨?_, ((Below.refl _ W).alloc (Nat.le_refl _) _).trans (hb1.mono (by simp))⟩
  simp
  by_cases h : ck = 0 <;> simp [h]

end Go.Proofs.YthjikbhjciphiaaGreatDoor

/-
  The program's journal, by its contracts alone; awake; the statement WalNobody.
-/
namespace Go.Proofs.YthjikbhjciphiaaGreatDoor
open Go.RowKit
set_option linter.unusedVariables false
set_option linter.unusedSimpArgs false

/-- A journal: its segment, its next number, the last one that is sure, what is buffered, how many bytes its segment has. -/
structure Jn where
  own : Nat
  next : Nat
  sure : Nat
  buf : List Rc
  size : Nat
/-- The next number. -/
def nextJ (R : List Rc) (next : Nat) : Nat := match R.getLast? with | some r => r.seq + 1 | none => max next 1
/-- A disk that is opened: its journal, its records. -/
def openJ (m : Dk) (next : Nat) : Jn × List Rc :=
  (⟨((segsD m.files).getLast?.map fun p => p.1 + 1).getD 1, nextJ (segsR [] ((segsD m.files).map Prod.snd)) next, nextJ (segsR [] ((segsD m.files).map Prod.snd)) next - 1, [], 0⟩, segsR [] ((segsD m.files).map Prod.snd))
def putJ (j : Jn) (r : Rc) : (Nat × Int) × Jn :=
  if checkC (r.at_ j.next) = 0 then ((j.next, 0), ⟨j.own, j.next + 1, j.sure, j.buf ++ [r.at_ j.next], j.size⟩) else ((0, checkC (r.at_ j.next)), j)
def commitJ (m : Dk) (j : Jn) : Int × Dk × Jn :=
  ((commitD m j.own j.buf).1, (commitD m j.own j.buf).2,
    if (commitD m j.own j.buf).1 = 0 ∧ j.buf ≠ [] then ⟨if 256 ≤ (fileF (nameL j.own) (commitD m j.own j.buf).2.files).data.length then j.own + 1 else j.own, j.next, j.next - 1, [], if 256 ≤ (fileF (nameL j.own) (commitD m j.own j.buf).2.files).data.length then 0 else (fileF (nameL j.own) (commitD m j.own j.buf).2.files).data.length⟩ else j)
def newDk (cap : Int) : Dk := ⟨[], max cap 0, 0, false, 0, 0, false⟩
/-- What is kept of a disk that a journal is on. -/
def OkJ (m : Dk) : Prop := OkX 180 m ∧ m.files.length ≤ 190 ∧ sizeF m.files ≤ 20000 ∧ ∃ own pre R0 cur, HeldJ m.files own pre R0 cur

/-- What is left of a segment by a drop up to s. -/
def dropK (s : Nat) (p : Nat × List UInt8) : Bool := match (takeR [] (validC p.2).1).getLast? with | some r => decide (s < r.seq) | none => false

/-- The program's journal: PD w S q m: block q is the disk m, S its blocks; LA w T p q j: block p is the journal j on the disk q, T its blocks; N: below it lies the library's; I: what stands of the library's variables. -/
structure WalC (N : Nat) (I : World → Prop) (PD : World → (Nat → Prop) → Nat → Dk → Prop) (LA : World → (Nat → Prop) → Nat → Nat → Jn → Prop) : Prop where
  iturn : ∀ {w w' : World} {S : Nat → Prop}, I w → Turn S w w' → (∀ k, S k → N ≤ k) → I w'
  dturn : ∀ {w w' : World} {S S' : Nat → Prop} {q : Nat} {m : Dk}, PD w S q m → Turn S' w w' → (∀ k, S' k → N ≤ k ∧ ¬ S k) → PD w' S q m
  lturn : ∀ {w w' : World} {T S' : Nat → Prop} {p q : Nat} {j : Jn}, LA w T p q j → Turn S' w w' → (∀ k, S' k → N ≤ k ∧ ¬ T k) → LA w' T p q j
  dhere : ∀ {w : World} {S : Nat → Prop} {q : Nat} {m : Dk}, PD w S q m → S q ∧ ∀ k, S k → N ≤ k ∧ k < w.heap.size
  lhere : ∀ {w : World} {T : Nat → Prop} {p q : Nat} {j : Jn}, LA w T p q j → T p ∧ ∀ k, T k → N ≤ k ∧ k < w.heap.size
  new : ∀ (W : World) (cap : Int), I W → N ≤ W.heap.size → -9223372036854775808 ≤ cap → cap < 9223372036854775808 →
    Calls Tryz.prog 9 #[.int .i64 cap] W fun e W' => ∃ q S, e = .returned (.pointer (some ⟨q, 0, none⟩)) ∧ PD W' S q (newDk cap) ∧ (∀ k, S k → W.heap.size ≤ k) ∧ Below W.heap.size W W'
  arm : ∀ (W : World) (S : Nat → Prop) (q : Nat) (m : Dk) (n : Nat) (keep : Int), PD W S q m → OkJ m → n < 18446744073709551616 →
    Calls Tryz.prog 16 #[.pointer (some ⟨q, 0, none⟩), .int .u64 ((n : Nat) : Int), .int .i64 keep] W fun e W' => ∃ S', e = .returned (.tuple #[]) ∧ PD W' S' q ⟨m.files, m.cap, m.calls, true, n, keep, m.down⟩ ∧ (∀ k, S' k → S k ∨ W.heap.size ≤ k) ∧ Turn S W W'
  crash : ∀ (W : World) (S : Nat → Prop) (q : Nat) (m : Dk) (keep : Int), PD W S q m → OkJ m →
    Calls Tryz.prog 17 #[.pointer (some ⟨q, 0, none⟩), .int .i64 keep] W fun e W' => ∃ S', e = .returned (.tuple #[]) ∧ PD W' S' q (crashD keep m) ∧ (∀ k, S' k → S k ∨ W.heap.size ≤ k) ∧ Turn S W W'
  up : ∀ (W : World) (S : Nat → Prop) (q : Nat) (m : Dk), PD W S q m → OkJ m →
    Calls Tryz.prog 18 #[.pointer (some ⟨q, 0, none⟩)] W fun e W' => ∃ S', e = .returned (.tuple #[]) ∧ PD W' S' q ⟨m.files, m.cap, m.calls, m.armed, m.left, m.keep, false⟩ ∧ (∀ k, S' k → S k ∨ W.heap.size ≤ k) ∧ Turn S W W'
  down : ∀ (W : World) (S : Nat → Prop) (q : Nat) (m : Dk), PD W S q m → OkJ m →
    Calls Tryz.prog 15 #[.pointer (some ⟨q, 0, none⟩)] W fun e W' => e = .returned (.bool m.down) ∧ W' = W
  size : ∀ (W : World) (S : Nat → Prop) (q : Nat) (m : Dk), PD W S q m → OkJ m →
    Calls Tryz.prog 24 #[.pointer (some ⟨q, 0, none⟩)] W fun e W' => e = .returned (.int .i64 ((sizeF m.files : Nat) : Int)) ∧ Below W.heap.size W W'
  calls : ∀ (W : World) (S : Nat → Prop) (q : Nat) (m : Dk), PD W S q m → OkJ m →
    Calls Tryz.prog 27 #[.pointer (some ⟨q, 0, none⟩)] W fun e W' => e = .returned (.int .u64 ((m.calls : Nat) : Int)) ∧ W' = W
  opens : ∀ (W : World) (S : Nat → Prop) (q : Nat) (m : Dk) (next : Nat), I W → PD W S q m → OkJ m → m.down = false → next < 18446744073709551616 → (openJ m next).1.next < 18446744073709551616 →
    Calls Tryz.prog 10 #[.pointer (some ⟨q, 0, none⟩), .int .u64 ((next : Nat) : Int)] W fun e W' => ∃ p T A n c, e = .returned (.tuple #[.pointer (some ⟨p, 0, none⟩), .slice A n c, .int .i64 0]) ∧ LA W' T p q (openJ m next).1 ∧ (∀ k, T k → W.heap.size ≤ k) ∧ Rcs W' (fun k => k < W.heap.size ∨ T k) A n (openJ m next).2 ∧ n ≤ c ∧ c ≤ maxLen ∧ Below W.heap.size W W'
  downs : ∀ (W : World) (S : Nat → Prop) (q : Nat) (m : Dk) (next : Nat), I W → PD W S q m → OkJ m → m.down = true → next < 18446744073709551616 →
    Calls Tryz.prog 10 #[.pointer (some ⟨q, 0, none⟩), .int .u64 ((next : Nat) : Int)] W fun e W' => ∃ v, e = .returned (.tuple #[.pointer none, v, .int .i64 19]) ∧ Below W.heap.size W W'
  nones : ∀ (W : World) (next : Nat), I W → next < 18446744073709551616 →
    Calls Tryz.prog 10 #[.pointer none, .int .u64 ((next : Nat) : Int)] W fun e W' => ∃ v, e = .returned (.tuple #[.pointer none, v, .int .i64 8]) ∧ Below W.heap.size W W'
  put : ∀ (W : World) (T : Nat → Prop) (p q : Nat) (j : Jn) (s : Nat) (k : Int) (X : ByteArray) (l n b : Nat), I W → LA W T p q j → j.next + 1 < 18446744073709551616 → j.buf.length ≤ 200 → (⟨s, k, X.data.toList, l, n, b⟩ : Rc).okay → X.size ≤ 10000 →
    Calls Tryz.prog 12 #[.pointer (some ⟨p, 0, none⟩), rcV s k X l n b] W fun e W' => ∃ T', e = .returned (.tuple #[.int .u64 ((putJ j ⟨s, k, X.data.toList, l, n, b⟩).1.1 : Nat), .int .i64 (putJ j ⟨s, k, X.data.toList, l, n, b⟩).1.2]) ∧ LA W' T' p q (putJ j ⟨s, k, X.data.toList, l, n, b⟩).2 ∧ (∀ k, T' k → T k ∨ W.heap.size ≤ k) ∧ Turn T W W'
  commit : ∀ (W : World) (S T : Nat → Prop) (p q : Nat) (m : Dk) (j : Jn), I W → PD W S q m → LA W T p q j → (∀ k, S k → ¬ T k) → OkJ m → j.buf.length ≤ 200 → (∀ r ∈ j.buf, okRc r) → (∃ pre R0 cur, HeldJ m.files j.own pre R0 cur) → j.size = (fileF (nameL j.own) m.files).data.length → m.down = false → j.own < 1000000000 →
    Calls Tryz.prog 14 #[.pointer (some ⟨p, 0, none⟩)] W fun e W' => ∃ S' T', e = .returned (.int .i64 (commitJ m j).1) ∧ PD W' S' q (commitJ m j).2.1 ∧ LA W' T' p q (commitJ m j).2.2 ∧ (∀ k, S' k → ¬ T' k) ∧ (∀ k, S' k → S k ∨ W.heap.size ≤ k) ∧ (∀ k, T' k → T k ∨ W.heap.size ≤ k) ∧ Turn (fun k => S k ∨ T k) W W'
  next : ∀ (W : World) (T : Nat → Prop) (p q : Nat) (j : Jn), LA W T p q j → Calls Tryz.prog 11 #[.pointer (some ⟨p, 0, none⟩)] W fun e W' => e = .returned (.int .u64 ((j.next : Nat) : Int)) ∧ W' = W
  sure : ∀ (W : World) (T : Nat → Prop) (p q : Nat) (j : Jn), LA W T p q j → Calls Tryz.prog 21 #[.pointer (some ⟨p, 0, none⟩)] W fun e W' => e = .returned (.int .u64 ((j.sure : Nat) : Int)) ∧ ∃ k, W' = W.drewN k
  waits : ∀ (W : World) (T : Nat → Prop) (p q : Nat) (j : Jn), LA W T p q j → Calls Tryz.prog 22 #[.pointer (some ⟨p, 0, none⟩)] W fun e W' => e = .returned (.int .i64 ((j.buf.length : Nat) : Int)) ∧ W' = W
  putNil : ∀ (W : World) (s : Nat) (k : Int) (X : ByteArray) (l n b : Nat), Calls Tryz.prog 12 #[.pointer none, rcV s k X l n b] W fun e W' => e = .returned (.tuple #[.int .u64 0, .int .i64 8]) ∧ Below W.heap.size W W'
  commitNil : ∀ (W : World), Calls Tryz.prog 14 #[.pointer none] W fun e W' => e = .returned (.int .i64 8) ∧ W' = W
  nextNil : ∀ (W : World), Calls Tryz.prog 11 #[.pointer none] W fun e W' => e = .returned (.int .u64 0) ∧ W' = W
  sureNil : ∀ (W : World), Calls Tryz.prog 21 #[.pointer none] W fun e W' => e = .returned (.int .u64 0) ∧ W' = W
  waitsNil : ∀ (W : World), Calls Tryz.prog 22 #[.pointer none] W fun e W' => e = .returned (.int .i64 0) ∧ W' = W
  dropNil : ∀ (W : World) (s : Nat), s < 18446744073709551616 → Calls Tryz.prog 25 #[.pointer none, .int .u64 ((s : Nat) : Int)] W fun e W' => e = .returned (.int .i64 8) ∧ Below W.heap.size W W'

/-- .. its Drop, where the disk is not armed. -/
structure WalDr (N : Nat) (I : World → Prop) (PD : World → (Nat → Prop) → Nat → Dk → Prop) (LA : World → (Nat → Prop) → Nat → Nat → Jn → Prop) : Prop where
  drop : ∀ (W : World) (S T : Nat → Prop) (p q : Nat) (m : Dk) (j : Jn) (s : Nat) (pre : List (Nat × List UInt8)) (R0 cur : List Rc), I W → PD W S q m → LA W T p q j → (∀ k, S k → ¬ T k) → OkJ m → m.calls ≤ 125 → m.files.length ≤ 65 → HeldJ m.files j.own pre R0 cur → m.down = false → m.armed = false → s < 18446744073709551616 →
    Calls Tryz.prog 25 #[.pointer (some ⟨p, 0, none⟩), .int .u64 ((s : Nat) : Int)] W fun e W' => ∃ S' m', e = .returned (.int .i64 0) ∧ PD W' S' q m' ∧ m'.files = (pre.filter (dropK s)).map sgF ++ (if cur = [] then [] else [sgF (j.own, segB cur)]) ∧ m'.down = false ∧ OkX 190 m' ∧ (∀ k, S' k → S k ∨ W.heap.size ≤ k) ∧ Turn S W W'

end Go.Proofs.YthjikbhjciphiaaGreatDoor
