/-
  Lists of records compared, and whether there are too many; the statement SegRecords by the program's contracts.
-/
import Derived.Test.YtgococpbhbcpmaaGreatDoorZz26
import Derived.Test.YtgococpbhbcpmaaGreatDoorZz19
import Derived.Test.YtgococpbhbcpmaaGreatDoorZz21
namespace Go.Proofs.YtgococpbhbcpmaaGreatDoor
open Go.RowKit
set_option linter.unusedVariables false
set_option linter.unusedSimpArgs false

theorem rc_neq (r q : Rc) (T U : ByteArray) (hT : T.size ≤ maxLen) (hU : U.size ≤ maxLen) (hr : r.okay) (hq : q.okay) (w : World) :
    (binOp .neq 25 (rcV r.seq r.kind T r.lease r.n r.bits) (rcV q.seq q.kind U q.lease q.n q.bits)).run Tryz.prog w = .ok (.bool (!decide (r.seq = q.seq ∧ r.kind = q.kind ∧ T = U ∧ r.lease = q.lease ∧ r.n = q.n ∧ r.bits = q.bits))) w := by
  have h := rc_equal r q T U hT hU hr hq w
  unfold rcV at h ⊢
  simp only [binOp]
  simp [Op.equal, Op.maxDepth, h]

/-- Records whose numbers are words and whose names are short. -/
def Fine (l : List Rc) : Prop := ∀ r ∈ l, r.okay ∧ r.ten.length ≤ maxLen

set_option maxRecDepth 100000 in
set_option maxHeartbeats 2000000 in
theorem sameRcs_any (A1 A2 : Option Addr) (n c1 c2 : Nat) (l : List Rc) (S1 S2 : Nat → Prop) (W : World) (h1 : Rcs W S1 A1 n l) (h2 : Rcs W S2 A2 n l) (hn : n ≤ 1000000) (hf : Fine l) :
    Calls Tryz.prog 10 #[.slice A1 n c1, .slice A2 n c2] W fun e W' => e = .returned (.bool true) ∧ ∃ k, W' = W.drewN k := by
  have HN := Lib.hid (And.intro h1.len hn)
  have hnn : ((n : Int) != (n : Int)) = false := by simp
  go_enter Tryz.func10, Tryz.ntmps10
  go_wp2_with fail
  go_loopw [5] (fun i wr => ∃ k q : Nat, k ≤ n ∧ i = .int .i64 (k : Nat) ∧ wr = W.drewN q) (fun i _ => n - (intOf i).toNat)
  case atStart => exact ⟨0, 0, Nat.zero_le _, rfl, rfl⟩
  case round =>
    obtain ⟨k, q, hk, rfl, rfl⟩ := hrel
    by_cases hlt : k < n
    · obtain ⟨r, hr⟩ : ∃ r, l[k]? = some r := ⟨_, List.getElem?_eq_getElem (by have := HN.out; omega)⟩
      obtain ⟨ho, ht⟩ := hf r (List.mem_of_getElem? hr)
      obtain ⟨g1, o1, e1, _, _, a0, a1, a2, a3, a4, a5⟩ := Rcs.at_ h1 hr
      obtain ⟨g2, o2, e2, _, _, b0, b1, b2, b3, b4, b5⟩ := Rcs.at_ h2 hr
      have hne := fun w => rc_neq r r ⟨r.ten.toArray⟩ ⟨r.ten.toArray⟩ (by show r.ten.toArray.size ≤ _; rw [List.size_toArray]; exact ht) (by show r.ten.toArray.size ≤ _; rw [List.size_toArray]; exact ht) ho ho w
      have hdd : (!decide (r.seq = r.seq ∧ r.kind = r.kind ∧ (⟨r.ten.toArray⟩ : ByteArray) = ⟨r.ten.toArray⟩ ∧ r.lease = r.lease ∧ r.n = r.n ∧ r.bits = r.bits)) = false := by simp
      rw [hdd] at hne
      unfold rcV at hne
      have hkn : (k : Int) < (n : Int) := by omega
      have hkl : k ≤ 1000000 := by have := HN.out; omega
      have HK := Lib.hid hlt
      subst e1 e2
      clear hlt hk hr ho ht hdd h1 h2 hf
      go_wp2_with fail
      go_quiet (fail)
      rw [World.drewN_drewN]
      go_wp2_with fail
      go_roundw
      case rel => exact ⟨k + 1, _, by have := HK.out; omega, by go_num, rfl⟩
      case measure => have := HK.out; simp [intOf]; omega
    · have hkn : ¬ (k : Int) < (n : Int) := by omega
      clear hlt hk
      go_wp2_with fail
      go_ret
      exact ⟨rfl, q, rfl⟩

/-- The program's records of segments. -/
structure SegR (I : World → Prop) : Prop extends SegN I where
  box : ∀ (s : Nat) (k : Int) (T : ByteArray) (l n b : Nat) (W : World), I W → (⟨s, k, T.data.toList, l, n, b⟩ : Rc).okay → T.size ≤ 10000 → Calls Tryz.prog 6 #[rcV s k T l n b] W fun e W' => ∃ A m c, e = .returned (.tuple #[.slice A m c, .int .i64 (checkC ⟨s, k, T.data.toList, l, n, b⟩)]) ∧
    Byt W' W'.heap.size A m (if checkC ⟨s, k, T.data.toList, l, n, b⟩ = 0 then boxC (encC ⟨s, k, T.data.toList, l, n, b⟩) else []) ∧ (A = none → c = 0) ∧ m ≤ c ∧ c ≤ maxLen ∧ Below W.heap.size W W'
  records : ∀ (A : Option Addr) (n c : Nat) (L : List (List UInt8)) (W : World), I W → Lst W (fun k => W.heap.size ≤ k) A n L → (A = none → c = 0) → n ≤ c → c ≤ maxLen → sumL L ≤ 100000 → n ≤ 100000 →
    Calls Tryz.prog 11 #[.slice A n c] W fun e W' => ∃ A' k c', e = .returned (.slice A' k c') ∧ Rcs W' (fun _ => False) A' k (segsR [] L) ∧ Below W.heap.size W W'

theorem recP_ten (b : List UInt8) : (recP b).ten.length ≤ 255 := by
  have h : tnB b < 256 := (b.getD 9 0).toNat_lt
  show ((b.drop 10).take (tnB b)).length ≤ 255
  rw [List.length_take]
  omega
theorem takeR_fine : ∀ (bs : List (List UInt8)) (out : List Rc), Fine out → Fine (takeR out bs) := by
  intro bs
  induction bs with
  | nil => intro out h; exact h
  | cons b bs ih =>
    intro out h
    unfold takeR
    split
    · refine ih _ (fun r hr => ?_)
      rcases List.mem_append.1 hr with hr | hr
      · exact h r hr
      · rw [List.mem_singleton.1 hr]
        exact ⟨recP_okay b, Nat.le_trans (recP_ten b) (by unfold maxLen; decide)⟩
    · exact h
theorem segsR_fine : ∀ (l : List (List UInt8)) (out : List Rc), Fine out → Fine (segsR out l) := by
  intro l
  induction l with
  | nil => intro out h; exact h
  | cons s l ih => intro out h; exact ih _ (takeR_fine _ _ h)

set_option maxRecDepth 100000 in
set_option maxHeartbeats 1000000 in
theorem refSegBox_any (s : Nat) (k : Int) (T : ByteArray) (l n b : Nat) (hs : s < 18446744073709551616) (hl : l < 18446744073709551616) (hn : n < 18446744073709551616) (hb : b < 18446744073709551616) (hT : T.size ≤ 10000) (hk : isK k = true) (W : World) :
    Calls Tryz.prog 9 #[rcV s k T l n b] W fun e W' => ∃ v m, e = .returned v ∧ W'.ownsRow W.heap.size 5 1 v m ((boxC (encC ⟨s, k, T.data.toList, l, n, b⟩)).map bv) ∧ Below W.heap.size W W' := by
  have hB := fun w => refBytes_any s k T l n b hs hl hn hb (by omega) hk w
  have hel := enc_len ⟨s, k, T.data.toList, l, n, b⟩
  have hsz : T.data.toList.length = T.size := by simp
  simp only at hel
  rw [hsz] at hel
  obtain ⟨E, hE⟩ : ∃ E, encC ⟨s, k, T.data.toList, l, n, b⟩ = E := ⟨_, rfl⟩
  rw [hE] at hB hel
  rw [hE]
  clear hE hsz
  unfold rcV at hB ⊢
  go_enter Tryz.func9, Tryz.ntmps9
  go_wp2_with fail
  refine (hB _).mono ?_
  rintro e w1 ⟨v1, m1, rfl, ho1, hb1⟩
  obtain ⟨A1, c1, rfl, r1, r2, r3⟩ := own_form ho1
  have hx1 := Byt.of_own ho1
  have hm1 : m1 ≤ 60000 := by have := hx1.1; omega
  go_wp2_with fail
  refine (refBox_any w1.heap.size A1 m1 c1 E _ hx1 (Nat.le_refl _) (fun h => (r1 h).2) hm1).mono ?_
  rintro e w2 ⟨v2, rfl, ho2, hb2⟩
  go_wp2_with fail
  go_ret
  have hsz1 := hb1.size
  simp at hsz1
  exact ⟨v2, m1 + 6, rfl, own_mono ho2 (by omega), ((Below.refl _ W).alloc (Nat.le_refl _) _).trans ((hb1.mono (by simp)).trans (hb2.mono (by omega)))⟩

set_option maxRecDepth 100000 in
set_option maxHeartbeats 4000000 in
theorem segRecords_law {I : World → Prop} (C : SegR I) (A : Option Addr) (n c : Nat) (L : List (List UInt8)) (s : Nat) (k : Int) (T : ByteArray) (l nn b : Nat) (W : World) (hI : I W) (hL : Lst W (fun k => W.heap.size ≤ k) A n L) (hnil : A = none → c = 0) (hnc : n ≤ c) (hcm : c ≤ maxLen)
    (hel : ∀ x ∈ L, x.length ≤ 140737488351232) (ho : (⟨s, k, T.data.toList, l, nn, b⟩ : Rc).okay) (hT : T.size ≤ maxLen) :
    Calls Tryz.prog 3 #[.slice A n c, rcV s k T l nn b] W fun e W' => e = .returned (.bool true) ∧ Below W.heap.size W W' := by
  have hA := fun w hI => awake13_any C.toSegN w hI
  have keep := @SegN.keep I C.toSegN
  have hLn : L.length = n := by have := hL.1; rwa [bts_len] at this
  have HN := Lib.hid (And.intro hLn hel)
  have HC := Lib.hid (And.intro hnil (And.intro hnc hcm))
  have HL := Lib.hid hL
  have HO := Lib.hid (And.intro ho hT)
  clear hLn hel hnil hnc hcm hL ho hT
  unfold rcV
  go_enter Tryz.func3, Tryz.ntmps3
  go_wp2_with fail
  have hB1 : Below W.heap.size W (W.alloc (.cells (rcCs s k T l nn b).toArray 25)) := (Below.refl _ W).alloc (Nat.le_refl _) _
  have hx1 : Blk (W.alloc (.cells (rcCs s k T l nn b).toArray 25)) W.heap.size 25 (rcCs s k T l nn b) := Blk.new W _ _ rfl
  have i1 := keep hI hB1
  obtain ⟨z0, z1, z2, z3, z4, z5⟩ := rc_cells hx1
  have hL1 := Sls.turn HL.out (show Turn (fun k => W.heap.size ≤ k) W (W.alloc (.cells (rcCs s k T l nn b).toArray 25)) from ⟨hB1.os, hB1.tape, hB1.output, hB1.size, fun k hk hn => hB1.block k hk⟩)
  have hs1 : W.heap.size < (W.alloc (.cells (rcCs s k T l nn b).toArray 25)).heap.size := by simp
  change Code.wp _ _ _ _ (W.alloc (.cells (rcCs s k T l nn b).toArray 25))
  generalize W.alloc (.cells (rcCs s k T l nn b).toArray 25) = w1 at hB1 hx1 i1 z0 z1 z2 z3 z4 z5 hL1 hs1 ⊢
  go_loopw [5, 6] (fun m i wr => ∃ kk M : Nat, kk ≤ n ∧ i = .int .i64 (kk : Nat) ∧ m = .int .i64 (M : Nat) ∧ M = sumL (L.take kk) ∧ M ≤ 1000 ∧ kk ≤ 21 ∧ wr = w1) (fun _ i _ => n - (intOf i).toNat)
  case atStart => exact ⟨0, 0, Nat.zero_le _, rfl, rfl, rfl, by omega, by omega, rfl⟩
  case round =>
    obtain ⟨kk, M, hk, rfl, rfl, hM, hM1, hk21, rfl⟩ := hrel
    by_cases hlt : kk < n
    · obtain ⟨x, hx⟩ : ∃ x, L[kk]? = some x := ⟨_, List.getElem?_eq_getElem (by have := HN.out; omega)⟩
      obtain ⟨g, o, A2, n2, c2, hAe, _, hgl, hcell, hbs, _⟩ := Lst.at_ hL1 hx
      have hn2 : n2 ≤ 140737488351232 := by have := hbs.1; have := HN.out.2 x (List.mem_of_getElem? hx); omega
      have hM2 : sumL (L.take (kk + 1)) = M + n2 := by
        rw [take_snoc13 L kk x hx, hM]
        unfold sumL
        rw [List.map_append, List.sum_append]
        have := hbs.1
        simp
        omega
      subst hAe
      obtain ⟨M2, hMM⟩ : ∃ z, M + n2 = z := ⟨_, rfl⟩
      have hadd : IntKind.i64.wrap ((M : Int) + (n2 : Int)) = (M2 : Int) := by rw [IntKind.wrap_i64]; omega
      rw [hMM] at hM2
      have HS := Lib.hid hM2
      have hkn : (kk : Int) < (n : Int) := by omega
      have HK := Lib.hid hlt
      have hM2b : M2 ≤ 140737488400000 := by omega
      have hcase : (1000 : Int) < (M2 : Int) ∨ (¬ (1000 : Int) < (M2 : Int) ∧ (20 : Int) < (kk : Int)) ∨ (¬ (1000 : Int) < (M2 : Int) ∧ ¬ (20 : Int) < (kk : Int)) := by omega
      have hA1 := hA _ i1
      clear hlt hk hx hM2 hM hMM hbs hn2 hM1
      rcases hcase with t1 | ⟨t1, t2⟩ | ⟨t1, t2⟩
      · go_wp2_with fail
        refine hA1.mono ?_
        rintro e w5 ⟨rfl, hb5⟩
        go_wp2_with fail
        go_ret
        exact ⟨rfl, hB1.trans (hb5.mono hB1.size)⟩
      · go_wp2_with fail
        refine hA1.mono ?_
        rintro e w5 ⟨rfl, hb5⟩
        go_wp2_with fail
        go_ret
        exact ⟨rfl, hB1.trans (hb5.mono hB1.size)⟩
      · have HT := Lib.hid (And.intro t1 t2)
        go_wp2_with fail
        go_roundw
        case rel => exact ⟨kk + 1, M2, by have := HK.out; omega, by go_num, rfl, HS.out.symm, by have := HT.out; omega, by have := HT.out; omega, trivial⟩
        case measure => have := HK.out; simp [intOf]; omega
    · have hkn : ¬ (kk : Int) < (n : Int) := by omega
      have hkk : kk = n := by omega
      have HS := Lib.hid (show sumL L ≤ 1000 ∧ n ≤ 21 by
        rw [hkk, List.take_of_length_le (by have := HN.out; omega)] at hM
        omega)
      clear hlt hk hkk hM hM1 hk21
      obtain ⟨w1, rfl⟩ : ∃ w, w = wr := ⟨_, rfl⟩
      by_cases hT : 100 < T.size
      · have h1 : (100 : Int) < (T.size : Int) := by omega
        have hA1 := hA _ i1
        have hTm : T.size ≤ 9223372036854775807 := HO.out.2
        go_wp2_with fail
        refine hA1.mono ?_
        rintro e w5 ⟨rfl, hb5⟩
        go_wp2_with fail
        go_ret
        exact ⟨rfl, hB1.trans (hb5.mono hB1.size)⟩
      · have h1 : ¬ (100 : Int) < (T.size : Int) := by omega
        have hBx := C.box s k T l nn b w1 i1 HO.out.1 (by omega)
        have hCk := fun w => refCheck_any s k T l nn b (by omega) HO.out.1.2.2.2.2.2 w
        obtain ⟨r, hr⟩ : ∃ r : Rc, (⟨s, k, T.data.toList, l, nn, b⟩ : Rc) = r := ⟨_, rfl⟩
        have hRB := fun hk w => refSegBox_any s k T l nn b HO.out.1.1 HO.out.1.2.2.2.1 HO.out.1.2.2.2.2.1 HO.out.1.2.2.2.2.2 (by omega) hk w
        have hkk : checkC r = 0 → isK k = true := fun h => by have := (check_parts r h).1; rw [← hr] at this; exact this
        have hE : (encC r).length ≤ 134 := by
          have := enc_len r
          have hsz : T.data.toList.length = T.size := by simp
          rw [← hr] at this ⊢
          simp only at this
          omega
        rw [hr] at hBx hCk hRB
        obtain ⟨ck, hck⟩ : ∃ z, checkC r = z := ⟨_, rfl⟩
        rw [hck] at hBx hCk hkk
        have hT0 : T.size ≤ 100 := by omega
        unfold rcV at hBx hCk hRB
        clear hT
        go_wp2_with fail
        refine hBx.mono ?_
        rintro e w5 ⟨A5, m5, c5, rfl, hx5, hn5, hmc5, hcm5, hb5⟩
        have B5 := hB1.trans (hb5.mono hB1.size)
        have i5 := keep i1 hb5
        obtain ⟨y0, y1, y2, y3, y4, y5⟩ := rc_cells (hx1.below hb5 hx1.lt)
        go_wp2_with fail
        refine (hCk _).mono ?_
        rintro e w6 ⟨rfl, hb6⟩
        have B6 := B5.trans (hb6.mono B5.size)
        have i6 := keep i5 hb6
        obtain ⟨y0, y1, y2, y3, y4, y5⟩ := rc_cells ((hx1.below hb5 hx1.lt).below hb6 (hx1.below hb5 hx1.lt).lt)
        have hx6 := (hx5.below hb6).more hb6.size
        have hkk2 : ((ck : Int) != ck) = false := by simp
        by_cases hc0 : ck = 0
        · rw [if_pos hc0] at hx6
          have hRB2 := hRB (hkk hc0)
          subst hc0
          go_wp2_with fail
          refine (hRB2 _).mono ?_
          rintro e w7 ⟨v7, m7, rfl, ho7, hb7⟩
          obtain ⟨A7, c7, rfl, r1, r2, r3⟩ := own_form ho7
          have B7 := B6.trans (hb7.mono B6.size)
          have i7 := keep i6 hb7
          have hx7 := Byt.of_own ho7
          have hx67 := (hx6.below hb7).more hb7.size
          obtain rfl : m7 = m5 := by rw [← hx7.1, ← hx67.1]
          have hml : m7 ≤ 1000 := by have := hx7.1; rw [boxC_len] at this; omega
          go_wp2_with fail
          refine (same_true _ _ _ _ _ _ _ _ _ _ hx67 hx7 (by omega) rfl).mono ?_
          rintro e w8 ⟨rfl, q8, rfl⟩
          have hB8 := below_drewN B7 q8
          have i8 := keep i7 (below_drewN (Below.refl _ w7) q8)
          have hL8 := Sls.turn HL.out (show Turn (fun k => W.heap.size ≤ k) W (w7.drewN q8) from ⟨hB8.os, hB8.tape, hB8.output, hB8.size, fun k hk hn => hB8.block k hk⟩)
          generalize w7.drewN q8 = w8 at hB8 i8 hL8 ⊢
          go_wp2_with fail
          refine (C.records A n c L w8 i8 (Sls.less hL8 (fun j hj => Nat.le_trans hB8.size hj)) HC.out.1 HC.out.2.1 HC.out.2.2 (by have := HS.out; omega) (by have := HS.out; omega)).mono ?_
          rintro e w9 ⟨A9, k9, c9, rfl, hR9, hb9⟩
          have B9 := hB8.trans (hb9.mono hB8.size)
          have i9 := keep i8 hb9
          have hL9 := Sls.turn HL.out (show Turn (fun k => W.heap.size ≤ k) W w9 from ⟨B9.os, B9.tape, B9.output, B9.size, fun k hk hn => B9.block k hk⟩)
          go_wp2_with fail
          refine (refRecords_any A n c L w9 (Sls.less hL9 (fun j hj => Nat.le_trans B9.size hj)) (by have := HS.out; omega) (by have := HS.out; omega)).mono ?_
          rintro e w10 ⟨A10, k10, c10, rfl, hR10, hb10⟩
          have B10 := B9.trans (hb10.mono B9.size)
          have i10 := keep i9 hb10
          have hR9' := hR9.below hb10
          have e9 := hR9'.len
          have e10 := hR10.len
          obtain rfl : k9 = k10 := by omega
          have hkl : k9 ≤ 100000 := by
            have h1 := segsR_len L []
            simp only [List.length_nil] at h1
            have := HS.out
            omega
          go_wp2_with fail
          refine (sameRcs_any A9 A10 k9 c9 c10 _ _ _ w10 hR9' hR10 (by omega) (segsR_fine L [] (fun _ h => by cases h))).mono ?_
          rintro e w11 ⟨rfl, q11, rfl⟩
          have B11 := below_drewN B10 q11
          have i11 := keep i10 (below_drewN (Below.refl _ w10) q11)
          generalize w10.drewN q11 = w11 at B11 i11 ⊢
          go_wp2_with fail
          refine (hA _ i11).mono ?_
          rintro e w12 ⟨rfl, hb12⟩
          go_wp2_with fail
          go_ret
          exact ⟨rfl, B11.trans (hb12.mono B11.size)⟩
        · rw [if_neg hc0] at hx6
          obtain rfl : m5 = 0 := hx6.1.symm
          have hq1 : (ck != 0) = true := by simpa using hc0
          have hq2 : (ck == 0) = false := by simpa using hc0
          have hB8 := B6
          have i8 := i6
          have hL8 := Sls.turn HL.out (show Turn (fun k => W.heap.size ≤ k) W w6 from ⟨hB8.os, hB8.tape, hB8.output, hB8.size, fun k hk hn => hB8.block k hk⟩)
          obtain ⟨w8, rfl⟩ : ∃ w, w = w6 := ⟨_, rfl⟩
          clear hRB hkk hc0 hck
          go_wp2_with fail
          refine (C.records A n c L w8 i8 (Sls.less hL8 (fun j hj => Nat.le_trans hB8.size hj)) HC.out.1 HC.out.2.1 HC.out.2.2 (by have := HS.out; omega) (by have := HS.out; omega)).mono ?_
          rintro e w9 ⟨A9, k9, c9, rfl, hR9, hb9⟩
          have B9 := hB8.trans (hb9.mono hB8.size)
          have i9 := keep i8 hb9
          have hL9 := Sls.turn HL.out (show Turn (fun k => W.heap.size ≤ k) W w9 from ⟨B9.os, B9.tape, B9.output, B9.size, fun k hk hn => B9.block k hk⟩)
          go_wp2_with fail
          refine (refRecords_any A n c L w9 (Sls.less hL9 (fun j hj => Nat.le_trans B9.size hj)) (by have := HS.out; omega) (by have := HS.out; omega)).mono ?_
          rintro e w10 ⟨A10, k10, c10, rfl, hR10, hb10⟩
          have B10 := B9.trans (hb10.mono B9.size)
          have i10 := keep i9 hb10
          have hR9' := hR9.below hb10
          have e9 := hR9'.len
          have e10 := hR10.len
          obtain rfl : k9 = k10 := by omega
          have hkl : k9 ≤ 100000 := by
            have h1 := segsR_len L []
            simp only [List.length_nil] at h1
            have := HS.out
            omega
          go_wp2_with fail
          refine (sameRcs_any A9 A10 k9 c9 c10 _ _ _ w10 hR9' hR10 (by omega) (segsR_fine L [] (fun _ h => by cases h))).mono ?_
          rintro e w11 ⟨rfl, q11, rfl⟩
          have B11 := below_drewN B10 q11
          have i11 := keep i10 (below_drewN (Below.refl _ w10) q11)
          generalize w10.drewN q11 = w11 at B11 i11 ⊢
          go_wp2_with fail
          refine (hA _ i11).mono ?_
          rintro e w12 ⟨rfl, hb12⟩
          go_wp2_with fail
          go_ret
          exact ⟨rfl, B11.trans (hb12.mono B11.size)⟩

end Go.Proofs.YtgococpbhbcpmaaGreatDoor

/-
  Segments of records whose numbers go on, the last one torn. No program stands here.
-/
namespace Go.Proofs.YtgococpbhbcpmaaGreatDoor
open Go.RowKit
set_option linter.unusedVariables false
set_option linter.unusedSimpArgs false

/-- A record that may be. -/
def okRc (r : Rc) : Prop := checkC r = 0 ∧ r.okay
/-- Numbers that go on. -/
def Chain (l : List Rc) : Prop := ∀ (i : Nat) (a b : Rc), l[i]? = some a → l[i + 1]? = some b → a.seq + 1 < 18446744073709551616 ∧ b.seq = a.seq + 1
/-- The bytes of a segment. -/
def segB (c : List Rc) : List UInt8 := boxesC (c.map encC)

theorem okRc_rec (r : Rc) (h : okRc r) : recOk (encC r) = true ∧ recP (encC r) = r := by
  obtain ⟨h1, h2, h3⟩ := recP_enc r h.2 h.1
  refine ⟨?_, h1⟩
  unfold recOk
  rw [h1, h2]
  exact decide_eq_true ⟨by omega, h3, h.1, rfl⟩
theorem okRc_len (r : Rc) (h : okRc r) : 10 ≤ (encC r).length ∧ (encC r).length ≤ 50 := by
  have h1 := (recP_enc r h.2 h.1).2.2
  have h2 := enc_len r
  have h3 := (ten_len _ (check_parts r h.1).2.1).2
  omega
theorem chain_tail {a : Rc} {l : List Rc} (h : Chain (a :: l)) : Chain l := fun i x y hx hy => h (i + 1) x y (by simpa using hx) (by simpa using hy)
theorem take_chain : ∀ (c out : List Rc), (∀ r ∈ c, okRc r) → Chain (out ++ c) → takeR out (c.map encC) = out ++ c := by
  intro c
  induction c with
  | nil => intro out _ _; rw [List.append_nil]; rfl
  | cons r c ih =>
    intro out hok hch
    obtain ⟨h1, h2⟩ := okRc_rec r (hok r List.mem_cons_self)
    rw [List.map_cons, takeR_yes _ _ _ h1 ?_, h2, ih (out ++ [r]) (fun q hq => hok q (List.mem_cons_of_mem _ hq)) (by simpa using hch)]
    · simp
    · rw [h2]
      unfold awaits
      cases hl : out.getLast? with
      | none => rfl
      | some q =>
        obtain ⟨l', rfl⟩ : ∃ l', out = l' ++ [q] := by
          have hne : out ≠ [] := by rintro rfl; cases hl
          rw [List.getLast?_eq_some_getLast hne] at hl
          exact ⟨out.dropLast, by rw [← Option.some.inj hl]; exact (List.dropLast_concat_getLast hne).symm⟩
        have := hch l'.length q r (by simp) (by simp)
        exact decide_eq_true (by omega)

theorem lenB_take_succ (bs : List (List UInt8)) (m : Nat) (b : List UInt8) (h : bs[m]? = some b) : lenB (bs.take (m + 1)) = lenB (bs.take m) + (b.length + 6) := by
  rw [List.take_add_one, h]
  exact lenB_snoc _ _
/-- Those of boxes that are whole. -/
theorem cutB_take : ∀ (bs : List (List UInt8)) (n m : Nat), m ≤ bs.length → lenB (bs.take m) ≤ n → (m = bs.length ∨ n < lenB (bs.take (m + 1))) → (cutB bs n).1 = bs.take m := by
  intro bs
  induction bs with
  | nil => intro n m _ _ _; simp [cutB]
  | cons b t ih =>
    intro n m hm h1 h2
    cases m with
    | zero =>
      rcases h2 with h2 | h2
      · cases h2
      · have e : lenB ((b :: t).take (0 + 1)) = b.length + 6 := by
          show lenB [b] = _
          rw [lenB_cons]
          rfl
        rw [e] at h2
        unfold cutB
        rw [if_neg (by omega)]
        rfl
    | succ m =>
      rw [List.take_succ_cons, lenB_cons] at h1
      have hm' : m ≤ t.length := by simpa using hm
      unfold cutB
      rw [if_pos (by omega)]
      simp only [List.take_succ_cons]
      rw [ih (n - (b.length + 6)) m hm' (by omega) ?_]
      rcases h2 with h2 | h2
      · exact .inl (by simpa using h2)
      · rw [List.take_succ_cons, lenB_cons] at h2
        exact .inr (by omega)

theorem segs_whole : ∀ (cs : List (List Rc)) (out : List Rc), (∀ r ∈ cs.flatten, okRc r) → Chain (out ++ cs.flatten) → segsR out (cs.map segB) = out ++ cs.flatten := by
  intro cs
  induction cs with
  | nil => intro out _ _; simp [segsR]
  | cons c cs ih =>
    intro out hok hch
    have hc : ∀ r ∈ c, okRc r := fun r hr => hok r (by simp [hr])
    have hv : (validC (segB c)).1 = c.map encC := by
      have h1 := valid_cut (c.map encC) (lenB (c.map encC)) (fun b hb => by
        obtain ⟨r, hr, rfl⟩ := List.mem_map.1 hb
        have := okRc_len r (hc r hr)
        omega)
      rw [show (boxesC (c.map encC)).take (lenB (c.map encC)) = boxesC (c.map encC) from List.take_of_length_le (Nat.le_refl _)] at h1
      unfold segB
      rw [h1, cutB_all _ _ (Nat.le_refl _)]
    show segsR (takeR out (validC (segB c)).1) (cs.map segB) = _
    have hch1 : Chain (out ++ c) := fun i a b ha hb => hch i a b (by
      rw [List.flatten_cons, ← List.append_assoc, List.getElem?_append_left (List.getElem?_eq_some_iff.1 ha).1]; exact ha) (by
      rw [List.flatten_cons, ← List.append_assoc, List.getElem?_append_left (List.getElem?_eq_some_iff.1 hb).1]; exact hb)
    rw [hv, take_chain c out hc hch1, ih (out ++ c) (fun r hr => hok r (by simp at hr ⊢; exact .inr hr)) (by simpa using hch)]
    simp
/-- The last segment torn: a beginning comes back, with all that are whole. -/
theorem torn_math (l : List Rc) (cs : List (List Rc)) (cur : List Rc) (n m : Nat) (hl : l = cs.flatten ++ cur) (hok : ∀ r ∈ l, okRc r) (hch : Chain l) (hm : m ≤ cur.length) (h1 : lenB ((cur.map encC).take m) ≤ n) (h2 : m = cur.length ∨ n < lenB ((cur.map encC).take (m + 1))) :
    segsR [] (cs.map segB ++ [(segB cur).take n]) = l.take (cs.flatten.length + m) := by
  subst hl
  have hokc : ∀ r ∈ cs.flatten, okRc r := fun r hr => hok r (List.mem_append_left _ hr)
  have hoku : ∀ r ∈ cur, okRc r := fun r hr => hok r (List.mem_append_right _ hr)
  have hch0 : Chain cs.flatten := fun i a b ha hb => hch i a b (by rw [List.getElem?_append_left (List.getElem?_eq_some_iff.1 ha).1]; exact ha) (by rw [List.getElem?_append_left (List.getElem?_eq_some_iff.1 hb).1]; exact hb)
  have hch1 : Chain ([] ++ cs.flatten) := by rw [List.nil_append]; exact hch0
  rw [segsR_snoc, segs_whole cs [] hokc hch1]
  have hv := valid_cut (cur.map encC) n (fun b hb => by
    obtain ⟨r, hr, rfl⟩ := List.mem_map.1 hb
    have := okRc_len r (hoku r hr)
    omega)
  unfold segB
  rw [hv, cutB_take _ n m (by simpa using hm) h1 (by simpa using h2), ← List.map_take, List.nil_append, take_chain (cur.take m) cs.flatten (fun r hr => hoku r (List.mem_of_mem_take hr)) ?_, List.take_length_add_append]
  have e : cs.flatten ++ cur.take m = (cs.flatten ++ cur).take (cs.flatten.length + m) := by rw [List.take_length_add_append]
  rw [e]
  intro i a b ha hb
  rw [List.getElem?_take] at ha hb
  split at ha
  · split at hb
    · exact hch i a b ha hb
    · cases hb
  · cases ha

end Go.Proofs.YtgococpbhbcpmaaGreatDoor

/-
  The statement SegTorn by the program's contracts.
-/
namespace Go.Proofs.YtgococpbhbcpmaaGreatDoor
open Go.RowKit
set_option linter.unusedVariables false
set_option linter.unusedSimpArgs false

/-- Are there too many, or too long ones? -/
def largeR (l : List Rc) : Bool := (l.take 60).any (fun r => decide (100 < r.ten.length)) || decide (60 < l.length)

set_option maxRecDepth 100000 in
set_option maxHeartbeats 2000000 in
theorem refLargeR_any (A : Option Addr) (n c : Nat) (l : List Rc) (S : Nat → Prop) (W : World) (h : Rcs W S A n l) (hn : n ≤ maxLen) (hf : Fine l) :
    Calls Tryz.prog 13 #[.slice A n c] W fun e W' => e = .returned (.bool (largeR l)) ∧ W' = W := by
  unfold maxLen at hn
  have HN := Lib.hid h.len
  go_enter Tryz.func13, Tryz.ntmps13
  go_wp2_with fail
  go_loopw [3] (fun i wr => ∃ k : Nat, k ≤ n ∧ k ≤ 60 ∧ i = .int .i64 (k : Nat) ∧ wr = W ∧ (l.take k).any (fun r => decide (100 < r.ten.length)) = false) (fun i _ => 60 - (intOf i).toNat)
  case atStart => exact ⟨0, Nat.zero_le _, by omega, rfl, rfl, rfl⟩
  case round =>
    obtain ⟨k, hk, hk6, rfl, rfl, hno⟩ := hrel
    by_cases hlt : k < n
    · by_cases h6 : k < 60
      · obtain ⟨r, hr⟩ : ∃ r, l[k]? = some r := ⟨_, List.getElem?_eq_getElem (by have := HN.out; omega)⟩
        obtain ⟨g, o, rfl, _, _, _, _, z2, _⟩ := Rcs.at_ h hr
        have hm := (hf r (List.mem_of_getElem? hr)).2
        unfold maxLen at hm
        have hsu : (l.take (k + 1)).any (fun r => decide (100 < r.ten.length)) = decide (100 < r.ten.length) := by
          rw [List.take_add_one, hr, List.any_append, hno]
          simp
        have hkn : (k : Int) < (n : Int) := by omega
        have hk60 : (k : Int) < 60 := by omega
        by_cases ht : 100 < r.ten.length
        · have h1 : (100 : Int) < (r.ten.length : Int) := by omega
          have HR := Lib.hid (show largeR l = true by
            rw [decide_eq_true ht] at hsu
            unfold largeR
            rw [Bool.or_eq_true]
            left
            rw [List.any_eq_true] at hsu ⊢
            obtain ⟨x, hx, hx2⟩ := hsu
            exact ⟨x, List.take_subset_take_left l (by omega) hx, hx2⟩)
          clear hsu hno hlt h6 hk hk6 hr ht hm
          go_wp2_with fail
          go_ret
          exact ⟨by rw [HR.out]; rfl, rfl⟩
        · have h1 : ¬ (100 : Int) < (r.ten.length : Int) := by omega
          rw [decide_eq_false ht] at hsu
          have HS := Lib.hid (And.intro hsu (And.intro hlt h6))
          clear hsu hno hlt h6 hk hk6 hr ht hm
          go_wp2_with fail
          go_roundw
          case rel => exact ⟨k + 1, by have := HS.out; omega, by have := HS.out; omega, by go_num, trivial, HS.out.1⟩
          case measure => have := HS.out; simp [intOf]; omega
      · have hk60 : ¬ (k : Int) < 60 := by omega
        have hkn : (k : Int) < (n : Int) := by omega
        obtain rfl : k = 60 := by omega
        have HR := Lib.hid (show largeR l = decide (60 < l.length) by unfold largeR; rw [hno]; rfl)
        have hl := HN.out
        obtain ⟨d, hd⟩ : ∃ d, decide (60 < l.length) = d := ⟨_, rfl⟩
        have h2 : (60 : Int) < (n : Int) := by omega
        obtain rfl : d = true := by rw [← hd]; exact decide_eq_true (by omega)
        rw [hd] at HR
        clear hno hlt h6 hk hk6 hd hl
        go_wp2_with fail
        go_ret
        exact ⟨by rw [HR.out]; rfl, rfl⟩
    · have hkn : ¬ (k : Int) < (n : Int) := by omega
      have hkk : k = n := by omega
      have hl := HN.out
      have h2 : ¬ (60 : Int) < (n : Int) := by omega
      have HR := Lib.hid (show largeR l = false by
        unfold largeR
        rw [List.take_of_length_le (by omega)]
        rw [hkk, List.take_of_length_le (by omega)] at hno
        rw [hno, decide_eq_false (by omega)]
        rfl)
      clear hno hlt hk hk6 hkk hl
      go_wp2_with fail
      go_ret
      exact ⟨by rw [HR.out]; rfl, rfl⟩
theorem large_not (l : List Rc) (h : largeR l = false) : l.length ≤ 60 ∧ ∀ r ∈ l, r.ten.length ≤ 100 := by
  unfold largeR at h
  obtain ⟨h1, h2⟩ := Bool.or_eq_false_iff.1 h
  have h3 : l.length ≤ 60 := by have := of_decide_eq_false h2; omega
  refine ⟨h3, fun r hr => ?_⟩
  rw [List.take_of_length_le h3, List.any_eq_false] at h1
  have := h1 r hr
  simp at this
  exact this

end Go.Proofs.YtgococpbhbcpmaaGreatDoor
