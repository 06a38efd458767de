/-
  The reference of records: a record's bytes.
-/
import Derived.Test.YtgococpbhbcpmaaGreatDoorZz17
import Derived.Lib.AppendStr
import Derived.Test.YtgococpbhbcpmaaGreatDoorZz5
import Derived.Deep.RegionWith
import Derived.Deep.RegionHeld3
import Derived.Deep.CutRange
namespace Go.Proofs.YtgococpbhbcpmaaGreatDoor
open Go.RowKit
set_option linter.unusedVariables false
set_option linter.unusedSimpArgs false

theorem str_cells (T : ByteArray) : Lib.strCells T = T.data.toList.map bv := rfl

/-- What was below stays so where a row of one's own grows. -/
theorem acc_step {B n : Nat} {W1 w2 w3 : World} {e : TypeId} {v : Value} {xs : List Value} (hB : Below B W1 w2) (hle : B ≤ w2.heap.size) (ha : w2.ownsRow B e 1 v n xs) (hg : w2.grownBy w3 v.ownBlock) : Below B W1 w3 :=
  hB.grown hg hle fun q hq => (ha.lt q hq).1

theorem own_cast {w : World} {base n : Nat} {e : TypeId} {v : Value} {xs ys : List Value} (h : w.ownsRow base e 1 v n xs) (he : xs = ys) : w.ownsRow base e 1 v n ys := he ▸ h

set_option maxRecDepth 100000 in
theorem refText_any (T : ByteArray) (hT : T.size ≤ 1000000) (W : World) :
    Calls Tryz.prog 43 #[.int .i64 1, .string T] W fun e W' => ∃ v n, e = .returned v ∧ n ≤ 1000001 ∧ W'.ownsRow W.heap.size 5 1 v n ((UInt8.ofNat T.size :: T.data.toList).map bv) ∧ Below W.heap.size W W' := by
  obtain ⟨i0, hi, hz0, hz1, hz2⟩ := info_parts Tryz.info5
  go_enter Tryz.func43, Tryz.ntmps43
  go_wp2_with fail
  refine (bytes_any 1 T.size (by omega) (by omega) _).mono ?_
  rintro e w2 ⟨u, rfl, hu, hb2⟩
  simp only [show (1 : Int).toNat = 1 from rfl] at hu
  go_wp2_with (at_builtin; refine Lib.wpList_append_own_string _ rfl _ _ 26 9 rfl W.heap.size 5 i0 Tryz.underlying26 Tryz.underlying9 hi hz0 hz1 hz2 _ _ _ rfl hu T rfl (by unfold maxLen; omega) (by omega) hb2.size ?_; intro v3 w3 ha3 hg3 _; have hB3 := acc_step hb2 hb2.size hu hg3)
  go_ret
  exact ⟨_, _, rfl, by omega, ha3, hB3⟩

attribute [local go_sem] fz1_108 fz1_110 fz1_98 fz2_108 fz2_110 fz2_98 fz3_108 fz3_110 fz3_98 fz4_108 fz4_110 fz4_98 fz5_108 fz5_110 fz5_98

set_option maxRecDepth 100000 in
set_option maxHeartbeats 4000000 in
theorem refBytes_any (s : Nat) (k : Int) (T : ByteArray) (l n b : Nat) (hs : s < 18446744073709551616) (hl : l < 18446744073709551616) (hn : n < 18446744073709551616) (hb : b < 18446744073709551616) (hT : T.size ≤ 1000000) (hk : isK k = true) (W : World) :
    Calls Tryz.prog 22 #[rcV s k T l n b] W fun e W' => ∃ v m, e = .returned v ∧ W'.ownsRow W.heap.size 5 1 v m ((encC ⟨s, k, T.data.toList, l, n, b⟩).map bv) ∧ Below W.heap.size W W' := by
  obtain ⟨i0, hi, hz0, hz1, hz2⟩ := info_parts Tryz.info5
  have h : 1 ≤ k ∧ k ≤ 5 := by unfold isK at hk; simpa using hk
  have hsz : T.data.toList.length = T.size := by simp
  unfold rcV
  have hN := Blk.new (cs := rcCs s k T l n b) W 25 _ rfl
  have hB0 : Below W.heap.size W (W.alloc (.cells (rcCs s k T l n b).toArray 25)) := (Below.refl W.heap.size W).alloc (Nat.le_refl _) _
  have HB0 := Lib.hid hB0
  have hB : Below (W.heap.size + 1) (W.alloc (.cells (rcCs s k T l n b).toArray 25)) (W.alloc (.cells (rcCs s k T l n b).toArray 25)) := Below.refl _ _
  obtain rfl | rfl | rfl | rfl | rfl : k = 1 ∨ k = 2 ∨ k = 3 ∨ k = 4 ∨ k = 5 := by omega
  all_goals
    clear h hk hB0
    go_enter Tryz.func22, Tryz.ntmps22
    go_wp2_with fail
    refine (bytes_int 1 _ (by decide) (by decide) (by decide) _).mono ?_
    rintro e w2 ⟨u, rfl, hu, hb2⟩
    have hN1 := hN.below hb2 (by simp)
    have hB1 := hB.trans (hb2.mono (by simp))
    have ha := own_mono hu (show W.heap.size + 1 ≤ _ by simp)
    clear hN hB hu hb2
    have hN := hN1
    have hB := hB1
    clear hN1 hB1
    obtain ⟨z0, z1, z2, z3, z4, z5⟩ := rc_cells hN
    have hlt := hN.lt
    go_wp2_with (first
      | (go_at_call 42; refine (bytes_any 8 _ (by omega) (by decide) _).mono ?_; rintro e w3 ⟨u3, rfl, hu, hb3⟩; obtain ⟨X, q, rfl, hn3, hl3, hm3⟩ := own_form hu; simp only [show (8 : Int).toNat = 8 from rfl] at hu hn3 hl3 ⊢; have hx := Byt.of_own hu; have ha' := own_below ha hb3; have hN' := hN.below hb3 hN.lt; have hB' := hB.trans (hb3.mono hN.lt); have hs3 := Nat.lt_of_lt_of_le hN.lt hb3.size; clear ha hN hB hu hb3; clear z0 z1 z2 z3 z4 z5; obtain ⟨z0, z1, z2, z3, z4, z5⟩ := rc_cells hN')
      | (go_at_call 43; refine (refText_any T hT _).mono ?_; rintro e w3 ⟨u3, m3, rfl, HM, hu, hb3⟩; obtain ⟨X, q, rfl, hn3, hl3, hm3⟩ := own_form hu; have hx := Byt.of_own hu; have ha' := own_below ha hb3; have hN' := hN.below hb3 hN.lt; have hB' := hB.trans (hb3.mono hN.lt); have hs3 := Nat.lt_of_lt_of_le hN.lt hb3.size; clear ha hN hB hu hb3; clear z0 z1 z2 z3 z4 z5; obtain ⟨z0, z1, z2, z3, z4, z5⟩ := rc_cells hN')
      | (go_at_call 19; refine (refHas_any _ _ (by decide) _).mono ?_; rintro e w3 ⟨rfl, hx⟩; have ha' := own_below ha hx; have hN' := hN.below hx hN.lt; have hB' := hB.trans (hx.mono hN.lt); clear ha hN hB hx; clear z0 z1 z2 z3 z4 z5; obtain ⟨z0, z1, z2, z3, z4, z5⟩ := rc_cells hN'; have ha := ha'; have hN := hN'; have hB := hB'; clear ha' hN' hB')
      | (at_builtin; refine wpList_append_byt _ rfl _ _ 26 rfl (W.heap.size + 1) 5 i0 (.int .u8 0) Tryz.underlying26 hi hz0 hz1 hz2 rfl _ _ _ rfl ha' _ X _ q _ rfl hx (fun h => (hn3 h).2) (by omega) hs3 ?_; intro v4 w4 ha hg4; have hB := acc_step hB' hs3 ha' hg4; have hN := hN'.below (B := W.heap.size + 1) (acc_step (Below.refl _ _) hs3 ha' hg4) (by omega); clear ha' hN' hB' hg4 hx hs3; clear z0 z1 z2 z3 z4 z5; obtain ⟨z0, z1, z2, z3, z4, z5⟩ := rc_cells hN))
    go_ret
    exact ⟨_, _, rfl, own_cast (own_mono ha (show W.heap.size ≤ W.heap.size + 1 by omega)) (by simp [encC, fldC, kL, kN, kB, hsz]), HB0.out.trans (hB.mono (by omega))⟩

end Go.Proofs.YtgococpbhbcpmaaGreatDoor

/-
  Package rec: a record's bytes.
-/
namespace Go.Proofs.YtgococpbhbcpmaaGreatDoor
open Go.RowKit
set_option linter.unusedVariables false
set_option linter.unusedSimpArgs false

theorem enters_enc : ∀ args w, (callFunc 34 args).run Tryz.prog w = .ok (.enter 34 args) w := enters_of Tryz.func34 (by kernel_rfl) rfl

/-- Block p holds bytes of one's own, newer than itself. -/
def Acc (w : World) (p : Nat) (l : List UInt8) : Prop :=
  ∃ A n c, Blk w p 26 [.slice A n c] ∧ w.ownsRow (p + 1) 5 1 (.slice A n c) n (l.map bv)
theorem Acc.lt {w : World} {p : Nat} {l : List UInt8} (h : Acc w p l) : p < w.heap.size := by
  obtain ⟨A, n, c, h1, _⟩ := h
  exact h1.lt
/-- Another row of one's own is stored. -/
theorem acc_store {w w' : World} {p : Nat} {l' : List UInt8} {A A' : Option Addr} {n n' c c' : Nat} (h : Blk w p 26 [.slice A n c]) (hb : Below w.heap.size w w') (ho : w'.ownsRow w.heap.size 5 1 (.slice A' n' c') n' (l'.map bv)) :
    Blk (w'.setCell ⟨p, 0, none⟩ (.slice A' n' c')) p 26 [.slice A' n' c'] ∧ (w'.setCell ⟨p, 0, none⟩ (.slice A' n' c')).ownsRow (p + 1) 5 1 (.slice A' n' c') n' (l'.map bv) := by
  have h' := h.below hb h.lt
  refine ⟨h'.set 0 _, ?_⟩
  rw [setCell_row h']
  exact own_setRow (own_mono ho h.lt) (by omega) _
theorem Acc.store {w w' : World} {p : Nat} {l' : List UInt8} {A A' : Option Addr} {n n' c c' : Nat} (h : Blk w p 26 [.slice A n c]) (hb : Below w.heap.size w w') (ho : w'.ownsRow w.heap.size 5 1 (.slice A' n' c') n' (l'.map bv)) : Acc (w'.setCell ⟨p, 0, none⟩ (.slice A' n' c')) p l' :=
  ⟨A', n', c', acc_store h hb ho⟩
theorem turn_store {w w' : World} {p : Nat} {v : Value} (hb : Below w.heap.size w w') : Turn (fun k => k = p) w (w'.setCell ⟨p, 0, none⟩ v) := (Turn.of_below hb).setCell (S := fun k => k = p) (p := ⟨p, 0, none⟩) rfl v

set_option maxRecDepth 100000 in
set_option maxHeartbeats 1000000 in
theorem encF_any (h : Bool) (p g i x : Nat) (l : List UInt8) (W : World) (hx : x < 18446744073709551616) (hA : Acc W p l) (hl : l.length ≤ 1000000) (hc : W.cell? ⟨g, i, none⟩ = some (.int .u64 (x : Nat))) (hg : g ≠ p) :
    Calls Tryz.prog 34 (#[.bool h, .pointer (some ⟨g, i, none⟩)] ++ #[.pointer (some ⟨p, 0, none⟩)]) W fun e W' => e = .returned (.tuple #[]) ∧ Acc W' p (l ++ fldC h x) ∧ Turn (fun k => k = p) W W' := by
  show Calls Tryz.prog 34 #[.bool h, .pointer (some ⟨g, i, none⟩), .pointer (some ⟨p, 0, none⟩)] W _
  cases h
  · go_enter Tryz.func34, Tryz.ntmps34
    go_wp2
    go_end0
    exact ⟨rfl, by simpa [fldC] using hA, Turn.refl _ _⟩
  · obtain ⟨A, n, c, hB, ho⟩ := hA
    have hx0 := Byt.of_own ho
    have hnil := own_form ho
    obtain ⟨_, _, hv, hnil, hnc, hcm⟩ := hnil
    cases hv
    have hln : n = l.length := by have := own_len ho; simpa using this.symm
    have HO := Lib.hid ho
    have z0 := hB.cell 0
    have f0 := hB.frozen 0
    simp at z0
    have HLN := Lib.hid hln
    have hn8 : n ≤ 1000000 := by omega
    clear ho hln
    go_enter Tryz.func34, Tryz.ntmps34
    have hP := put_q A n c l 8 x (by omega) W.drew hx0.drew (fun e => (hnil e).2) (by omega) 8 (by decide) (Lib.hid rfl)
    have hlt := hB.lt
    have hgl := block_lt_of_cell hc
    simp only at hgl
    go_wp2_with fail
    go_region_with ((go_at_call 32; refine hP.mono ?_; rintro e w7 ⟨v7, rfl, hown7, hb7⟩; obtain ⟨A7, c7, rfl, hr1, hr2, hr3⟩ := own_form hown7; have y0 := (hb7.cell (p := ⟨p, 0, none⟩) hlt).trans z0; have yz := (hb7.frozen (p := ⟨p, 0, none⟩) hlt).trans f0; have y1 := (hb7.cell (p := ⟨g, i, none⟩) hgl).trans hc))
    all_goals
      have hb : Below W.heap.size W w7 := ⟨hb7.os, hb7.tape, hb7.output, hb7.size, hb7.block⟩
      go_wp2_with fail
      go_end0
      exact ⟨rfl, Acc.store hB hb hown7, turn_store hb⟩

/-- What is kept while the fields are put. -/
def EncI (W : World) (g p : Nat) (cs : List Value) (l : List UInt8) (w : World) : Prop :=
  Acc w p l ∧ Blk w g 25 cs ∧ Below W.heap.size W w
theorem EncI.step {W w w' : World} {g p : Nat} {cs : List Value} {l l' : List UInt8} (h : EncI W g p cs l w) (hg : W.heap.size ≤ g) (hp : g < p) (hA : Acc w' p l') (ht : Turn (fun k => k = p) w w') : EncI W g p cs l' w' :=
  ⟨hA, ht.blk h.2.1 (by omega), h.2.2.trans (ht.below h.2.2.size fun k hk => by omega)⟩
theorem fldC_len (h : Bool) (x : Nat) : (fldC h x).length ≤ 8 := by
  unfold fldC
  split
  · rw [le_len]; omega
  · simp

set_option maxRecDepth 100000 in
set_option maxHeartbeats 1000000 in
theorem encFields_any (W : World) (g p : Nat) (s : Nat) (k : Int) (T : ByteArray) (l n b : Nat) (hl : l < 18446744073709551616) (hn : n < 18446744073709551616) (hb : b < 18446744073709551616) (L : List UInt8) (hL : L.length ≤ 1000) (hg : W.heap.size ≤ g) (hp : g < p) (w : World) (hI : EncI W g p (rcCs s k T l n b) L w) :
    Calls Tryz.prog 33 #[.pointer (some ⟨g, 0, none⟩), .func (.func 34) #[] #[.pointer (some ⟨p, 0, none⟩)]] w fun e w' => e = .returned (.tuple #[]) ∧ EncI W g p (rcCs s k T l n b) (((L ++ fldC (kL k) l) ++ fldC (kN k) n) ++ fldC (kB k) b) w' := by
  have h1 := fldC_len (kL k) l
  have h2 := fldC_len (kN k) n
  refine rfields_any _ _ k g _ (EncI W g p (rcCs s k T l n b) (L ++ fldC (kL k) l)) (EncI W g p (rcCs s k T l n b) ((L ++ fldC (kL k) l) ++ fldC (kN k) n)) _ w enters_enc (by rw [hI.2.1.cell]; rfl) hI ?_ ?_ ?_
  · intro w hI
    refine (encF_any _ p g 3 l _ w hl hI.1 (by omega) (by rw [hI.2.1.cell]; rfl) (by omega)).mono ?_
    rintro e w' ⟨rfl, hA, ht⟩
    exact ⟨rfl, hI.step hg hp hA ht⟩
  · intro w hI
    refine (encF_any _ p g 4 n _ w hn hI.1 (by simp; omega) (by rw [hI.2.1.cell]; rfl) (by omega)).mono ?_
    rintro e w' ⟨rfl, hA, ht⟩
    exact ⟨rfl, hI.step hg hp hA ht⟩
  · intro w hI
    refine (encF_any _ p g 5 b _ w hb hI.1 (by simp; omega) (by rw [hI.2.1.cell]; rfl) (by omega)).mono ?_
    rintro e w' ⟨rfl, hA, ht⟩
    exact ⟨rfl, hI.step hg hp hA ht⟩

set_option maxRecDepth 100000 in
theorem encode_no (s : Nat) (k : Int) (T : ByteArray) (l n b : Nat) (hT : T.size ≤ maxLen) (hb : b < 18446744073709551616) (W : World) (hD : DK W) (c : Int) (hc : checkC ⟨s, k, T.data.toList, l, n, b⟩ = c) (h0 : c ≠ 0) :
    Calls Tryz.prog 16 #[rcV s k T l n b] W fun e W' => e = .returned (.tuple #[.slice none 0 0, .int .i64 c]) ∧ Below W.heap.size W W' := by
  have cC := fun w hw => check_any s k T l n b hT hb w hw
  rw [hc] at cC
  unfold rcV at cC ⊢
  have hq : (c != 0) = true := by simpa using h0
  have hB := (Below.refl W.heap.size W).alloc (Nat.le_refl _) (.cells (rcCs s k T l n b).toArray 25)
  have hD1 := dk_below hD hB (Nat.le_refl _)
  clear hc h0
  go_enter Tryz.func16, Tryz.ntmps16
  go_wp2_with (go_at_call 31; refine (cC _ hD1).mono ?_; rintro e w2 ⟨rfl, hb2⟩)
  go_ret2
  exact ⟨rfl, hB.trans (hb2.mono (by simp))⟩

set_option maxRecDepth 100000 in
set_option maxHeartbeats 2000000 in
theorem encode_ok (s : Nat) (k : Int) (T : ByteArray) (l n b : Nat) (hs : s < 18446744073709551616) (hl : l < 18446744073709551616) (hn : n < 18446744073709551616) (hb : b < 18446744073709551616) (hT : T.size ≤ maxLen) (W : World) (hD : DK W) (hc : checkC ⟨s, k, T.data.toList, l, n, b⟩ = 0) :
    Calls Tryz.prog 16 #[rcV s k T l n b] W fun e W' => ∃ v m, e = .returned (.tuple #[v, .int .i64 0]) ∧ W'.ownsRow W.heap.size 5 1 v m ((encC ⟨s, k, T.data.toList, l, n, b⟩).map bv) ∧ Below W.heap.size W W' := by
  obtain ⟨i0, hi, hz0, hz1, hz2⟩ := info_parts Tryz.info5
  obtain ⟨h1, h2, _, _, _⟩ := check_parts _ hc
  have hk : 1 ≤ k ∧ k ≤ 5 := by unfold isK at h1; simpa using h1
  have hsz : T.data.toList.length = T.size := by simp
  have ht : T.size ≤ 16 := by have := (ten_len _ h2).2; simp only at this; omega
  have cC := fun w hw => check_any s k T l n b hT hb w hw
  rw [hc] at cC
  obtain ⟨kk, rfl⟩ : ∃ j : Nat, k = (j : Int) := ⟨k.toNat, by omega⟩
  have hkw : IntKind.u64.wrap (kk : Int) = (kk : Int) := by rw [IntKind.wrap_u64]; omega
  have htw : IntKind.u64.wrap (T.size : Int) = (T.size : Int) := by rw [IntKind.wrap_u64]; omega
  have HK := Lib.hid hk
  have HT := Lib.hid ht
  unfold rcV at cC ⊢
  have hB := (Below.refl W.heap.size W).alloc (Nat.le_refl _) (.cells (rcCs s kk T l n b).toArray 25)
  have hD1 := dk_below hD hB (Nat.le_refl _)
  have hN := Blk.new (cs := rcCs s kk T l n b) W 25 _ rfl
  clear hc h1 h2 hk ht
  go_enter Tryz.func16, Tryz.ntmps16
  go_wp2_with (go_at_call 31; refine (cC _ hD1).mono ?_; rintro e w2 ⟨rfl, hb2⟩; have hN2 := hN.below hb2 hN.lt; obtain ⟨z0, z1, z2, z3, z4, z5⟩ := rc_cells hN2; have hB2 := hB.trans (hb2.mono hB.size); clear hb2)
  refine (put_q none 0 0 [] 1 kk (by have := HK.out; omega) w2 Byt.nil (fun _ => rfl) (by omega) 1 (by decide) (Lib.hid rfl)).mono ?_
  rintro e w3 ⟨v3, rfl, ho3, hb3⟩
  simp only [show 0 + 1 = 1 from rfl] at ho3
  obtain ⟨A3, c3, rfl, hr1, hr2, hr3⟩ := own_form ho3
  have hx3 := Byt.of_own ho3
  have hN3 := hN2.below hb3 hN2.lt
  have hB3 := hB2.trans (hb3.mono hB2.size)
  clear z0 z1 z2 z3 z4 z5 hN2 hB2 hb3 ho3
  obtain ⟨z0, z1, z2, z3, z4, z5⟩ := rc_cells hN3
  have hP3 := Blk.new (cs := [.slice A3 1 c3]) w3 26 _ rfl
  have hN4 := hN3.alloc (.cells #[.slice A3 1 c3] 26)
  have hB4 := hB3.alloc hB3.size (.cells #[.slice A3 1 c3] 26)
  have hlt3 := hN3.lt
  go_wp2_with fail
  refine (put_q A3 1 c3 _ 8 s (by omega) _ ((hx3.alloc (Nat.le_refl _) _).more (by simp)) (fun h => (hr1 h).2) (by omega) 8 (by decide) (Lib.hid rfl)).mono ?_
  rintro e w5 ⟨v5, rfl, ho5, hb5⟩
  simp only [show 1 + 8 = 9 from rfl] at ho5
  obtain ⟨A5, c5, rfl, hq1, hq2, hq3⟩ := own_form ho5
  obtain ⟨hP6, ho6⟩ := acc_store hP3 hb5 ho5
  have ht5 := turn_store (p := w3.heap.size) (v := .slice A5 9 c5) hb5
  have hN6 := ht5.blk hN4 (by omega)
  have hB6 := hB4.trans (ht5.below hB4.size fun k hk => by omega)
  have y0 := (hP3.below hb5 hP3.lt).cell 0
  have yf := (hP3.below hb5 hP3.lt).frozen 0
  simp only [List.getElem?_cons_zero] at y0
  clear z0 z1 z2 z3 z4 z5 hN3 hB3 hN4 hB4 ht5 hb5 ho5
  obtain ⟨z0, z1, z2, z3, z4, z5⟩ := rc_cells hN6
  go_wp2_with fail
  refine (put_q A5 9 c5 _ 1 T.size (by have := HT.out; omega) _ (Byt.of_own ho6) (fun h => (hq1 h).2) (by omega) 1 (by decide) (Lib.hid rfl)).mono ?_
  rintro e w7 ⟨v7, rfl, ho7, hb7⟩
  simp only [show 9 + 1 = 10 from rfl] at ho7
  obtain ⟨A7, c7, rfl, hs1, hs2, hs3⟩ := own_form ho7
  obtain ⟨hP8, ho8⟩ := acc_store hP6 hb7 ho7
  have ht7 := turn_store (p := w3.heap.size) (v := .slice A7 10 c7) hb7
  have hN8 := ht7.blk hN6 (by omega)
  have hB8 := hB6.trans (ht7.below hB6.size fun k hk => by omega)
  have y2 := (hP6.below hb7 hP6.lt).cell 0
  have yf2 := (hP6.below hb7 hP6.lt).frozen 0
  simp only [List.getElem?_cons_zero] at y2
  clear z0 z1 z2 z3 z4 z5 hN6 hB6 ht7 hb7 ho7 y0 yf hP6 ho6
  obtain ⟨z0, z1, z2, z3, z4, z5⟩ := rc_cells hN8
  go_wp2_with (at_builtin; refine Lib.wpList_append_own_string _ rfl _ _ 26 9 rfl (w3.heap.size + 1) 5 i0 Tryz.underlying26 Tryz.underlying9 hi hz0 hz1 hz2 _ _ _ rfl ho8 T rfl (by have := HT.out; unfold maxLen; omega) (by have := HT.out; omega) hP8.lt ?_; intro v9 w9 ho9 hg9 _; obtain ⟨A9, c9, rfl, ht1, ht2, ht3⟩ := own_form ho9; have hb9 := acc_step (Below.refl _ _) hP8.lt ho8 hg9; have hP9 := hP8.below hb9 (Nat.lt_succ_self _); have hN9 := hN8.below hb9 (by omega); have hB9 := hB8.trans (hb9.mono (by omega)); have x0 := hP9.cell 0; have xf := hP9.frozen 0; simp only [List.getElem?_cons_zero] at x0; clear z0 z1 z2 z3 z4 z5 hN8 hB8 hg9 hb9 y2 yf2; obtain ⟨z0, z1, z2, z3, z4, z5⟩ := rc_cells hN9)
  have hI : EncI W W.heap.size w3.heap.size (rcCs s kk T l n b) (([] ++ le 1 kk ++ le 8 s ++ le 1 T.size) ++ T.data.toList) (w9.setCell ⟨w3.heap.size, 0, none⟩ (.slice A9 (10 + T.size) c9)) := by
    refine ⟨⟨A9, _, c9, hP9.set 0 _, ?_⟩, hN9.other _ _ (by simp; omega), ?_⟩
    · rw [setCell_row hP9]
      exact own_setRow (own_cast ho9 (by rw [str_cells]; simp)) (by omega) _
    · rw [setCell_row hP9]
      exact below_row hB9 (by omega) _
  have hF := encFields_any W W.heap.size w3.heap.size s kk T l n b hl hn hb _ (by have := HT.out; simp [le_len, hsz]; omega) (Nat.le_refl _) hlt3 _ hI
  have hE : (((([] ++ le 1 kk ++ le 8 s ++ le 1 T.size) ++ T.data.toList) ++ fldC (kL kk) l) ++ fldC (kN kk) n) ++ fldC (kB kk) b = encC ⟨s, kk, T.data.toList, l, n, b⟩ := by
    unfold encC
    simp [hsz, le]
  rw [hE] at hF
  have hmf : ∀ (fn : Fn) (first cap : Array Value) (w : World), (Instr.makeFunc fn first cap).run Tryz.prog w = .ok (.func fn first cap) w := fun _ _ _ _ => rfl
  clear hI hE
  go_wp2_with fail
  refine hF.mono ?_
  rintro e w11 ⟨rfl, ⟨A, m, c, hP, ho⟩, hN11, hB11⟩
  have x1 := hP.cell 0
  simp only [List.getElem?_cons_zero] at x1
  go_wp2_with fail
  go_ret2
  exact ⟨_, _, rfl, own_mono ho (by omega), hB11⟩

end Go.Proofs.YtgococpbhbcpmaaGreatDoor
