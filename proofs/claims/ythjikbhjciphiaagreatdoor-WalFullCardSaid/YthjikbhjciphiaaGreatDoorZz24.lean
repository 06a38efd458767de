/-
  Package rec: a record's bytes.
-/
import Derived.Test.YthjikbhjciphiaaGreatDoorZz23
import Derived.Test.YthjikbhjciphiaaGreatDoorZz8
import Derived.Deep.RegionWith
import Derived.Deep.RegionHeld3
import Derived.Deep.CutRange
import Derived.Test.YthjikbhjciphiaaGreatDoorZz3
import Derived.Test.YthjikbhjciphiaaGreatDoorZz19
import Derived.Test.YthjikbhjciphiaaGreatDoorZz21
import Derived.Test.YthjikbhjciphiaaGreatDoorZz15
import Derived.BigRegion
import Derived.Deep.Cut
namespace Go.Proofs.YthjikbhjciphiaaGreatDoor
open Go.RowKit
set_option linter.unusedVariables false
set_option linter.unusedSimpArgs false

theorem enters_enc : ∀ args w, (callFunc 129 args).run Tryz.prog w = .ok (.enter 129 args) w := enters_of Tryz.func129 (by kernel_rfl) rfl

/-- Block p holds bytes of one's own, newer than itself. -/
def Acc (w : World) (p : Nat) (l : List UInt8) : Prop :=
  ∃ A n c, Blk w p 70 [.slice A n c] ∧ w.ownsRow (p + 1) 5 1 (.slice A n c) n (l.map bv)
theorem Acc.lt {w : World} {p : Nat} {l : List UInt8} (h : Acc w p l) : p < w.heap.size := by
  obtain ⟨A, n, c, h1, _⟩ := h
  exact h1.lt
/-- Another row of one's own is stored. -/
theorem acc_store {w w' : World} {p : Nat} {l' : List UInt8} {A A' : Option Addr} {n n' c c' : Nat} (h : Blk w p 70 [.slice A n c]) (hb : Below w.heap.size w w') (ho : w'.ownsRow w.heap.size 5 1 (.slice A' n' c') n' (l'.map bv)) :
    Blk (w'.setCell ⟨p, 0, none⟩ (.slice A' n' c')) p 70 [.slice A' n' c'] ∧ (w'.setCell ⟨p, 0, none⟩ (.slice A' n' c')).ownsRow (p + 1) 5 1 (.slice A' n' c') n' (l'.map bv) := by
  have h' := h.below hb h.lt
  refine ⟨h'.set 0 _, ?_⟩
  rw [setCell_row h']
  exact own_setRow (own_mono ho h.lt) (by omega) _
theorem Acc.store {w w' : World} {p : Nat} {l' : List UInt8} {A A' : Option Addr} {n n' c c' : Nat} (h : Blk w p 70 [.slice A n c]) (hb : Below w.heap.size w w') (ho : w'.ownsRow w.heap.size 5 1 (.slice A' n' c') n' (l'.map bv)) : Acc (w'.setCell ⟨p, 0, none⟩ (.slice A' n' c')) p l' :=
  ⟨A', n', c', acc_store h hb ho⟩
theorem turn_store {w w' : World} {p : Nat} {v : Value} (hb : Below w.heap.size w w') : Turn (fun k => k = p) w (w'.setCell ⟨p, 0, none⟩ v) := (Turn.of_below hb).setCell (S := fun k => k = p) (p := ⟨p, 0, none⟩) rfl v

set_option maxRecDepth 100000 in
set_option maxHeartbeats 1000000 in
theorem encF_any (h : Bool) (p g i x : Nat) (l : List UInt8) (W : World) (hx : x < 18446744073709551616) (hA : Acc W p l) (hl : l.length ≤ 1000000) (hc : W.cell? ⟨g, i, none⟩ = some (.int .u64 (x : Nat))) (hg : g ≠ p) :
    Calls Tryz.prog 129 (#[.bool h, .pointer (some ⟨g, i, none⟩)] ++ #[.pointer (some ⟨p, 0, none⟩)]) W fun e W' => e = .returned (.tuple #[]) ∧ Acc W' p (l ++ fldC h x) ∧ Turn (fun k => k = p) W W' := by
  show Calls Tryz.prog 129 #[.bool h, .pointer (some ⟨g, i, none⟩), .pointer (some ⟨p, 0, none⟩)] W _
  cases h
  · go_enter Tryz.func129, Tryz.ntmps129
    go_wp2
    go_end0
    exact ⟨rfl, by simpa [fldC] using hA, Turn.refl _ _⟩
  · obtain ⟨A, n, c, hB, ho⟩ := hA
    have hx0 := Byt.of_own ho
    have hnil := own_form ho
    obtain ⟨_, _, hv, hnil, hnc, hcm⟩ := hnil
    cases hv
    have hln : n = l.length := by have := own_len ho; simpa using this.symm
    have HO := Lib.hid ho
    have z0 := hB.cell 0
    have f0 := hB.frozen 0
    simp at z0
    have HLN := Lib.hid hln
    have hn8 : n ≤ 1000000 := by omega
    clear ho hln
    go_enter Tryz.func129, Tryz.ntmps129
    have hP := put_q A n c l 8 x (by omega) W.drew hx0.drew (fun e => (hnil e).2) (by omega) 8 (by decide) (Lib.hid rfl)
    have hlt := hB.lt
    have hgl := block_lt_of_cell hc
    simp only at hgl
    go_wp2_with fail
    go_region_with ((go_at_call 128; refine hP.mono ?_; rintro e w7 ⟨v7, rfl, hown7, hb7⟩; obtain ⟨A7, c7, rfl, hr1, hr2, hr3⟩ := own_form hown7; have y0 := (hb7.cell (p := ⟨p, 0, none⟩) hlt).trans z0; have yz := (hb7.frozen (p := ⟨p, 0, none⟩) hlt).trans f0; have y1 := (hb7.cell (p := ⟨g, i, none⟩) hgl).trans hc))
    all_goals
      have hb : Below W.heap.size W w7 := ⟨hb7.os, hb7.tape, hb7.output, hb7.size, hb7.block⟩
      go_wp2_with fail
      go_end0
      exact ⟨rfl, Acc.store hB hb hown7, turn_store hb⟩

/-- What is kept while the fields are put. -/
def EncI (W : World) (g p : Nat) (cs : List Value) (l : List UInt8) (w : World) : Prop :=
  Acc w p l ∧ Blk w g 35 cs ∧ Below W.heap.size W w
theorem EncI.step {W w w' : World} {g p : Nat} {cs : List Value} {l l' : List UInt8} (h : EncI W g p cs l w) (hg : W.heap.size ≤ g) (hp : g < p) (hA : Acc w' p l') (ht : Turn (fun k => k = p) w w') : EncI W g p cs l' w' :=
  ⟨hA, ht.blk h.2.1 (by omega), h.2.2.trans (ht.below h.2.2.size fun k hk => by omega)⟩
theorem fldC_len (h : Bool) (x : Nat) : (fldC h x).length ≤ 8 := by
  unfold fldC
  split
  · rw [le_len]; omega
  · simp

set_option maxRecDepth 100000 in
set_option maxHeartbeats 1000000 in
theorem encFields_any (W : World) (g p : Nat) (s : Nat) (k : Int) (T : ByteArray) (l n b : Nat) (hl : l < 18446744073709551616) (hn : n < 18446744073709551616) (hb : b < 18446744073709551616) (L : List UInt8) (hL : L.length ≤ 1000) (hg : W.heap.size ≤ g) (hp : g < p) (w : World) (hI : EncI W g p (rcCs s k T l n b) L w) :
    Calls Tryz.prog 83 #[.pointer (some ⟨g, 0, none⟩), .func (.func 129) #[] #[.pointer (some ⟨p, 0, none⟩)]] w fun e w' => e = .returned (.tuple #[]) ∧ EncI W g p (rcCs s k T l n b) (((L ++ fldC (kL k) l) ++ fldC (kN k) n) ++ fldC (kB k) b) w' := by
  have h1 := fldC_len (kL k) l
  have h2 := fldC_len (kN k) n
  refine rfields_any _ _ k g _ (EncI W g p (rcCs s k T l n b) (L ++ fldC (kL k) l)) (EncI W g p (rcCs s k T l n b) ((L ++ fldC (kL k) l) ++ fldC (kN k) n)) _ w enters_enc (by rw [hI.2.1.cell]; rfl) hI ?_ ?_ ?_
  · intro w hI
    refine (encF_any _ p g 3 l _ w hl hI.1 (by omega) (by rw [hI.2.1.cell]; rfl) (by omega)).mono ?_
    rintro e w' ⟨rfl, hA, ht⟩
    exact ⟨rfl, hI.step hg hp hA ht⟩
  · intro w hI
    refine (encF_any _ p g 4 n _ w hn hI.1 (by simp; omega) (by rw [hI.2.1.cell]; rfl) (by omega)).mono ?_
    rintro e w' ⟨rfl, hA, ht⟩
    exact ⟨rfl, hI.step hg hp hA ht⟩
  · intro w hI
    refine (encF_any _ p g 5 b _ w hb hI.1 (by simp; omega) (by rw [hI.2.1.cell]; rfl) (by omega)).mono ?_
    rintro e w' ⟨rfl, hA, ht⟩
    exact ⟨rfl, hI.step hg hp hA ht⟩

set_option maxRecDepth 100000 in
theorem encode_no (s : Nat) (k : Int) (T : ByteArray) (l n b : Nat) (hT : T.size ≤ maxLen) (hb : b < 18446744073709551616) (W : World) (hD : DK W) (c : Int) (hc : checkC ⟨s, k, T.data.toList, l, n, b⟩ = c) (h0 : c ≠ 0) :
    Calls Tryz.prog 88 #[rcV s k T l n b] W fun e W' => e = .returned (.tuple #[.slice none 0 0, .int .i64 c]) ∧ Below W.heap.size W W' := by
  have cC := fun w hw => check_any s k T l n b hT hb w hw
  rw [hc] at cC
  unfold rcV at cC ⊢
  have hq : (c != 0) = true := by simpa using h0
  have hB := (Below.refl W.heap.size W).alloc (Nat.le_refl _) (.cells (rcCs s k T l n b).toArray 35)
  have hD1 := dk_below hD hB (Nat.le_refl _)
  clear hc h0
  go_enter Tryz.func88, Tryz.ntmps88
  go_wp2_with (go_at_call 34; refine (cC _ hD1).mono ?_; rintro e w2 ⟨rfl, hb2⟩)
  go_ret2
  exact ⟨rfl, hB.trans (hb2.mono (by simp))⟩

set_option maxRecDepth 100000 in
set_option maxHeartbeats 2000000 in
theorem encode_ok (s : Nat) (k : Int) (T : ByteArray) (l n b : Nat) (hs : s < 18446744073709551616) (hl : l < 18446744073709551616) (hn : n < 18446744073709551616) (hb : b < 18446744073709551616) (hT : T.size ≤ maxLen) (W : World) (hD : DK W) (hc : checkC ⟨s, k, T.data.toList, l, n, b⟩ = 0) :
    Calls Tryz.prog 88 #[rcV s k T l n b] W fun e W' => ∃ v m, e = .returned (.tuple #[v, .int .i64 0]) ∧ W'.ownsRow W.heap.size 5 1 v m ((encC ⟨s, k, T.data.toList, l, n, b⟩).map bv) ∧ Below W.heap.size W W' := by
  obtain ⟨i0, hi, hz0, hz1, hz2⟩ := info_parts Tryz.info5
  obtain ⟨h1, h2, _, _, _⟩ := check_parts _ hc
  have hk : 1 ≤ k ∧ k ≤ 5 := by unfold isK at h1; simpa using h1
  have hsz : T.data.toList.length = T.size := by simp
  have ht : T.size ≤ 16 := by have := (ten_len _ h2).2; simp only at this; omega
  have cC := fun w hw => check_any s k T l n b hT hb w hw
  rw [hc] at cC
  obtain ⟨kk, rfl⟩ : ∃ j : Nat, k = (j : Int) := ⟨k.toNat, by omega⟩
  have hkw : IntKind.u64.wrap (kk : Int) = (kk : Int) := by rw [IntKind.wrap_u64]; omega
  have htw : IntKind.u64.wrap (T.size : Int) = (T.size : Int) := by rw [IntKind.wrap_u64]; omega
  have HK := Lib.hid hk
  have HT := Lib.hid ht
  unfold rcV at cC ⊢
  have hB := (Below.refl W.heap.size W).alloc (Nat.le_refl _) (.cells (rcCs s kk T l n b).toArray 35)
  have hD1 := dk_below hD hB (Nat.le_refl _)
  have hN := Blk.new (cs := rcCs s kk T l n b) W 35 _ rfl
  clear hc h1 h2 hk ht
  go_enter Tryz.func88, Tryz.ntmps88
  go_wp2_with (go_at_call 34; refine (cC _ hD1).mono ?_; rintro e w2 ⟨rfl, hb2⟩; have hN2 := hN.below hb2 hN.lt; obtain ⟨z0, z1, z2, z3, z4, z5⟩ := rc_cells hN2; have hB2 := hB.trans (hb2.mono hB.size); clear hb2)
  refine (put_q none 0 0 [] 1 kk (by have := HK.out; omega) w2 Byt.nil (fun _ => rfl) (by omega) 1 (by decide) (Lib.hid rfl)).mono ?_
  rintro e w3 ⟨v3, rfl, ho3, hb3⟩
  simp only [show 0 + 1 = 1 from rfl] at ho3
  obtain ⟨A3, c3, rfl, hr1, hr2, hr3⟩ := own_form ho3
  have hx3 := Byt.of_own ho3
  have hN3 := hN2.below hb3 hN2.lt
  have hB3 := hB2.trans (hb3.mono hB2.size)
  clear z0 z1 z2 z3 z4 z5 hN2 hB2 hb3 ho3
  obtain ⟨z0, z1, z2, z3, z4, z5⟩ := rc_cells hN3
  have hP3 := Blk.new (cs := [.slice A3 1 c3]) w3 70 _ rfl
  have hN4 := hN3.alloc (.cells #[.slice A3 1 c3] 70)
  have hB4 := hB3.alloc hB3.size (.cells #[.slice A3 1 c3] 70)
  have hlt3 := hN3.lt
  go_wp2_with fail
  refine (put_q A3 1 c3 _ 8 s (by omega) _ ((hx3.alloc (Nat.le_refl _) _).more (by simp)) (fun h => (hr1 h).2) (by omega) 8 (by decide) (Lib.hid rfl)).mono ?_
  rintro e w5 ⟨v5, rfl, ho5, hb5⟩
  simp only [show 1 + 8 = 9 from rfl] at ho5
  obtain ⟨A5, c5, rfl, hq1, hq2, hq3⟩ := own_form ho5
  obtain ⟨hP6, ho6⟩ := acc_store hP3 hb5 ho5
  have ht5 := turn_store (p := w3.heap.size) (v := .slice A5 9 c5) hb5
  have hN6 := ht5.blk hN4 (by omega)
  have hB6 := hB4.trans (ht5.below hB4.size fun k hk => by omega)
  have y0 := (hP3.below hb5 hP3.lt).cell 0
  have yf := (hP3.below hb5 hP3.lt).frozen 0
  simp only [List.getElem?_cons_zero] at y0
  clear z0 z1 z2 z3 z4 z5 hN3 hB3 hN4 hB4 ht5 hb5 ho5
  obtain ⟨z0, z1, z2, z3, z4, z5⟩ := rc_cells hN6
  go_wp2_with fail
  refine (put_q A5 9 c5 _ 1 T.size (by have := HT.out; omega) _ (Byt.of_own ho6) (fun h => (hq1 h).2) (by omega) 1 (by decide) (Lib.hid rfl)).mono ?_
  rintro e w7 ⟨v7, rfl, ho7, hb7⟩
  simp only [show 9 + 1 = 10 from rfl] at ho7
  obtain ⟨A7, c7, rfl, hs1, hs2, hs3⟩ := own_form ho7
  obtain ⟨hP8, ho8⟩ := acc_store hP6 hb7 ho7
  have ht7 := turn_store (p := w3.heap.size) (v := .slice A7 10 c7) hb7
  have hN8 := ht7.blk hN6 (by omega)
  have hB8 := hB6.trans (ht7.below hB6.size fun k hk => by omega)
  have y2 := (hP6.below hb7 hP6.lt).cell 0
  have yf2 := (hP6.below hb7 hP6.lt).frozen 0
  simp only [List.getElem?_cons_zero] at y2
  clear z0 z1 z2 z3 z4 z5 hN6 hB6 ht7 hb7 ho7 y0 yf hP6 ho6
  obtain ⟨z0, z1, z2, z3, z4, z5⟩ := rc_cells hN8
  go_wp2_with (at_builtin; refine Lib.wpList_append_own_string _ rfl _ _ 70 9 rfl (w3.heap.size + 1) 5 i0 Tryz.underlying70 Tryz.underlying9 hi hz0 hz1 hz2 _ _ _ rfl ho8 T rfl (by have := HT.out; unfold maxLen; omega) (by have := HT.out; omega) hP8.lt ?_; intro v9 w9 ho9 hg9 _; obtain ⟨A9, c9, rfl, ht1, ht2, ht3⟩ := own_form ho9; have hb9 := acc_step (Below.refl _ _) hP8.lt ho8 hg9; have hP9 := hP8.below hb9 (Nat.lt_succ_self _); have hN9 := hN8.below hb9 (by omega); have hB9 := hB8.trans (hb9.mono (by omega)); have x0 := hP9.cell 0; have xf := hP9.frozen 0; simp only [List.getElem?_cons_zero] at x0; clear z0 z1 z2 z3 z4 z5 hN8 hB8 hg9 hb9 y2 yf2; obtain ⟨z0, z1, z2, z3, z4, z5⟩ := rc_cells hN9)
  have hI : EncI W W.heap.size w3.heap.size (rcCs s kk T l n b) (([] ++ le 1 kk ++ le 8 s ++ le 1 T.size) ++ T.data.toList) (w9.setCell ⟨w3.heap.size, 0, none⟩ (.slice A9 (10 + T.size) c9)) := by
    refine ⟨⟨A9, _, c9, hP9.set 0 _, ?_⟩, hN9.other _ _ (by simp; omega), ?_⟩
    · rw [setCell_row hP9]
      exact own_setRow (own_cast ho9 (by rw [str_cells]; simp)) (by omega) _
    · rw [setCell_row hP9]
      exact below_row hB9 (by omega) _
  have hF := encFields_any W W.heap.size w3.heap.size s kk T l n b hl hn hb _ (by have := HT.out; simp [le_len, hsz]; omega) (Nat.le_refl _) hlt3 _ hI
  have hE : (((([] ++ le 1 kk ++ le 8 s ++ le 1 T.size) ++ T.data.toList) ++ fldC (kL kk) l) ++ fldC (kN kk) n) ++ fldC (kB kk) b = encC ⟨s, kk, T.data.toList, l, n, b⟩ := by
    unfold encC
    simp [hsz, le]
  rw [hE] at hF
  have hmf : ∀ (fn : Fn) (first cap : Array Value) (w : World), (Instr.makeFunc fn first cap).run Tryz.prog w = .ok (.func fn first cap) w := fun _ _ _ _ => rfl
  clear hI hE
  go_wp2_with fail
  refine hF.mono ?_
  rintro e w11 ⟨rfl, ⟨A, m, c, hP, ho⟩, hN11, hB11⟩
  have x1 := hP.cell 0
  simp only [List.getElem?_cons_zero] at x1
  go_wp2_with fail
  go_ret2
  exact ⟨_, _, rfl, own_mono ho (by omega), hB11⟩

end Go.Proofs.YthjikbhjciphiaaGreatDoor

/-
  Package rec: what bytes are decoded as.
-/
namespace Go.Proofs.YthjikbhjciphiaaGreatDoor
open Go.RowKit
set_option linter.unusedVariables false
set_option linter.unusedSimpArgs false

theorem turn_only {g : Nat} {w w' : World} (h : Only g w w') : Turn (fun k => k = g) w w' := ⟨h.os, h.tape, h.output, h.size, fun k hk hn => h.block k hk (by intro e; cases e; exact hn rfl)⟩

theorem enters_dec : ∀ args w, (callFunc 119 args).run Tryz.prog w = .ok (.enter 119 args) w := enters_of Tryz.func119 (by kernel_rfl) rfl

set_option maxRecDepth 100000 in
set_option maxHeartbeats 1000000 in
theorem decF_any (h : Bool) (p g q i : Nat) (cs : List Value) (l : List UInt8) (e : Int) (W : World) (hp : Blk W p 161 [.pointer (some ⟨g, 0, none⟩)]) (hC : Cur W g l e) (hq : Blk W q 35 cs) (hgp : g < p) (hpq : p < q) (hi : i < cs.length) (hz : cs.set i (.int .u64 0) = cs) :
    Calls Tryz.prog 119 (#[.bool h, .pointer (some ⟨q, i, none⟩)] ++ #[.pointer (some ⟨p, 0, none⟩)]) W fun r W' => r = .returned (.tuple #[]) ∧
      Blk W' p 161 [.pointer (some ⟨g, 0, none⟩)] ∧ Cur W' g (fldS h (l, e)).1 (fldS h (l, e)).2 ∧ Blk W' q 35 (cs.set i (.int .u64 ((fldN h (l, e) : Nat) : Int))) ∧ Turn (fun k => k = g ∨ k = q) W W' := by
  show Calls Tryz.prog 119 #[.bool h, .pointer (some ⟨q, i, none⟩), .pointer (some ⟨p, 0, none⟩)] W _
  have y0 := hp.cell 0
  simp only [List.getElem?_cons_zero] at y0
  cases h
  · go_enter Tryz.func119, Tryz.ntmps119
    go_wp2
    go_end0
    refine ⟨rfl, hp, hC, ?_, Turn.refl _ _⟩
    show Blk W q _ (cs.set i (.int .u64 ((0 : Nat) : Int)))
    rw [show ((0 : Nat) : Int) = 0 from rfl, hz]
    exact hq
  · have hN := number_q g l e 8 8 (by decide) (Lib.hid rfl) W hC
    obtain ⟨x, hx⟩ : ∃ x, fldN true (l, e) = x := ⟨_, rfl⟩
    obtain ⟨s, hs⟩ : ∃ s, fldS true (l, e) = s := ⟨_, rfl⟩
    have hx' : num (tk l e ((8 : Nat) : Int)).1 = x := hx
    have hs1 : (tk l e ((8 : Nat) : Int)).2 = s := hs
    rw [hx', hs1] at hN
    rw [hx, hs]
    have HX := Lib.hid (And.intro hx hs)
    clear hx hs hx' hs1 hz
    obtain ⟨u, hu⟩ : ∃ u, cs[i]? = some u := ⟨_, List.getElem?_eq_getElem hi⟩
    have hfq := fun w (hw : Blk w q 35 cs) => hw.frozen i
    have hcq := fun w (hw : Blk w q 35 cs) => (hw.cell i).trans hu
    go_enter Tryz.func119, Tryz.ntmps119
    go_wp2_with (go_at_call 116; refine hN.mono ?_; rintro r w2 ⟨rfl, hC2, ho2, hz2⟩; have ht2 := turn_only ho2; have hp2 := ht2.blk hp (by omega); have hq2 := ht2.blk hq (by omega); have x0 := hcq _ hq2; have x1 := hfq _ hq2)
    go_end0
    have hr : w2.setCell ⟨q, i, none⟩ (.int .u64 ((x : Nat) : Int)) = w2.setRow q (cs.set i (.int .u64 ((x : Nat) : Int))).toArray := setCell_row hq2 _ _
    refine ⟨rfl, hp2.other _ _ (by simp; omega), hC2.keep fun k hk => heap_setCell_other w2 _ k _ (by simp; omega), hq2.set _ _, (ht2.mono fun k hk => .inl hk).setCell (.inr rfl) _⟩

/-- What is kept while bytes are decoded. -/
def DecI (W : World) (g p q : Nat) (cs : List Value) (s : List UInt8 × Int) (w : World) : Prop :=
  Blk w p 161 [.pointer (some ⟨g, 0, none⟩)] ∧ Cur w g s.1 s.2 ∧ Blk w q 35 cs ∧ Blk w W.heap.size 35 (rcCs 0 0 ⟨#[]⟩ 0 0 0) ∧ Below W.heap.size W w
theorem DecI.step {W w w' : World} {g p q : Nat} {cs cs' : List Value} {s s' : List UInt8 × Int} (h : DecI W g p q cs s w) (hg : W.heap.size < g) (hgp : g < p) (hpq : p < q) (hp : Blk w' p 161 [.pointer (some ⟨g, 0, none⟩)]) (hC : Cur w' g s'.1 s'.2) (hq : Blk w' q 35 cs') (ht : Turn (fun k => k = g ∨ k = q) w w') : DecI W g p q cs' s' w' :=
  ⟨hp, hC, hq, ht.blk h.2.2.2.1 (by omega), h.2.2.2.2.trans (ht.below h.2.2.2.2.size fun k hk => by omega)⟩

set_option maxRecDepth 100000 in
set_option maxHeartbeats 1000000 in
theorem decFields_any (W : World) (g p q : Nat) (n : Nat) (k : Int) (T : ByteArray) (s : List UInt8 × Int) (hg : W.heap.size < g) (hgp : g < p) (hpq : p < q) (w : World) (hI : DecI W g p q (rcCs n k T 0 0 0) s w) :
    Calls Tryz.prog 83 #[.pointer (some ⟨q, 0, none⟩), .func (.func 119) #[] #[.pointer (some ⟨p, 0, none⟩)]] w fun e w' => e = .returned (.tuple #[]) ∧
      DecI W g p q (rcCs n k T (fldN (kL k) s) (fldN (kN k) (fldS (kL k) s)) (fldN (kB k) (fldS (kN k) (fldS (kL k) s)))) (fldS (kB k) (fldS (kN k) (fldS (kL k) s))) w' := by
  refine rfields_any _ _ k q _ (DecI W g p q (rcCs n k T (fldN (kL k) s) 0 0) (fldS (kL k) s)) (DecI W g p q (rcCs n k T (fldN (kL k) s) (fldN (kN k) (fldS (kL k) s)) 0) (fldS (kN k) (fldS (kL k) s))) _ w enters_dec (by rw [hI.2.2.1.cell]; rfl) hI ?_ ?_ ?_
  · intro w hI
    refine (decF_any _ p g q 3 _ s.1 s.2 w hI.1 hI.2.1 hI.2.2.1 hgp hpq (by show 3 < 6; decide) rfl).mono ?_
    rintro e w' ⟨rfl, h1, h2, h3, h4⟩
    exact ⟨rfl, hI.step hg hgp hpq h1 h2 h3 h4⟩
  · intro w hI
    refine (decF_any _ p g q 4 _ _ _ w hI.1 hI.2.1 hI.2.2.1 hgp hpq (by show 4 < 6; decide) rfl).mono ?_
    rintro e w' ⟨rfl, h1, h2, h3, h4⟩
    exact ⟨rfl, hI.step hg hgp hpq h1 h2 h3 h4⟩
  · intro w hI
    refine (decF_any _ p g q 5 _ _ _ w hI.1 hI.2.1 hI.2.2.1 hgp hpq (by show 5 < 6; decide) rfl).mono ?_
    rintro e w' ⟨rfl, h1, h2, h3, h4⟩
    exact ⟨rfl, hI.step hg hgp hpq h1 h2 h3 h4⟩

/-- A record as the value of a result. -/
def rcVr (r : Rc) : Value := .agg r.cells.toArray
/-- The ways out of it. -/
theorem decC_kind (l : List UInt8) (h : (decS0 l).2 = 0) (hk : isK (decK l) = false) : decC l = (zeroR, 5) := by unfold decC; rw [if_pos ⟨h, hk⟩]
theorem decC_rest (l : List UInt8) (h : ¬ ((decS0 l).2 = 0 ∧ isK (decK l) = false)) : decC l = if orE (decE l) (checkC (decR l)) ≠ 0 then (zeroR, orE (decE l) (checkC (decR l))) else (decR l, 0) := by
  unfold decC orE
  rw [if_neg h]
  by_cases h1 : decE l ≠ 0
  · rw [if_pos h1, if_pos h1, if_pos h1]
  · rw [if_neg h1, if_neg h1]

theorem number8 (g : Nat) (s : List UInt8 × Int) (W : World) (hC : Cur W g s.1 s.2) :
    Calls Tryz.prog 116 #[.pointer (some ⟨g, 0, none⟩), .int .i64 8] W fun r W' => r = .returned (.int .u64 ((rdN s 8 : Nat) : Int)) ∧ Cur W' g (rdS s 8).1 (rdS s 8).2 ∧ Only g W W' ∧ W'.heap.size = W.heap.size :=
  number_q g s.1 s.2 8 8 (by decide) (Lib.hid rfl) W hC
theorem number1 (g : Nat) (s : List UInt8 × Int) (W : World) (hC : Cur W g s.1 s.2) :
    Calls Tryz.prog 116 #[.pointer (some ⟨g, 0, none⟩), .int .i64 1] W fun r W' => r = .returned (.int .u64 ((rdN s 1 : Nat) : Int)) ∧ Cur W' g (rdS s 1).1 (rdS s 1).2 ∧ Only g W W' ∧ W'.heap.size = W.heap.size :=
  number_q g s.1 s.2 1 1 (by decide) (Lib.hid rfl) W hC
theorem text16 (g : Nat) (s : List UInt8 × Int) (W : World) (hC : Cur W g s.1 s.2) :
    Calls Tryz.prog 118 #[.pointer (some ⟨g, 0, none⟩), .int .i64 1, .int .i64 16] W fun r W' => r = .returned (.string ⟨(txT s).toArray⟩) ∧ Cur W' g (txS s).1 (txS s).2 ∧ Only g W W' ∧ W'.heap.size = W.heap.size :=
  text_q g s.1 s.2 1 16 (by decide) 1 (by decide) (Lib.hid rfl) W hC
theorem rd_lt1 (s : List UInt8 × Int) : rdN s 1 < 256 := by
  have h := num_lt (tk s.1 s.2 ((1 : Nat) : Int)).1
  have h1 := tk_len s.1 s.2 ((1 : Nat) : Int)
  rw [Int.toNat_natCast] at h1
  exact Nat.lt_of_lt_of_le h (Nat.le_trans (Nat.pow_le_pow_right (by decide) h1) (by decide))

theorem fldN_lt (h : Bool) (s : List UInt8 × Int) : fldN h s < 18446744073709551616 := by
  cases h
  · show (0 : Nat) < _
    decide
  · have h := num_lt (tk s.1 s.2 ((8 : Nat) : Int)).1
    have h1 := tk_len s.1 s.2 ((8 : Nat) : Int)
    rw [Int.toNat_natCast] at h1
    exact Nat.lt_of_lt_of_le h (Nat.le_trans (Nat.pow_le_pow_right (by decide) h1) (by decide))
theorem txT_len (s : List UInt8 × Int) : (txT s).length ≤ 16 := by
  unfold txT tx
  simp only
  split
  · simp
  · split
    · simp
    · rename_i h
      have h1 := tk_len (tk s.1 s.2 ((1 : Nat) : Int)).2.1 (tk s.1 s.2 ((1 : Nat) : Int)).2.2 ((num (tk s.1 s.2 ((1 : Nat) : Int)).1 : Nat) : Int)
      rw [Int.toNat_natCast] at h1
      omega
theorem DecI.store {W w : World} {g p q : Nat} {cs : List Value} {s : List UInt8 × Int} (h : DecI W g p q cs s w) (hg : W.heap.size < g) (hgp : g < p) (hpq : p < q) (i : Nat) (v : Value) : DecI W g p q (cs.set i v) s (w.setCell ⟨q, i, none⟩ v) :=
  h.step hg hgp hpq (h.1.other _ _ (by simp; omega)) (h.2.1.keep fun k hk => heap_setCell_other w _ k _ (by simp; omega)) (h.2.2.1.set _ _) ((Turn.refl _ _).setCell (S := fun k => k = g ∨ k = q) (p := ⟨q, i, none⟩) (.inr rfl) _)

/-- Bytes that are read on. -/
structure Rest (l : List UInt8) (kn : Nat) (s0 : List UInt8 × Int) (s1 s2 s5 : List UInt8 × Int) (x0 x3 x4 x5 : Nat) (T : ByteArray) : Prop where
  e1 : rdS s0 8 = s1
  v1 : rdN s0 8 = x0
  e2 : txS s1 = s2
  v2 : (⟨(txT s1).toArray⟩ : ByteArray) = T
  e5 : fldS (kB kn) (fldS (kN kn) (fldS (kL kn) s2)) = s5
  v3 : fldN (kL kn) s2 = x3
  v4 : fldN (kN kn) (fldS (kL kn) s2) = x4
  v5 : fldN (kB kn) (fldS (kN kn) (fldS (kL kn) s2)) = x5
  got : decR l = ⟨x0, kn, T.data.toList, x3, x4, x5⟩
  err : decE l = doneE s5.1 s5.2
  size : T.size ≤ 16
  small : x5 < 18446744073709551616
theorem rest_of (l : List UInt8) (kn : Nat) (s0 : List UInt8 × Int) (h0 : decS0 l = s0) (hk : decK l = (kn : Int)) : ∃ s1 s2 s5 x0 x3 x4 x5 T, Rest l kn s0 s1 s2 s5 x0 x3 x4 x5 T := by
  refine ⟨_, _, _, _, _, _, _, _, ⟨rfl, rfl, rfl, rfl, rfl, rfl, rfl, rfl, ?_, ?_, ?_, ?_⟩⟩
  · unfold decR decS4 decS3 decS2 decS1
    rw [h0, hk]
  · unfold decE decS5 decS4 decS3 decS2 decS1
    rw [h0, hk]
  · exact txT_len _
  · exact fldN_lt _ _

set_option maxRecDepth 100000 in
set_option maxHeartbeats 2000000 in
theorem decode_any (A : Option Addr) (n c : Nat) (l : List UInt8) (W : World) (hl : Byt W W.heap.size A n l) (hnil : A = none → c = 0) (hn : n ≤ 140737488355328) (hD : DK W) :
    Calls Tryz.prog 74 #[.slice A n c] W fun e W' => e = .returned (.tuple #[rcVr (decC l).1, .int .i64 (decC l).2]) ∧ Below W.heap.size W W' := by
  have hR0 := Blk.new (cs := rcCs 0 0 ⟨#[]⟩ 0 0 0) W 35 _ rfl
  have hB0 := (Below.refl W.heap.size W).alloc (Nat.le_refl _) (.cells (rcCs 0 0 ⟨#[]⟩ 0 0 0).toArray 35)
  have hl0 := hl.alloc (Nat.le_refl _) (.cells (rcCs 0 0 ⟨#[]⟩ 0 0 0).toArray 35)
  go_enter Tryz.func74, Tryz.ntmps74
  go_wp2_with fail
  refine (newCursor_any _ A n c l _ hl0 (by simp) hnil hn).mono ?_
  rintro r w1 ⟨g, rfl, hg, hC1, hb1⟩
  have hR1 := hR0.below hb1 hR0.lt
  have hB1 := hB0.trans (hb1.mono (by simp))
  have hgR : W.heap.size < g := by simp at hg; omega
  clear hg hb1 hR0 hB0 hl0
  have hP2 := Blk.new (cs := [.pointer (some ⟨g, 0, none⟩)]) w1 161 _ rfl
  have hC2 := hC1.below ((Below.refl w1.heap.size w1).alloc (Nat.le_refl _) (.cells #[.pointer (some ⟨g, 0, none⟩)] 161))
  have hR2 := hR1.alloc (.cells #[.pointer (some ⟨g, 0, none⟩)] 161)
  have hB2 := hB1.alloc hB1.size (.cells #[.pointer (some ⟨g, 0, none⟩)] 161)
  have hgp := hC1.lt
  obtain ⟨p, hp⟩ : ∃ p, w1.heap.size = p := ⟨_, rfl⟩
  rw [hp] at hP2 hgp
  have hlt0 := rd_lt1 (l, 0)
  have hn1 := fun W hC => number1 g (l, 0) W hC
  have hA := decC_kind l
  have hB := decC_rest l
  obtain ⟨kn, hkn⟩ : ∃ kn, rdN (l, 0) 1 = kn := ⟨_, rfl⟩
  have hdk : decK l = (kn : Int) := by unfold decK; rw [hkn]
  obtain ⟨s0, hs0⟩ : ∃ s, rdS (l, 0) 1 = s := ⟨_, rfl⟩
  rw [hkn] at hlt0
  rw [show decS0 l = s0 from hs0, hdk] at hA hB
  have hkw : IntKind.i64.wrap (kn : Int) = (kn : Int) := by rw [IntKind.wrap_i64]; omega
  have HP := Lib.hid hp
  go_wp2_with fail
  refine (hn1 _ hC2).mono ?_
  rintro r w3 ⟨rfl, hC3, ho3, hz3⟩
  rw [hkn]
  rw [hs0] at hC3
  have ht3 := turn_only ho3
  have hP3 := ht3.blk hP2 (by omega)
  have hR3 := ht3.blk hR2 (by omega)
  have hB3 := hB2.trans (ht3.below hB2.size fun k hk => by omega)
  have hs3 : w3.heap.size = p + 1 := by rw [hz3]; simp; exact HP.out
  clear hn1 ho3 hz3 ht3 hP2 hR2 hB2 hC2 hC1 hR1 hB1 hp hkn
  obtain ⟨s1, s2, s5, x0, x3, x4, x5, T, HR⟩ := rest_of l kn s0 hs0 hdk
  have hI : DecI W g p w3.heap.size (rcCs 0 kn ⟨#[]⟩ 0 0 0) s0 (w3.alloc (.cells (rcCs 0 kn ⟨#[]⟩ 0 0 0).toArray 35)) :=
    ⟨hP3.alloc _, hC3.below ((Below.refl w3.heap.size w3).alloc (Nat.le_refl _) _), Blk.new w3 _ _ rfl, hR3.alloc _, hB3.alloc hB3.size _⟩
  rw [hs3] at hI
  have hpq : p < p + 1 := by omega
  have y0 := hP3.cell 0
  simp only [List.getElem?_cons_zero] at y0
  have hE := err_any g s0.1 s0.2 _ hI.2.1
  have hN8 := fun w h => number8 g s0 w h
  rw [HR.e1, HR.v1] at hN8
  have hT16 := fun w h => text16 g s1 w h
  rw [HR.e2, HR.v2] at hT16
  have hF := fun w h => decFields_any W g p (p + 1) x0 kn T s2 hgR hgp hpq w h
  rw [HR.v3, HR.v4, HR.v5, HR.e5] at hF
  rw [HR.err, HR.got] at hB
  obtain ⟨e0, he0⟩ : ∃ e, s0.2 = e := ⟨_, rfl⟩
  rw [he0] at hE hA hB
  have HR := Lib.hid HR
  clear he0 hdk hs0 hC3
  go_wp2_with fail
  refine hE.mono ?_
  rintro r w4 ⟨rfl, rfl⟩
  have hcase : (e0 = 0 ∧ isK (kn : Int) = false) ∨ (e0 = 0 ∧ isK (kn : Int) = true ∧ Hid (¬ (e0 = 0 ∧ isK (kn : Int) = false))) ∨ ((e0 == 0) = false ∧ isK (kn : Int) = isK (kn : Int) ∧ Hid (¬ (e0 = 0 ∧ isK (kn : Int) = false))) := by
    by_cases h : e0 = 0
    · cases hk : isK (kn : Int)
      · exact .inl ⟨h, rfl⟩
      · exact .inr (.inl ⟨h, rfl, Lib.hid (by simp)⟩)
    · exact .inr (.inr ⟨by simpa using h, rfl, Lib.hid (by simp [h])⟩)
  have hmf : ∀ (fn : Fn) (first cap : Array Value) (w : World), (Instr.makeFunc fn first cap).run Tryz.prog w = .ok (.func fn first cap) w := fun _ _ _ _ => rfl
  have k1 : (w3.alloc (.cells (rcCs 0 kn ⟨#[]⟩ 0 0 0).toArray 35)).cell? ⟨p + 1, 1, none⟩ = some (.int .i64 kn) := hI.2.2.1.cell 1
  rcases hcase with ⟨h0, hk⟩ | hrest
  · have hA' := Lib.hid (hA h0 hk)
    subst h0
    clear hA hB
    go_wp2_with (first
      | (go_at_call 50; refine (isKind_any _ _).mono ?_; rintro e w ⟨rfl, rfl⟩; rw [hk])
      | (refine st_blk rfl 35 _ _ rfl W.heap.size [.int .u64 0, .int .i64 0, .string ⟨#[]⟩, .int .u64 0, .int .u64 0, .int .u64 0] rfl rfl 35 (rcCs 0 0 ⟨#[]⟩ 0 0 0) hI.2.2.2.1 (by kernel_rfl) rfl (by simp [Value.oneCell']) ?_))
    exact ret_cell_tmp rfl W.heap.size 35 [.int .u64 0, .int .i64 0, .string ⟨#[]⟩, .int .u64 0, .int .u64 0, .int .u64 0] rfl (hI.2.2.2.1.row _) _ Tryz.underlying35 (by kernel_rfl) _ rfl rfl ⟨by rw [hA'.out]; rfl, below_row hI.2.2.2.2 (Nat.le_refl _) _⟩
  rcases hrest with ⟨h0, hk, hne⟩ | ⟨h0, hk, hne⟩
  all_goals
    have hB' := Lib.hid (hB hne.out)
    try subst h0
    clear hB hA hE hne
    go_wp2_with (first
      | (go_at_call 50; refine (isKind_any _ _).mono ?_; rintro e w ⟨rfl, rfl⟩; rw [hk])
      | (go_at_call 116; refine (hN8 _ hI.2.1).mono ?_; rintro r w5 ⟨rfl, hC5, ho5, hz5⟩; have ht5 := turn_only ho5; have hI5 := hI.step hgR hgp hpq (ht5.blk hI.1 (by omega)) hC5 (ht5.blk hI.2.2.1 (by omega)) (ht5.mono fun k hk => .inl hk); have u0 := hI5.1.cell 0; have uf := hI5.2.2.1.frozen 0; have uc := hI5.2.2.1.cell 0; have hI6 := hI5.store hgR hgp hpq 0 (.int .u64 ((x0 : Nat) : Int)); simp only [List.getElem?_cons_zero] at u0; clear ho5 hz5 ht5 hC5)
      | (go_at_call 118; refine (hT16 _ hI6.2.1).mono ?_; rintro r w7 ⟨rfl, hC7, ho7, hz7⟩; have ht7 := turn_only ho7; have hI7 := hI6.step hgR hgp hpq (ht7.blk hI6.1 (by omega)) hC7 (ht7.blk hI6.2.2.1 (by omega)) (ht7.mono fun k hk => .inl hk); have v0 := hI7.1.cell 0; have vf := hI7.2.2.1.frozen 2; have vc := hI7.2.2.1.cell 2; have hI8 := hI7.store hgR hgp hpq 2 (.string T); simp only [List.getElem?_cons_zero] at v0; clear ho7 hz7 ht7 hC7)
      | (go_at_call 83; refine (hF _ hI8).mono ?_; rintro r w9 ⟨rfl, hI9⟩; have t0 := hI9.1.cell 0; simp only [List.getElem?_cons_zero] at t0))
    obtain ⟨d0, d1, d2, d3, d4, d5⟩ := rc_cells hI9.2.2.1
    have hlt9 : p < w9.heap.size ∧ p + 1 < w9.heap.size := ⟨hI9.1.lt, hI9.2.2.1.lt⟩
    have HC : Hid (∀ w, Below w9.heap.size w9 w → w.cell? ⟨p, 0, none⟩ = some (.pointer (some ⟨g, 0, none⟩)) ∧ w.cell? ⟨p + 1, 0, none⟩ = some (.int .u64 ((x0 : Nat) : Int)) ∧ w.cell? ⟨p + 1, 1, none⟩ = some (.int .i64 kn) ∧ w.cell? ⟨p + 1, 2, none⟩ = some (.string T) ∧ w.cell? ⟨p + 1, 3, none⟩ = some (.int .u64 ((x3 : Nat) : Int)) ∧ w.cell? ⟨p + 1, 4, none⟩ = some (.int .u64 ((x4 : Nat) : Int)) ∧ w.cell? ⟨p + 1, 5, none⟩ = some (.int .u64 ((x5 : Nat) : Int))) :=
      Lib.hid (fun w hb => by
        obtain ⟨d0, d1, d2, d3, d4, d5⟩ := rc_cells (hI9.2.2.1.below hb hlt9.2)
        exact ⟨(hI9.1.below hb hlt9.1).cell 0, d0, d1, d2, d3, d4, d5⟩)
    have hDn : ∀ w, Below w9.heap.size w9 w → Calls Tryz.prog 121 #[.pointer (some ⟨g, 0, none⟩)] w fun r W' => r = .returned (.int .i64 (doneE s5.1 s5.2)) ∧ w = W' := fun w hb => done_any g s5.1 s5.2 w (hI9.2.1.below hb)
    have hCk : ∀ w, Below w9.heap.size w9 w → Calls Tryz.prog 34 #[rcV x0 kn T x3 x4 x5] w fun e W' => e = .returned (.int .i64 (checkC ⟨x0, kn, T.data.toList, x3, x4, x5⟩)) ∧ Below w.heap.size w W' := fun w hb => check_any x0 kn T x3 x4 x5 (Nat.le_trans HR.out.size (by unfold maxLen; decide)) HR.out.small w (dk_below hD (hI9.2.2.2.2.trans (hb.mono hI9.2.2.2.2.size)) (Nat.le_refl _))
    unfold rcV at hCk
    obtain ⟨dn, hdn⟩ : ∃ z, doneE s5.1 s5.2 = z := ⟨_, rfl⟩
    obtain ⟨ck, hck⟩ : ∃ z, checkC ⟨x0, kn, T.data.toList, x3, x4, x5⟩ = z := ⟨_, rfl⟩
    rw [hdn] at hDn hB'
    rw [hck] at hCk hB'
    have HI := Lib.hid (And.intro hI9.2.2.2.1 hI9.2.2.2.2)
    clear hdn hck hI hI5 hI6 hI7 hI8 hI9 u0 uf uc v0 vf vc hN8 hT16 hF k1 y0 hP3 hR3 hB3
    go_region_held3 (fun w' => w'.cell? ⟨p, 0, none⟩ = some (.pointer (some ⟨g, 0, none⟩)) ∧ w'.cell? ⟨p + 1, 0, none⟩ = some (.int .u64 ((x0 : Nat) : Int)) ∧ w'.cell? ⟨p + 1, 1, none⟩ = some (.int .i64 kn) ∧ w'.cell? ⟨p + 1, 2, none⟩ = some (.string T) ∧ w'.cell? ⟨p + 1, 3, none⟩ = some (.int .u64 ((x3 : Nat) : Int)) ∧ w'.cell? ⟨p + 1, 4, none⟩ = some (.int .u64 ((x4 : Nat) : Int)) ∧ w'.cell? ⟨p + 1, 5, none⟩ = some (.int .u64 ((x5 : Nat) : Int)))
      (first | exact ⟨f0, f1, f2, f3, f4, f5, f6⟩ | exact ⟨t0, d0, d1, d2, d3, d4, d5⟩ | go_keep)
      ((first
        | (go_at_call 121; refine (hDn _ (below_drewN (Below.refl _ w9) 1)).mono ?_; rintro r w10 ⟨rfl, rfl⟩)
        | (go_at_call 34; refine (hCk _ (below_drewN (Below.refl _ w9) 1)).mono ?_; rintro r w11 ⟨rfl, hb11⟩; have hB11 := bthen (below_drewN (Below.refl _ w9) 1) hb11; obtain ⟨f0, f1, f2, f3, f4, f5, f6⟩ := HC.out w11 hB11; clear hb11)
        | (go_at_call 120; refine (or_any dn ck _ _ _ (by simp [go_sem]) (by simp [go_sem])).mono ?_; rintro r w12 ⟨rfl, rfl⟩)))
    all_goals
      obtain ⟨hR9, hB9⟩ := HI.out
      have hB10 := hB9.trans (hB11.mono hB9.size)
      have hR12 := (hR9.below hB11 hR9.lt).alloc (.cells #[.int .i64 dn, .int .i64 ck] 30)
      have hB12 := hB10.alloc hB10.size (.cells #[.int .i64 dn, .int .i64 ck] 30)
      have hlt11 := hB11.size
      have hV := hB'.out
      clear hR9 hB9 hB10 hDn hCk t0 d0 d1 d2 d3 d4 d5
      by_cases ho : orE dn ck = 0
      · rw [if_neg (by simp [ho])] at hV
        have HV := Lib.hid hV
        rw [ho]
        clear ho hV hB'
        go_wp2_with (refine st_blk rfl 35 _ _ rfl W.heap.size [.int .u64 ((x0 : Nat) : Int), .int .i64 kn, .string T, .int .u64 ((x3 : Nat) : Int), .int .u64 ((x4 : Nat) : Int), .int .u64 ((x5 : Nat) : Int)] rfl rfl 35 (rcCs 0 0 ⟨#[]⟩ 0 0 0) hR12 (by kernel_rfl) rfl (by simp [Value.oneCell']) ?_)
        exact ret_cell_tmp rfl W.heap.size 35 [.int .u64 ((x0 : Nat) : Int), .int .i64 kn, .string T, .int .u64 ((x3 : Nat) : Int), .int .u64 ((x4 : Nat) : Int), .int .u64 ((x5 : Nat) : Int)] rfl (hR12.row _) _ Tryz.underlying35 (by kernel_rfl) _ rfl rfl ⟨by rw [HV.out]; rfl, below_row hB12 (Nat.le_refl _) _⟩
      · rw [if_pos ho] at hV
        have HV := Lib.hid hV
        obtain ⟨z, hz⟩ : ∃ z, orE dn ck = z := ⟨_, rfl⟩
        rw [hz] at HV ho ⊢
        have hq : (z != 0) = true := by simpa using ho
        clear ho hV hB' hz
        go_wp2_with (refine st_blk rfl 35 _ _ rfl W.heap.size [.int .u64 0, .int .i64 0, .string ⟨#[]⟩, .int .u64 0, .int .u64 0, .int .u64 0] rfl rfl 35 (rcCs 0 0 ⟨#[]⟩ 0 0 0) hR12 (by kernel_rfl) rfl (by simp [Value.oneCell']) ?_)
        exact ret_cell_tmp rfl W.heap.size 35 [.int .u64 0, .int .i64 0, .string ⟨#[]⟩, .int .u64 0, .int .u64 0, .int .u64 0] rfl (hR12.row _) _ Tryz.underlying35 (by kernel_rfl) _ rfl rfl ⟨by rw [HV.out]; rfl, below_row hB12 (Nat.le_refl _) _⟩

end Go.Proofs.YthjikbhjciphiaaGreatDoor

/-
  The reference's records of segments.
-/
namespace Go.Proofs.YthjikbhjciphiaaGreatDoor
open Go.RowKit
set_option linter.unusedVariables false
set_option linter.unusedSimpArgs false

/-- What Record tells. -/
def RecQ (W : World) (r : Rc × Bool) (e : Ending) (W' : World) : Prop := e = .returned (.tuple #[.agg r.1.cells.toArray, .bool r.2]) ∧ Below W.heap.size W W'
def recR (b : List UInt8) : Rc × Bool := if recOk b then (recP b, true) else (zeroR, false)

/-- What stands while a record's fields are read. -/
def FldI (W : World) (B : Nat) (A : Option Addr) (m c : Nat) (rs : List UInt8) (A0 : Option Addr) (n : Nat) (l : List UInt8) (cs : List Value) (wx : World) : Prop :=
  Blk wx (W.heap.size + 1) 35 cs ∧ Blk wx W.heap.size 35 zeroR.cells ∧ Below W.heap.size W wx ∧ Byt wx B A m rs ∧ (A = none → c = 0) ∧ m ≤ c ∧ c ≤ maxLen ∧ Byt wx B A0 n l
theorem FldI.below {W w w' : World} {B : Nat} {A A0 : Option Addr} {m c n : Nat} {rs l : List UInt8} {cs : List Value} (h : FldI W B A m c rs A0 n l cs w) (hB : B ≤ W.heap.size) (hb : Below w.heap.size w w') : FldI W B A m c rs A0 n l cs w' := by
  obtain ⟨h1, h2, h3, h4, h5, h6, h7, h8⟩ := h
  exact ⟨h1.below hb h1.lt, h2.below hb h2.lt, h3.trans (hb.mono h3.size), h4.below (hb.mono (Nat.le_trans hB h3.size)), h5, h6, h7, h8.below (hb.mono (Nat.le_trans hB h3.size))⟩
theorem FldI.set {W w : World} {B : Nat} {A A0 : Option Addr} {m c n : Nat} {rs l : List UInt8} {cs : List Value} (h : FldI W B A m c rs A0 n l cs w) (hB : B ≤ W.heap.size) (i : Nat) (v : Value) : FldI W B A m c rs A0 n l (cs.set i v) (w.setCell ⟨W.heap.size + 1, i, none⟩ v) := by
  obtain ⟨h1, h2, h3, h4, h5, h6, h7, h8⟩ := h
  have hk : ∀ p : Addr, p.block < B → (w.setCell ⟨W.heap.size + 1, i, none⟩ v).cell? p = w.cell? p := fun p hp => World.cell?_of_block (w := w) (Below.heap_setCell _ _ _ _ (by simp; omega))
  exact ⟨h1.set i v, h2.other ⟨W.heap.size + 1, i, none⟩ v (by simp), h3.setCell (p := ⟨W.heap.size + 1, i, none⟩) (by simp) v, h4.keep hk, h5, h6, h7, h8.keep hk⟩
theorem FldI.step {W w : World} {B : Nat} {A A0 : Option Addr} {m c n : Nat} {rs l : List UInt8} {cs : List Value} (h : FldI W B A m c rs A0 n l cs w) (k : Nat) (hk : k ≤ m) : FldI W B (if c = k then A else A.map (·.add k)) (m - k) (c - k) (rs.drop k) A0 n l cs w := by
  obtain ⟨h1, h2, h3, h4, h5, h6, h7, h8⟩ := h
  refine ⟨h1, h2, h3, h4.cut hk h6, fun e => ?_, by omega, by omega, h8⟩
  split at e
  · have := h5 e; omega
  · cases A with
    | none => have := h5 rfl; omega
    | some q => cases e

end Go.Proofs.YthjikbhjciphiaaGreatDoor
