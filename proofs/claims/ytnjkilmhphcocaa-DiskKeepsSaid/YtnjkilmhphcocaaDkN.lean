/-
  The reference's disk: Rename. Made by wip/tools/mkn.py.
-/
import Derived.Test.YtnjkilmhphcocaaDkL
namespace Go.Proofs.Ytnjkilmhphcocaa
open Go.RowKit
set_option linter.unusedVariables false
set_option linter.unusedSimpArgs false

theorem RD.less {w : World} {S S' : Nat → Prop} {p : Nat} {m : Dk} (h : RD w S' p m) (hs : ∀ k, S k → S' k) (hp : S p) : RD w S p m := by
  obtain ⟨A, n, c, h1, h2, h3, h4⟩ := h
  exact ⟨A, n, c, h1, h2.less hs, hp, fun k hk => h4 k (hs k hk)⟩
theorem RD.more {w w' : World} {S S2 : Nat → Prop} {p : Nat} {m : Dk} (h : RD w S p m) (hb : Below w.heap.size w w') (hs2 : ∀ k, S2 k → k < w.heap.size → S k) (hs : ∀ k, S k → S2 k) (hlt : ∀ k, S2 k → k < w'.heap.size) : RD w' S2 p m := by
  obtain ⟨A, n, c, h1, h2, h3, h4⟩ := h
  exact ⟨A, n, c, h1.below hb h1.lt, (h2.more hs2).turn (Turn.of_below hb), hs _ h3, hlt⟩
theorem Turn.fewer {S S' : Nat → Prop} {w w' : World} (h : Turn S' w w') (hs : ∀ k, S' k → k < w.heap.size → S k) : Turn S w w' := ⟨h.os, h.tape, h.output, h.size, fun k hk hn => h.block k hk fun e => hn (hs k e hk)⟩

set_option maxRecDepth 100000 in
set_option maxHeartbeats 2000000 in
/-- The new name is none. -/
theorem rdo_to (S : Nat → Prop) (p : Nat) (m : Dk) (s : Sp) (A : Option Addr) (n c : Nat) (W : World) (h : RD W S p m) (hG : GoodD m) (hcl : m.calls ≤ 1000000) (hlf : m.left < 18446744073709551616) (hb : (beginD m).1 = true)
    (hl : s.name.length ≤ 10000) (hn : targetB s.name = true) (hl2 : s.to.length ≤ 10000) (htt : targetB s.to = false) (hK : s.kind = 3) :
    Calls Try.prog 10 #[.pointer (some ⟨p, 0, none⟩), spV s A n c] W (DoPost S p (doD m s) W) := by
  have HE := Lib.hid ((do_call m s (by unfold isCall; rw [hK]; rfl) hb).trans (call_to _ s hK htt))
  have HB := begun_any S p m s.kind s A n c W h hG hcl hlf
  rw [hb] at HB
  unfold spV
  rw [hK] at HB ⊢
  clear hb h
  go_enter Try.func10, Try.ntmps10
  go_wp2_with fail
  refine HB.mono ?_
  rintro e W1 ⟨rfl, hr⟩
  have b0 : W1.cell? ⟨W.heap.size, 0, none⟩ = some (.int .i64 3) := hr.box.cell 0
  have b1 : W1.cell? ⟨W.heap.size, 1, none⟩ = some (.string ⟨s.name.toArray⟩) := hr.box.cell 1
  have b2 : W1.cell? ⟨W.heap.size, 2, none⟩ = some (.string ⟨s.to.toArray⟩) := hr.box.cell 2
  have hT := refTarget_any ⟨s.name.toArray⟩ (by simpa [ByteArray.size] using hl) W1
  simp only [List.toList_toArray] at hT
  rw [hn] at hT
  have hT2 := refTarget_any ⟨s.to.toArray⟩ (by simpa [ByteArray.size] using hl2) W1
  simp only [List.toList_toArray] at hT2
  rw [htt] at hT2
  have HX := Lib.hid hr
  clear HB hr
  go_wp2_with fail
  refine hT.mono ?_
  rintro e W2 ⟨rfl, rfl⟩
  clear hT
  go_wp2_with fail
  refine hT2.mono ?_
  rintro e W2 ⟨rfl, rfl⟩
  clear hT2
  go_wp2_with fail
  go_ret
  rw [HE.out]
  exact ⟨rfl, HX.out.rd, HX.out.turn⟩

set_option maxRecDepth 100000 in
set_option maxHeartbeats 4000000 in
theorem rdo_ren (S : Nat → Prop) (p : Nat) (m : Dk) (s : Sp) (A : Option Addr) (n c : Nat) (W : World) (h : RD W S p m) (hG : GoodD m) (hcl : m.calls ≤ 1000000) (hlf : m.left < 18446744073709551616) (hb : (beginD m).1 = true)
    (hl : s.name.length ≤ 10000) (hn : targetB s.name = true) (hl2 : s.to.length ≤ 10000) (htt : targetB s.to = true) (hK : s.kind = 3) (f0 : Fl) (hlo0 : lookF s.name m.files = some f0) :
    Calls Try.prog 10 #[.pointer (some ⟨p, 0, none⟩), spV s A n c] W (DoPost S p (doD m s) W) := by
  have hlo : (lookF s.name m.files).isSome = true := by rw [hlo0]; rfl
  have HE := Lib.hid ((do_call m s (by unfold isCall; rw [hK]; rfl) hb).trans (call_ren _ s f0 hn htt hK (by rw [(begin_same m hb).1]; exact hlo0)))
  have HB := begun_any S p m s.kind s A n c W h hG hcl hlf
  rw [hb] at HB
  have hmf := (begin_same m hb).1
  have hmc := (begin_same m hb).2
  obtain ⟨m1, hm1⟩ : ∃ m1, (beginD m).2 = m1 := ⟨_, rfl⟩
  rw [hm1] at HB hmf hmc HE
  rw [← hmf] at hlo
  have hfl1 : m1.files.length ≤ 2000 := by rw [hmf]; exact hG.1
  have hsz1 : sizeF m1.files ≤ 100000 := by rw [hmf]; exact hG.2.1
  unfold spV
  rw [hK] at HB ⊢
  have hltp : p < W.heap.size := by
    obtain ⟨A1, n1, c1, hB, _⟩ := h
    exact hB.lt
  have hSW : ∀ k, S k → k < W.heap.size := by
    obtain ⟨A1, n1, c1, _, _, _, h4⟩ := h
    exact h4
  have HSW := Lib.hid hSW
  have hmf3 := hmf
  clear hSW hb h hmf hm1 hmc
  go_enter Try.func10, Try.ntmps10
  go_wp2_with fail
  refine HB.mono ?_
  rintro e W1 ⟨rfl, hr⟩
  have b0 : W1.cell? ⟨W.heap.size, 0, none⟩ = some (.int .i64 3) := hr.box.cell 0
  have b1 : W1.cell? ⟨W.heap.size, 1, none⟩ = some (.string ⟨s.name.toArray⟩) := hr.box.cell 1
  have b2 : W1.cell? ⟨W.heap.size, 2, none⟩ = some (.string ⟨s.to.toArray⟩) := hr.box.cell 2
  have hT := refTarget_any ⟨s.name.toArray⟩ (by simpa [ByteArray.size] using hl) W1
  simp only [List.toList_toArray] at hT
  rw [hn] at hT
  have hT2 := refTarget_any ⟨s.to.toArray⟩ (by simpa [ByteArray.size] using hl2) W1
  simp only [List.toList_toArray] at hT2
  rw [htt] at hT2
  obtain ⟨A1, n1, c1, hB1, hF1, hSp, hSo⟩ := hr.rd
  have hfz := hB1.frozen
  have e0 : W1.cell? ⟨p, 0, none⟩ = some (.slice A1 n1 c1) := hB1.cell 0
  have hn1 : n1 ≤ 2000 := by have := hF1.1; omega
  have hFi := fun q => find_any A1 n1 c1 m1.files ⟨s.name.toArray⟩ S (W1.drewN q) (hF1.turn ((Turn.refl S W1).drewN q)) (by omega)
  simp only [List.toList_toArray] at hFi
  have HF1 := Lib.hid hF1
  have HB1 := Lib.hid hB1
  have HX := Lib.hid hr
  obtain ⟨j, f, hfj, hgj, hfl⟩ : ∃ (j : Nat) (f : Fl), findN s.name m1.files 0 = (j : Int) ∧ m1.files[j]? = some f ∧ lookF s.name m1.files = some f := by
    rcases findN_spec s.name m1.files 0 with ⟨_, h2⟩ | ⟨j, f, h1, h2, h3⟩
    · rw [h2] at hlo; cases hlo
    · exact ⟨j, f, by rw [h1]; simp, h2, h3⟩
  rw [hfj] at hFi
  clear HB hr hB1 hF1 hSp hSo
  go_wp2_with fail
  refine hT.mono ?_
  rintro e W2 ⟨rfl, rfl⟩
  clear hT
  go_wp2_with fail
  refine hT2.mono ?_
  rintro e W2 ⟨rfl, rfl⟩
  clear hT2
  go_wp2_with fail
  go_quiet ((go_at_call 12; exact Calls.quiet_of_same (hFi _)))
  have HX2 : Hid (Begun W (W2.drewN nq) S p m1 3 s A n c ∧ Blk (W2.drewN nq) p 31 (dkL m1 A1 n1 c1) ∧ Fls (W2.drewN nq) S A1 n1 m1.files) := Lib.hid ⟨HX.out.drewN nq, HB1.out.drewN nq, HF1.out.turn ((Turn.refl S W2).drewN nq)⟩
  have hTw : Turn (fun _ => False) W2 (W2.drewN nq) := (Turn.refl _ _).drewN nq
  revert HX2 hTw
  generalize W2.drewN nq = w3
  intro HX2 hTw
  clear b0 b1 b2 e0 hfz HX hFi HF1 HB1
  have b0 : w3.cell? ⟨W.heap.size, 0, none⟩ = some (.int .i64 3) := HX2.out.1.box.cell 0
  have b1 : w3.cell? ⟨W.heap.size, 1, none⟩ = some (.string ⟨s.name.toArray⟩) := HX2.out.1.box.cell 1
  have b2 : w3.cell? ⟨W.heap.size, 2, none⟩ = some (.string ⟨s.to.toArray⟩) := HX2.out.1.box.cell 2
  have b3 : w3.cell? ⟨W.heap.size, 3, none⟩ = some (.slice A n c) := HX2.out.1.box.cell 3
  have e0 : w3.cell? ⟨p, 0, none⟩ = some (.slice A1 n1 c1) := HX2.out.2.1.cell 0
  have e1 : w3.cell? ⟨p, 1, none⟩ = some (.int .i64 m1.cap) := HX2.out.2.1.cell 1
  have hfz := HX2.out.2.1.frozen
  have hlt := HX2.out.1.box.lt
  have hlt2 := HX2.out.2.1.lt
  have d1 : decide (((j : Nat) : Int) ≥ 0) = true := decide_eq_true (by omega)
  have d0 : decide ((0 : Int) ≤ ((j : Nat) : Int)) = true := decide_eq_true (by omega)
  have d9 : decide (((j : Nat) : Int) < 0) = false := decide_eq_false (by omega)
  have hjn : j < n1 := by
    have h1 := HX2.out.2.2.1
    have h2 := (List.getElem?_eq_some_iff.1 hgj).1
    omega
  have hji : ((j : Nat) : Int) < ((n1 : Nat) : Int) := by omega
  obtain ⟨b, o, rfl, hbS, hfa⟩ := HX2.out.2.2.2 (by omega)
  obtain ⟨y0, y1, y2, q0, q1, q2, hfv⟩ := hfa j f hgj
  have hbw : b < w3.heap.size := block_lt_of_cell q0
  obtain ⟨A3, n3, c3, rfl, rfl, rfl, hby3, hnil3, hln3, hmx3⟩ := fl_parts hfv
  have hfnm : f.name = s.name := by
    have := List.find?_some hfl
    simpa using this
  have HF3 := Lib.hid (And.intro hby3 (And.intro hnil3 (And.intro hln3 hmx3)))
  clear hby3 hnil3 hln3 hmx3 hfv hfa
  rw [hfnm] at q0
  have hff : f0 = f := by
    rw [hmf3, hlo0] at hfl
    injection hfl
  have HE2 : Hid (doD m s = (0, withFs m1 (withF ⟨s.to, f.data, f.sure⟩ false (withoutF s.name m1.files)))) := Lib.hid (by rw [← hff]; exact HE.out)
  clear hfj hgj hfl hlo hlo0 hjn hff hmf3 HE
  go_wp2_with fail
  have hbl0 : Below w3.heap.size w3 (w3.alloc (.cells #[.string ⟨s.name.toArray⟩, .slice A3 n3 c3, .int .i64 ((f.sure : Nat) : Int)] 43)) := (Below.refl _ w3).alloc (Nat.le_refl _) _
  have HBL := Lib.hid hbl0
  have HBX : Hid (Blk (w3.alloc (.cells #[.string ⟨s.name.toArray⟩, .slice A3 n3 c3, .int .i64 ((f.sure : Nat) : Int)] 43)) W.heap.size 36 (spL 3 s A n c)) := Lib.hid (HX2.out.1.box.alloc (.cells #[.string ⟨s.name.toArray⟩, .slice A3 n3 c3, .int .i64 ((f.sure : Nat) : Int)] 43))
  have HBF : Hid (Blk (w3.alloc (.cells #[.string ⟨s.name.toArray⟩, .slice A3 n3 c3, .int .i64 ((f.sure : Nat) : Int)] 43)) w3.heap.size 43 [.string ⟨s.name.toArray⟩, .slice A3 n3 c3, .int .i64 ((f.sure : Nat) : Int)]) := Lib.hid (Blk.new w3 _ _ rfl)
  have hWg : W.heap.size < w3.heap.size := hlt
  clear hbl0
  obtain ⟨g, hg⟩ : ∃ g, w3.heap.size = g := ⟨_, rfl⟩
  rw [hg] at HBL HBF hWg ⊢
  have HG := Lib.hid hg
  have HWG := Lib.hid hWg
  revert HBX HBL HBF
  generalize w3.alloc (.cells #[.string ⟨s.name.toArray⟩, .slice A3 n3 c3, .int .i64 ((f.sure : Nat) : Int)] 43) = wa
  intro HBX HBF HBL
  clear hg b0 b1 b2 b3 e0 e1 hfz hlt hlt2 d0 d1 d9 q0 q1 q2 hji hWg
  obtain ⟨S2, hS2⟩ : ∃ S2 : Nat → Prop, S2 = fun k => S k ∨ k = g := ⟨_, rfl⟩
  have HS2 := Lib.hid hS2
  have hbl3 : Below w3.heap.size w3 wa := by rw [HG.out]; exact HBL.out
  have hT3 : Turn (fun _ => False) w3 wa := (Turn.of_below hbl3)
  have hgw := HBF.out.lt
  have h2a : ∀ k, S2 k → k < w3.heap.size → S k := fun k hk hl => by
    rw [hS2] at hk
    rcases hk with h | h
    · exact h
    · rw [HG.out] at hl; omega
  have h2b : ∀ k, S k → S2 k := fun k hk => by rw [hS2]; exact .inl hk
  have h2c : ∀ k, S2 k → k < wa.heap.size := fun k hk => by
    rw [hS2] at hk
    rcases hk with h | h
    · have h1 := HSW.out k h
      have h2 := HWG.out
      omega
    · omega
  have hRc : RD wa.drew S2 p m1 := (HX2.out.1.rd.more hbl3 h2a h2b h2c).drewN 1
  have hBc : Blk wa p 31 (dkL m1 (some ⟨b, o, none⟩) n1 c1) := HX2.out.2.1.below hbl3 HX2.out.2.1.lt
  have hFc : Fls wa S2 (some ⟨b, o, none⟩) n1 m1.files := (HX2.out.2.2.more h2a).turn (Turn.of_below hbl3)
  have hWo := without_any (some ⟨b, o, none⟩) n1 c1 m1.files ⟨s.name.toArray⟩ (fun k => S2 k ∨ wa.heap.size ≤ k) wa.drew ((hFc.turn ((Turn.refl S2 wa).drewN 1)).more fun k hk hl => by
    rcases hk with h | h
    · exact h
    · exact absurd h (Nat.not_le.2 hl)) (fun k hk => .inr hk) (by omega)
  simp only [List.toList_toArray] at hWo
  have hBY : BytS wa S2 A3 n3 f.data := (HF3.out.1.more h2a).turn (Turn.of_below hbl3)
  obtain ⟨L1, hL1⟩ : ∃ L1, withoutF s.name m1.files = L1 := ⟨_, rfl⟩
  have hl1 : L1.length ≤ 2000 := by
    rw [← hL1]
    have := List.length_filter_le (fun f : Fl => !decide (f.name = s.name)) m1.files
    have h2 : (withoutF s.name m1.files).length = (m1.files.filter fun f : Fl => !decide (f.name = s.name)).length := rfl
    omega
  rw [hL1] at hWo HE2
  obtain ⟨L2, hL2⟩ : ∃ L2, withF ⟨s.to, f.data, f.sure⟩ false L1 = L2 := ⟨_, rfl⟩
  rw [hL2] at HE2
  have HL2 := Lib.hid hL2
  have HL1 := Lib.hid hl1
  have e0 : wa.cell? ⟨p, 0, none⟩ = some (.slice (some ⟨b, o, none⟩) n1 c1) := hBc.cell 0
  have hfz0 : wa.frozen? ⟨p, 0, none⟩ = false := hBc.frozen 0
  have c1' : wa.cell? ⟨W.heap.size, 1, none⟩ = some (.string ⟨s.name.toArray⟩) := HBX.out.cell 1
  have hpw := hBc.lt
  have HT := Lib.hid ((HX2.out.1.turn.trans (hT3.mono (fun k hk => hk.elim) : Turn (fun k => k = p) w3 wa)))
  have HRc := Lib.hid hRc
  have HBY := Lib.hid hBY
  have HC2 := Lib.hid h2c
  have HP2 : Hid (S2 p) := Lib.hid (by obtain ⟨_, _, _, _, _, h3, _⟩ := hRc; exact h3)
  have HFC := Lib.hid hFc
  clear hbl3 hT3 hRc hBc hFc hL1 hl1 hL2 hBY h2a h2b h2c hgw hS2
  go_cut [] from 143 to 152 (fun wx => RD wx S2 p (withFs m1 L1) ∧ Turn (fun k => k = p) wa wx)
  case first =>
    go_region_with ((go_at_call 33; refine hWo.mono ?_; rintro e w7 ⟨v7, xs7, rfl, hown7, hx7, hb7⟩; obtain ⟨A7, c7, rfl, hr1, hr2, hr3⟩ := own_formk hown7; have y0 := (hb7.cell (p := ⟨p, 0, none⟩) hpw).trans e0; have yz := (hb7.frozen (p := ⟨p, 0, none⟩) hpw).trans hfz0))
    all_goals
      go_wp2_with fail
      go_meet
      have hP := rd_put HRc.out hown7 (hx7.less fun k hk => .inl hk) hb7
      exact ⟨hP.1, ((Turn.refl (fun k => k = p) wa).drewN 1).trans hP.2⟩
  case rest =>
    obtain ⟨hrx, htx⟩ := hcut
    have hbx : Blk wc W.heap.size 36 (spL 3 s A n c) := htx.blk HBX.out (by omega)
    have hgp : ¬ g = p := by have := HWG.out; omega
    have hbf := htx.blk HBF.out hgp
    have hby : BytS wc S2 A3 n3 f.data := HBY.out.turn (htx.mono fun k hk => by rw [hk]; exact HP2.out)
    have b0 : wc.cell? ⟨W.heap.size, 0, none⟩ = some (.int .i64 3) := hbx.cell 0
    have b2 : wc.cell? ⟨W.heap.size, 2, none⟩ = some (.string ⟨s.to.toArray⟩) := hbx.cell 2
    have g0 : wc.cell? ⟨g, 0, none⟩ = some (.string ⟨s.name.toArray⟩) := hbf.cell 0
    have gz : wc.frozen? ⟨g, 0, none⟩ = false := hbf.frozen 0
    have hwg := HWG.out
    have HX3 : Hid (∃ wd, wd = wc.setCell ⟨g, 0, none⟩ (.string ⟨s.to.toArray⟩) ∧ RD wd S2 p (withFs m1 L1) ∧ Turn (fun k => k = p ∨ k = g) W wd ∧ Blk wd g 43 [.string ⟨s.to.toArray⟩, .slice A3 n3 c3, .int .i64 ((f.sure : Nat) : Int)] ∧ BytS wd S2 A3 n3 f.data) := Lib.hid (by
      have hts : Turn (fun k => k = g) wc (wc.setCell ⟨g, 0, none⟩ (.string ⟨s.to.toArray⟩)) := Turn.setCell (S := fun k => k = g) (Turn.refl _ wc) (p := ⟨g, 0, none⟩) rfl _
      have h2g : S2 g := by rw [HS2.out]; exact .inr rfl
      refine ⟨_, rfl, hrx.turn hts (fun k hk => by rw [hk]; exact h2g) (fun h => hgp h.symm), ?_, hbf.set 0 _, hby.turn (hts.mono fun k hk => by rw [hk]; exact h2g)⟩
      exact ((HT.out.mono fun k hk => .inl hk).trans (htx.mono fun k hk => .inl hk)).trans (hts.mono fun k hk => .inr hk))
    clear hrx htx hbx hbf hby hgp
    go_wp2_with fail
    obtain ⟨wd, hwd, hrd, htd, hbd, hbyd⟩ := HX3.out
    rw [← hwd]
    have HRT := Lib.hid (And.intro (hrd.drewN 1) htd)
    obtain ⟨A8, n8, c8, hB8, hF8, _, _⟩ := hrd
    have hn8 : n8 ≤ 2000 := by have h1 := hF8.1; have h2 := HL1.out; have h3 : (withFs m1 L1).files = L1 := rfl; rw [h3] at h1; omega
    have hWi := with_any A8 n8 c8 L1 ⟨s.to, f.data, f.sure⟩ (.agg #[.string ⟨s.to.toArray⟩, .slice A3 n3 c3, .int .i64 ((f.sure : Nat) : Int)]) (fun k => S2 k ∨ wd.heap.size ≤ k) wd.drew ((hF8.turn ((Turn.refl S2 wd).drewN 1)).more fun k hk hl => by
      rcases hk with h | h
      · exact h
      · exact absurd h (Nat.not_le.2 hl)) ⟨A3, n3, c3, rfl, (hbyd.turn ((Turn.refl S2 wd).drewN 1)).more (fun k hk hl => by
      rcases hk with h | h
      · exact h
      · exact absurd h (Nat.not_le.2 hl)), HF3.out.2⟩ (fun k hk => .inr hk) (by omega)
    rw [HL2.out] at hWi
    have e0 : wd.cell? ⟨p, 0, none⟩ = some (.slice A8 n8 c8) := hB8.cell 0
    have hfz0 : wd.frozen? ⟨p, 0, none⟩ = false := hB8.frozen 0
    have hpw := hB8.lt
    have k0 : wd.cell? ⟨g, 0, none⟩ = some (.string ⟨s.to.toArray⟩) := hbd.cell 0
    have k1 : wd.cell? ⟨g, 1, none⟩ = some (.slice A3 n3 c3) := hbd.cell 1
    have k2 : wd.cell? ⟨g, 2, none⟩ = some (.int .i64 ((f.sure : Nat) : Int)) := hbd.cell 2
    clear hwd htd hbd hbyd hB8 hF8 b0 b2 g0 gz HX3
    go_region_with ((go_at_call 32; refine hWi.mono ?_; rintro e w7 ⟨v7, xs7, rfl, hown7, hx7, hb7⟩; obtain ⟨A7, c7, rfl, hr1, hr2, hr3⟩ := own_formk hown7; have y0 := (hb7.cell (p := ⟨p, 0, none⟩) hpw).trans e0; have yz := (hb7.frozen (p := ⟨p, 0, none⟩) hpw).trans hfz0))
    all_goals
      go_wp2_with fail
      go_ret
      rw [HE2.out]
      have hP := rd_put HRT.out.1 hown7 (hx7.less fun k hk => .inl hk) hb7
      have hSp : S p := by
        have := HP2.out
        rw [HS2.out] at this
        rcases this with h | h
        · exact h
        · have := HWG.out; omega
      refine ⟨rfl, hP.1.less (fun k hk => by rw [HS2.out]; exact .inl hk) hSp, ?_⟩
      refine Turn.fewer ((HRT.out.2.drewN 1).trans (hP.2.mono fun k hk => .inl hk)) fun k hk hl => ?_
      rcases hk with h | h
      · exact h
      · have := HWG.out; omega

end Go.Proofs.Ytnjkilmhphcocaa
