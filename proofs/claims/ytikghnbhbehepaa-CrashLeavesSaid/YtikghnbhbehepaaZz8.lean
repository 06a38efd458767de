/-
  The reference's disk: Rename. Made by wip/tools/mkn.py.
-/
import Derived.Test.YtikghnbhbehepaaZz7
namespace Go.Proofs.Ytikghnbhbehepaa
open Go.RowKit
set_option linter.unusedVariables false
set_option linter.unusedSimpArgs false

theorem RD.less {w : World} {S S' : Nat → Prop} {p : Nat} {m : Dk} (h : RD w S' p m) (hs : ∀ k, S k → S' k) (hp : S p) : RD w S p m := by
  obtain ⟨A, n, c, h1, h2, h3, h4⟩ := h
  exact ⟨A, n, c, h1, h2.less hs, hp, fun k hk => h4 k (hs k hk)⟩
theorem RD.more {w w' : World} {S S2 : Nat → Prop} {p : Nat} {m : Dk} (h : RD w S p m) (hb : Below w.heap.size w w') (hs2 : ∀ k, S2 k → k < w.heap.size → S k) (hs : ∀ k, S k → S2 k) (hlt : ∀ k, S2 k → k < w'.heap.size) : RD w' S2 p m := by
  obtain ⟨A, n, c, h1, h2, h3, h4⟩ := h
  exact ⟨A, n, c, h1.below hb h1.lt, (h2.more hs2).turn (Turn.of_below hb), hs _ h3, hlt⟩
theorem Turn.fewer {S S' : Nat → Prop} {w w' : World} (h : Turn S' w w') (hs : ∀ k, S' k → k < w.heap.size → S k) : Turn S w w' := ⟨h.os, h.tape, h.output, h.size, fun k hk hn => h.block k hk fun e => hn (hs k e hk)⟩

set_option maxRecDepth 100000 in
set_option maxHeartbeats 2000000 in
/-- The new name is none. -/
theorem rdo_to (S : Nat → Prop) (p : Nat) (m : Dk) (s : Sp) (A : Option Addr) (n c : Nat) (W : World) (h : RD W S p m) (hG : GoodD m) (hcl : m.calls ≤ 1000000) (hlf : m.left < 18446744073709551616) (hb : (beginD m).1 = true)
    (hl : s.name.length ≤ 10000) (hn : targetB s.name = true) (hl2 : s.to.length ≤ 10000) (htt : targetB s.to = false) (hK : s.kind = 3) :
    Calls Try.prog 16 #[.pointer (some ⟨p, 0, none⟩), spV s A n c] W (DoPost S p (doD m s) W) := by
  have HE := Lib.hid ((do_call m s (by unfold isCall; rw [hK]; rfl) hb).trans (call_to _ s hK htt))
  have HB := begun_any S p m s.kind s A n c W h hG hcl hlf
  rw [hb] at HB
  unfold spV
  rw [hK] at HB ⊢
  clear hb h
  go_enter Try.func16, Try.ntmps16
  go_wp2_with fail
  refine HB.mono ?_
  rintro e W1 ⟨rfl, hr⟩
  have b0 : W1.cell? ⟨W.heap.size, 0, none⟩ = some (.int .i64 3) := hr.box.cell 0
  have b1 : W1.cell? ⟨W.heap.size, 1, none⟩ = some (.string ⟨s.name.toArray⟩) := hr.box.cell 1
  have b2 : W1.cell? ⟨W.heap.size, 2, none⟩ = some (.string ⟨s.to.toArray⟩) := hr.box.cell 2
  have hT := refTarget_any ⟨s.name.toArray⟩ (by simpa [ByteArray.size] using hl) W1
  simp only [List.toList_toArray] at hT
  rw [hn] at hT
  have hT2 := refTarget_any ⟨s.to.toArray⟩ (by simpa [ByteArray.size] using hl2) W1
  simp only [List.toList_toArray] at hT2
  rw [htt] at hT2
  have HX := Lib.hid hr
  clear HB hr
  go_wp2_with fail
  refine hT.mono ?_
  rintro e W2 ⟨rfl, rfl⟩
  clear hT
  go_wp2_with fail
  refine hT2.mono ?_
  rintro e W2 ⟨rfl, rfl⟩
  clear hT2
  go_wp2_with fail
  go_ret
  rw [HE.out]
  exact ⟨rfl, HX.out.rd, HX.out.turn⟩

set_option maxRecDepth 100000 in
set_option maxHeartbeats 4000000 in
theorem rdo_ren (S : Nat → Prop) (p : Nat) (m : Dk) (s : Sp) (A : Option Addr) (n c : Nat) (W : World) (h : RD W S p m) (hG : GoodD m) (hcl : m.calls ≤ 1000000) (hlf : m.left < 18446744073709551616) (hb : (beginD m).1 = true)
    (hl : s.name.length ≤ 10000) (hn : targetB s.name = true) (hl2 : s.to.length ≤ 10000) (htt : targetB s.to = true) (hK : s.kind = 3) (f0 : Fl) (hlo0 : lookF s.name m.files = some f0) :
    Calls Try.prog 16 #[.pointer (some ⟨p, 0, none⟩), spV s A n c] W (DoPost S p (doD m s) W) := by
  have hlo : (lookF s.name m.files).isSome = true := by rw [hlo0]; rfl
  have HE := Lib.hid ((do_call m s (by unfold isCall; rw [hK]; rfl) hb).trans (call_ren _ s f0 hn htt hK (by rw [(begin_same m hb).1]; exact hlo0)))
  have HB := begun_any S p m s.kind s A n c W h hG hcl hlf
  rw [hb] at HB
  have hmf := (begin_same m hb).1
  have hmc := (begin_same m hb).2
  obtain ⟨m1, hm1⟩ : ∃ m1, (beginD m).2 = m1 := ⟨_, rfl⟩
  rw [hm1] at HB hmf hmc HE
  rw [← hmf] at hlo
  have hfl1 : m1.files.length ≤ 2000 := by rw [hmf]; exact hG.1
  have hsz1 : sizeF m1.files ≤ 100000 := by rw [hmf]; exact hG.2.1
  unfold spV
  rw [hK] at HB ⊢
  have hltp : p < W.heap.size := by
    obtain ⟨A1, n1, c1, hB, _⟩ := h
    exact hB.lt
  have hSW : ∀ k, S k → k < W.heap.size := by
    obtain ⟨A1, n1, c1, _, _, _, h4⟩ := h
    exact h4
  have HSW := Lib.hid hSW
  have hmf3 := hmf
  clear hSW hb h hmf hm1 hmc
  go_enter Try.func16, Try.ntmps16
  go_wp2_with fail
  refine HB.mono ?_
  rintro e W1 ⟨rfl, hr⟩
  have b0 : W1.cell? ⟨W.heap.size, 0, none⟩ = some (.int .i64 3) := hr.box.cell 0
  have b1 : W1.cell? ⟨W.heap.size, 1, none⟩ = some (.string ⟨s.name.toArray⟩) := hr.box.cell 1
  have b2 : W1.cell? ⟨W.heap.size, 2, none⟩ = some (.string ⟨s.to.toArray⟩) := hr.box.cell 2
  have hT := refTarget_any ⟨s.name.toArray⟩ (by simpa [ByteArray.size] using hl) W1
  simp only [List.toList_toArray] at hT
  rw [hn] at hT
  have hT2 := refTarget_any ⟨s.to.toArray⟩ (by simpa [ByteArray.size] using hl2) W1
  simp only [List.toList_toArray] at hT2
  rw [htt] at hT2
  obtain ⟨A1, n1, c1, hB1, hF1, hSp, hSo⟩ := hr.rd
  have hfz := hB1.frozen
  have e0 : W1.cell? ⟨p, 0, none⟩ = some (.slice A1 n1 c1) := hB1.cell 0
  have hn1 : n1 ≤ 2000 := by have := hF1.1; omega
  have hFi := fun q => find_any A1 n1 c1 m1.files ⟨s.name.toArray⟩ S (W1.drewN q) (hF1.turn ((Turn.refl S W1).drewN q)) (by omega)
  simp only [List.toList_toArray] at hFi
  have HF1 := Lib.hid hF1
  have HB1 := Lib.hid hB1
  have HX := Lib.hid hr
  obtain ⟨j, f, hfj, hgj, hfl⟩ : ∃ (j : Nat) (f : Fl), findN s.name m1.files 0 = (j : Int) ∧ m1.files[j]? = some f ∧ lookF s.name m1.files = some f := by
    rcases findN_spec s.name m1.files 0 with ⟨_, h2⟩ | ⟨j, f, h1, h2, h3⟩
    · rw [h2] at hlo; cases hlo
    · exact ⟨j, f, by rw [h1]; simp, h2, h3⟩
  rw [hfj] at hFi
  clear HB hr hB1 hF1 hSp hSo
  go_wp2_with fail
  refine hT.mono ?_
  rintro e W2 ⟨rfl, rfl⟩
  clear hT
  go_wp2_with fail
  refine hT2.mono ?_
  rintro e W2 ⟨rfl, rfl⟩
  clear hT2
  go_wp2_with fail
  go_quiet ((go_at_call 32; exact Calls.quiet_of_same (hFi _)))
  have HX2 : Hid (Begun W (W2.drewN nq) S p m1 3 s A n c ∧ Blk (W2.drewN nq) p 40 (dkL m1 A1 n1 c1) ∧ Fls (W2.drewN nq) S A1 n1 m1.files) := Lib.hid ⟨HX.out.drewN nq, HB1.out.drewN nq, HF1.out.turn ((Turn.refl S W2).drewN nq)⟩
  have hTw : Turn (fun _ => False) W2 (W2.drewN nq) := (Turn.refl _ _).drewN nq
  revert HX2 hTw
  generalize W2.drewN nq = w3
  intro HX2 hTw
  clear b0 b1 b2 e0 hfz HX hFi HF1 HB1
  have b0 : w3.cell? ⟨W.heap.size, 0, none⟩ = some (.int .i64 3) := HX2.out.1.box.cell 0
  have b1 : w3.cell? ⟨W.heap.size, 1, none⟩ = some (.string ⟨s.name.toArray⟩) := HX2.out.1.box.cell 1
  have b2 : w3.cell? ⟨W.heap.size, 2, none⟩ = some (.string ⟨s.to.toArray⟩) := HX2.out.1.box.cell 2
  have b3 : w3.cell? ⟨W.heap.size, 3, none⟩ = some (.slice A n c) := HX2.out.1.box.cell 3
  have e0 : w3.cell? ⟨p, 0, none⟩ = some (.slice A1 n1 c1) := HX2.out.2.1.cell 0
  have e1 : w3.cell? ⟨p, 1, none⟩ = some (.int .i64 m1.cap) := HX2.out.2.1.cell 1
  have hfz := HX2.out.2.1.frozen
  have hlt := HX2.out.1.box.lt
  have hlt2 := HX2.out.2.1.lt
  have d1 : decide (((j : Nat) : Int) ≥ 0) = true := decide_eq_true (by omega)
  have d0 : decide ((0 : Int) ≤ ((j : Nat) : Int)) = true := decide_eq_true (by omega)
  have d9 : decide (((j : Nat) : Int) < 0) = false := decide_eq_false (by omega)
  have hjn : j < n1 := by
    have h1 := HX2.out.2.2.1
    have h2 := (List.getElem?_eq_some_iff.1 hgj).1
    omega
  have hji : ((j : Nat) : Int) < ((n1 : Nat) : Int) := by omega
  obtain ⟨b, o, rfl, hbS, hfa⟩ := HX2.out.2.2.2 (by omega)
  obtain ⟨y0, y1, y2, q0, q1, q2, hfv⟩ := hfa j f hgj
  have hbw : b < w3.heap.size := block_lt_of_cell q0
  obtain ⟨A3, n3, c3, rfl, rfl, rfl, hby3, hnil3, hln3, hmx3⟩ := fl_parts hfv
  have hfnm : f.name = s.name := by
    have := List.find?_some hfl
    simpa using this
  have HF3 := Lib.hid (And.intro hby3 (And.intro hnil3 (And.intro hln3 hmx3)))
  clear hby3 hnil3 hln3 hmx3 hfv hfa
  rw [hfnm] at q0
  have hff : f0 = f := by
    rw [hmf3, hlo0] at hfl
    injection hfl
  have HE2 : Hid (doD m s = (0, withFs m1 (withF ⟨s.to, f.data, f.sure⟩ false (withoutF s.name m1.files)))) := Lib.hid (by rw [← hff]; exact HE.out)
  clear hfj hgj hfl hlo hlo0 hjn hff hmf3 HE
  go_wp2_with fail
  have hbl0 : Below w3.heap.size w3 (w3.alloc (.cells #[.string ⟨s.name.toArray⟩, .slice A3 n3 c3, .int .i64 ((f.sure : Nat) : Int)] 54)) := (Below.refl _ w3).alloc (Nat.le_refl _) _
  have HBL := Lib.hid hbl0
  have HBX : Hid (Blk (w3.alloc (.cells #[.string ⟨s.name.toArray⟩, .slice A3 n3 c3, .int .i64 ((f.sure : Nat) : Int)] 54)) W.heap.size 46 (spL 3 s A n c)) := Lib.hid (HX2.out.1.box.alloc (.cells #[.string ⟨s.name.toArray⟩, .slice A3 n3 c3, .int .i64 ((f.sure : Nat) : Int)] 54))
  have HBF : Hid (Blk (w3.alloc (.cells #[.string ⟨s.name.toArray⟩, .slice A3 n3 c3, .int .i64 ((f.sure : Nat) : Int)] 54)) w3.heap.size 54 [.string ⟨s.name.toArray⟩, .slice A3 n3 c3, .int .i64 ((f.sure : Nat) : Int)]) := Lib.hid (Blk.new w3 _ _ rfl)
  have hWg : W.heap.size < w3.heap.size := hlt
  clear hbl0
  obtain ⟨g, hg⟩ : ∃ g, w3.heap.size = g := ⟨_, rfl⟩
  rw [hg] at HBL HBF hWg ⊢
  have HG := Lib.hid hg
  have HWG := Lib.hid hWg
  revert HBX HBL HBF
  generalize w3.alloc (.cells #[.string ⟨s.name.toArray⟩, .slice A3 n3 c3, .int .i64 ((f.sure : Nat) : Int)] 54) = wa
  intro HBX HBF HBL
  clear hg b0 b1 b2 b3 e0 e1 hfz hlt hlt2 d0 d1 d9 q0 q1 q2 hji hWg
  obtain ⟨S2, hS2⟩ : ∃ S2 : Nat → Prop, S2 = fun k => S k ∨ k = g := ⟨_, rfl⟩
  have HS2 := Lib.hid hS2
  have hbl3 : Below w3.heap.size w3 wa := by rw [HG.out]; exact HBL.out
  have hT3 : Turn (fun _ => False) w3 wa := (Turn.of_below hbl3)
  have hgw := HBF.out.lt
  have h2a : ∀ k, S2 k → k < w3.heap.size → S k := fun k hk hl => by
    rw [hS2] at hk
    rcases hk with h | h
    · exact h
    · rw [HG.out] at hl; omega
  have h2b : ∀ k, S k → S2 k := fun k hk => by rw [hS2]; exact .inl hk
  have h2c : ∀ k, S2 k → k < wa.heap.size := fun k hk => by
    rw [hS2] at hk
    rcases hk with h | h
    · have h1 := HSW.out k h
      have h2 := HWG.out
      omega
    · omega
  have hRc : RD wa.drew S2 p m1 := (HX2.out.1.rd.more hbl3 h2a h2b h2c).drewN 1
  have hBc : Blk wa p 40 (dkL m1 (some ⟨b, o, none⟩) n1 c1) := HX2.out.2.1.below hbl3 HX2.out.2.1.lt
  have hFc : Fls wa S2 (some ⟨b, o, none⟩) n1 m1.files := (HX2.out.2.2.more h2a).turn (Turn.of_below hbl3)
  have hWo := without_any (some ⟨b, o, none⟩) n1 c1 m1.files ⟨s.name.toArray⟩ (fun k => S2 k ∨ wa.heap.size ≤ k) wa.drew ((hFc.turn ((Turn.refl S2 wa).drewN 1)).more fun k hk hl => by
    rcases hk with h | h
    · exact h
    · exact absurd h (Nat.not_le.2 hl)) (fun k hk => .inr hk) (by omega)
  simp only [List.toList_toArray] at hWo
  have hBY : BytS wa S2 A3 n3 f.data := (HF3.out.1.more h2a).turn (Turn.of_below hbl3)
  obtain ⟨L1, hL1⟩ : ∃ L1, withoutF s.name m1.files = L1 := ⟨_, rfl⟩
  have hl1 : L1.length ≤ 2000 := by
    rw [← hL1]
    have := List.length_filter_le (fun f : Fl => !decide (f.name = s.name)) m1.files
    have h2 : (withoutF s.name m1.files).length = (m1.files.filter fun f : Fl => !decide (f.name = s.name)).length := rfl
    omega
  rw [hL1] at hWo HE2
  obtain ⟨L2, hL2⟩ : ∃ L2, withF ⟨s.to, f.data, f.sure⟩ false L1 = L2 := ⟨_, rfl⟩
  rw [hL2] at HE2
  have HL2 := Lib.hid hL2
  have HL1 := Lib.hid hl1
  have e0 : wa.cell? ⟨p, 0, none⟩ = some (.slice (some ⟨b, o, none⟩) n1 c1) := hBc.cell 0
  have hfz0 : wa.frozen? ⟨p, 0, none⟩ = false := hBc.frozen 0
  have c1' : wa.cell? ⟨W.heap.size, 1, none⟩ = some (.string ⟨s.name.toArray⟩) := HBX.out.cell 1
  have hpw := hBc.lt
  have HT := Lib.hid ((HX2.out.1.turn.trans (hT3.mono (fun k hk => hk.elim) : Turn (fun k => k = p) w3 wa)))
  have HRc := Lib.hid hRc
  have HBY := Lib.hid hBY
  have HC2 := Lib.hid h2c
  have HP2 : Hid (S2 p) := Lib.hid (by obtain ⟨_, _, _, _, _, h3, _⟩ := hRc; exact h3)
  have HFC := Lib.hid hFc
  clear hbl3 hT3 hRc hBc hFc hL1 hl1 hL2 hBY h2a h2b h2c hgw hS2
  go_cut [] from 143 to 152 (fun wx => RD wx S2 p (withFs m1 L1) ∧ Turn (fun k => k = p) wa wx)
  case first =>
    go_region_with ((go_at_call 35; refine hWo.mono ?_; rintro e w7 ⟨v7, xs7, rfl, hown7, hx7, hb7⟩; obtain ⟨A7, c7, rfl, hr1, hr2, hr3⟩ := own_formk hown7; have y0 := (hb7.cell (p := ⟨p, 0, none⟩) hpw).trans e0; have yz := (hb7.frozen (p := ⟨p, 0, none⟩) hpw).trans hfz0))
    all_goals
      go_wp2_with fail
      go_meet
      have hP := rd_put HRc.out hown7 (hx7.less fun k hk => .inl hk) hb7
      exact ⟨hP.1, ((Turn.refl (fun k => k = p) wa).drewN 1).trans hP.2⟩
  case rest =>
    obtain ⟨hrx, htx⟩ := hcut
    have hbx : Blk wc W.heap.size 46 (spL 3 s A n c) := htx.blk HBX.out (by omega)
    have hgp : ¬ g = p := by have := HWG.out; omega
    have hbf := htx.blk HBF.out hgp
    have hby : BytS wc S2 A3 n3 f.data := HBY.out.turn (htx.mono fun k hk => by rw [hk]; exact HP2.out)
    have b0 : wc.cell? ⟨W.heap.size, 0, none⟩ = some (.int .i64 3) := hbx.cell 0
    have b2 : wc.cell? ⟨W.heap.size, 2, none⟩ = some (.string ⟨s.to.toArray⟩) := hbx.cell 2
    have g0 : wc.cell? ⟨g, 0, none⟩ = some (.string ⟨s.name.toArray⟩) := hbf.cell 0
    have gz : wc.frozen? ⟨g, 0, none⟩ = false := hbf.frozen 0
    have hwg := HWG.out
    have HX3 : Hid (∃ wd, wd = wc.setCell ⟨g, 0, none⟩ (.string ⟨s.to.toArray⟩) ∧ RD wd S2 p (withFs m1 L1) ∧ Turn (fun k => k = p ∨ k = g) W wd ∧ Blk wd g 54 [.string ⟨s.to.toArray⟩, .slice A3 n3 c3, .int .i64 ((f.sure : Nat) : Int)] ∧ BytS wd S2 A3 n3 f.data) := Lib.hid (by
      have hts : Turn (fun k => k = g) wc (wc.setCell ⟨g, 0, none⟩ (.string ⟨s.to.toArray⟩)) := Turn.setCell (S := fun k => k = g) (Turn.refl _ wc) (p := ⟨g, 0, none⟩) rfl _
      have h2g : S2 g := by rw [HS2.out]; exact .inr rfl
      refine ⟨_, rfl, hrx.turn hts (fun k hk => by rw [hk]; exact h2g) (fun h => hgp h.symm), ?_, hbf.set 0 _, hby.turn (hts.mono fun k hk => by rw [hk]; exact h2g)⟩
      exact ((HT.out.mono fun k hk => .inl hk).trans (htx.mono fun k hk => .inl hk)).trans (hts.mono fun k hk => .inr hk))
    clear hrx htx hbx hbf hby hgp
    go_wp2_with fail
    obtain ⟨wd, hwd, hrd, htd, hbd, hbyd⟩ := HX3.out
    rw [← hwd]
    have HRT := Lib.hid (And.intro (hrd.drewN 1) htd)
    obtain ⟨A8, n8, c8, hB8, hF8, _, _⟩ := hrd
    have hn8 : n8 ≤ 2000 := by have h1 := hF8.1; have h2 := HL1.out; have h3 : (withFs m1 L1).files = L1 := rfl; rw [h3] at h1; omega
    have hWi := with_any A8 n8 c8 L1 ⟨s.to, f.data, f.sure⟩ (.agg #[.string ⟨s.to.toArray⟩, .slice A3 n3 c3, .int .i64 ((f.sure : Nat) : Int)]) (fun k => S2 k ∨ wd.heap.size ≤ k) wd.drew ((hF8.turn ((Turn.refl S2 wd).drewN 1)).more fun k hk hl => by
      rcases hk with h | h
      · exact h
      · exact absurd h (Nat.not_le.2 hl)) ⟨A3, n3, c3, rfl, (hbyd.turn ((Turn.refl S2 wd).drewN 1)).more (fun k hk hl => by
      rcases hk with h | h
      · exact h
      · exact absurd h (Nat.not_le.2 hl)), HF3.out.2⟩ (fun k hk => .inr hk) (by omega)
    rw [HL2.out] at hWi
    have e0 : wd.cell? ⟨p, 0, none⟩ = some (.slice A8 n8 c8) := hB8.cell 0
    have hfz0 : wd.frozen? ⟨p, 0, none⟩ = false := hB8.frozen 0
    have hpw := hB8.lt
    have k0 : wd.cell? ⟨g, 0, none⟩ = some (.string ⟨s.to.toArray⟩) := hbd.cell 0
    have k1 : wd.cell? ⟨g, 1, none⟩ = some (.slice A3 n3 c3) := hbd.cell 1
    have k2 : wd.cell? ⟨g, 2, none⟩ = some (.int .i64 ((f.sure : Nat) : Int)) := hbd.cell 2
    clear hwd htd hbd hbyd hB8 hF8 b0 b2 g0 gz HX3
    go_region_with ((go_at_call 34; refine hWi.mono ?_; rintro e w7 ⟨v7, xs7, rfl, hown7, hx7, hb7⟩; obtain ⟨A7, c7, rfl, hr1, hr2, hr3⟩ := own_formk hown7; have y0 := (hb7.cell (p := ⟨p, 0, none⟩) hpw).trans e0; have yz := (hb7.frozen (p := ⟨p, 0, none⟩) hpw).trans hfz0))
    all_goals
      go_wp2_with fail
      go_ret
      rw [HE2.out]
      have hP := rd_put HRT.out.1 hown7 (hx7.less fun k hk => .inl hk) hb7
      have hSp : S p := by
        have := HP2.out
        rw [HS2.out] at this
        rcases this with h | h
        · exact h
        · have := HWG.out; omega
      refine ⟨rfl, hP.1.less (fun k hk => by rw [HS2.out]; exact .inl hk) hSp, ?_⟩
      refine Turn.fewer ((HRT.out.2.drewN 1).trans (hP.2.mono fun k hk => .inl hk)) fun k hk hl => ?_
      rcases hk with h | h
      · exact h
      · have := HWG.out; omega

end Go.Proofs.Ytikghnbhbehepaa

/-
  The reference's disk: any step; what stays good.
-/
namespace Go.Proofs.Ytikghnbhbehepaa
open Go.RowKit
set_option linter.unusedVariables false
set_option linter.unusedSimpArgs false

/-- Any step. -/
theorem rdo_any (S : Nat → Prop) (p : Nat) (m : Dk) (s : Sp) (A : Option Addr) (n c : Nat) (W : World) (h : RD W S p m) (hG : GoodD m) (hcl : m.calls ≤ 1000000) (hlf : m.left < 18446744073709551616) (hcap : 0 ≤ m.cap ∧ m.cap < 9223372036854775808)
    (hl : s.name.length ≤ 10000) (hl2 : s.to.length ≤ 10000) (hda : BytS W (fun k => k = p) A n s.data) (hnil : A = none → n = 0 ∧ c = 0) (hnd : n ≤ 100000) :
    Calls Try.prog 16 #[.pointer (some ⟨p, 0, none⟩), spV s A n c] W (DoPost S p (doD m s) W) := by
  cases hk : isCall s
  · exact rdo_other S p m s A n c W h hG hk
  cases hb : (beginD m).1
  · exact rdo_refused S p m s A n c W h hG hcl hlf hk hb
  cases hn : targetB s.name
  · exact rdo_name S p m s A n c W h hG hcl hlf hk hb hl hn
  have hkk : 1 ≤ s.kind ∧ s.kind ≤ 4 := by
    unfold isCall at hk
    simpa using hk
  have hc4 : s.kind = 1 ∨ s.kind = 2 ∨ s.kind = 3 ∨ s.kind = 4 := by omega
  by_cases ht : s.kind = 3 ∧ targetB s.to = false
  · exact rdo_to S p m s A n c W h hG hcl hlf hb hl hn hl2 ht.2 ht.1
  have ht2 : s.kind = 3 → targetB s.to = true := fun h3 => by
    cases hx : targetB s.to
    · exact absurd ⟨h3, hx⟩ ht
    · rfl
  rcases hlo : lookF s.name m.files with _ | f0
  · by_cases h1 : s.kind = 1
    · by_cases hf : 1024 ≤ m.files.length
      · exact rdo_room S p m s A n c W h hG hcl hlf hb hl hn h1 hlo hf
      · by_cases hfu : m.cap - sizeF m.files < (s.data.length : Int)
        · exact rdo_full S p m s A n c W h hG hcl hlf hb hl hn h1 hlo (by omega) hcap hda.1.symm hfu
        · exact rdo_app S p m s A n c W h hG hcl hlf hb hl hn h1 hlo (by omega) hcap hda hnil hnd hfu
    · exact rdo_none S p m s A n c W h hG hcl hlf hk hb hl hl2 hn ht2 h1 hlo
  · have hi : (lookF s.name m.files).isSome = true := by rw [hlo]; rfl
    rcases hc4 with h1 | h1 | h1 | h1
    · by_cases hfu : m.cap - sizeF m.files < (s.data.length : Int)
      · exact rdo_full2 S p m s A n c W h hG hcl hlf hb hl hn h1 hi hcap hda.1.symm hfu
      · exact rdo_app2 S p m s A n c W h hG hcl hlf hb hl hn h1 hi hcap hda hnil hnd hfu
    · exact rdo_sync S p m s A n c W h hG hcl hlf hb hl hn h1 f0 hlo
    · exact rdo_ren S p m s A n c W h hG hcl hlf hb hl hn hl2 (ht2 h1) h1 f0 hlo
    · exact rdo_rem S p m s A n c W h hG hcl hlf hb hl hn h1 f0 hlo

end Go.Proofs.Ytikghnbhbehepaa

/-
  Arithmetic of a disk: what a step leaves within bounds. No program stands here.
-/
namespace Go.Proofs.Ytikghnbhbehepaa
open Go.RowKit
set_option linter.unusedVariables false
set_option linter.unusedSimpArgs false

theorem sizeF_append (a b : List Fl) : sizeF (a ++ b) = sizeF a + sizeF b := by simp [sizeF]
theorem sizeF_cons (f : Fl) (l : List Fl) : sizeF (f :: l) = f.data.length + sizeF l := by simp [sizeF]
theorem withoutF_cons (s : List UInt8) (g : Fl) (r : List Fl) : withoutF s (g :: r) = (if g.name = s then [] else [g]) ++ withoutF s r := by
  unfold withoutF
  by_cases h : g.name = s <;> simp [h]
theorem withF_cons (f : Fl) (d : Bool) (g : Fl) (r : List Fl) : withF f d (g :: r) = (if !d && !Op.bytesLess g.name f.name then [f] else []) ++ (if g.name = f.name then [] else [g]) ++ withF f (d || !Op.bytesLess g.name f.name) r := rfl
theorem len_without (s : List UInt8) (l : List Fl) : (withoutF s l).length ≤ l.length := List.length_filter_le _ _
theorem size_without (s : List UInt8) (l : List Fl) : sizeF (withoutF s l) ≤ sizeF l := by
  induction l with
  | nil => exact Nat.le_refl _
  | cons g r ih =>
    rw [withoutF_cons, sizeF_append, sizeF_cons]
    by_cases h : g.name = s
    · rw [if_pos h]; simp [sizeF] at ih ⊢; omega
    · rw [if_neg h, sizeF_cons]; simp [sizeF] at ih ⊢; omega
theorem size_look (s : List UInt8) (l : List Fl) (f : Fl) (h : lookF s l = some f) : sizeF (withoutF s l) + f.data.length ≤ sizeF l := by
  induction l with
  | nil => cases h
  | cons g r ih =>
    rw [withoutF_cons, sizeF_append, sizeF_cons]
    by_cases hg : g.name = s
    · have e : g = f := by
        unfold lookF at h
        rw [List.find?_cons, decide_eq_true hg] at h
        exact Option.some.inj h
      rw [if_pos hg, ← e]
      have := size_without s r
      simp only [sizeF, List.map_nil, List.sum_nil] at this ⊢
      omega
    · have e : lookF s r = some f := by
        unfold lookF at h ⊢
        rw [List.find?_cons, decide_eq_false hg] at h
        exact h
      have h2 := ih e
      rw [if_neg hg, sizeF_cons]
      have h0 : sizeF [] = 0 := rfl
      omega
theorem size_with (f : Fl) (l : List Fl) : ∀ d : Bool, sizeF (withF f d l) ≤ sizeF (withoutF f.name l) + (if d then 0 else f.data.length) := by
  induction l with
  | nil =>
    intro d
    cases d
    · show sizeF [f] ≤ 0 + f.data.length
      rw [sizeF_cons]
      show f.data.length + 0 ≤ _
      omega
    · exact Nat.zero_le _
  | cons g r ih =>
    intro d
    rw [withF_cons, withoutF_cons, sizeF_append, sizeF_append, sizeF_append]
    have h0 : sizeF [] = 0 := rfl
    have h1 : sizeF [f] = f.data.length := by rw [sizeF_cons]; omega
    cases d <;> cases hb : Op.bytesLess g.name f.name
    · have := ih true
      simp at this ⊢
      omega
    · have := ih false
      simp at this ⊢
      omega
    · have := ih true
      simp at this ⊢
      omega
    · have := ih true
      simp at this ⊢
      omega
theorem len_with (f : Fl) (l : List Fl) : ∀ d : Bool, (withF f d l).length ≤ l.length + (if d then 0 else 1) := by
  induction l with
  | nil =>
    intro d
    cases d
    · exact Nat.le_refl _
    · exact Nat.le_refl _
  | cons g r ih =>
    intro d
    rw [withF_cons, List.length_append, List.length_append]
    have h2 : (if g.name = f.name then ([] : List Fl) else [g]).length ≤ 1 := by split <;> simp
    cases d <;> cases hb : Op.bytesLess g.name f.name
    · have := ih true
      simp at this ⊢
      omega
    · have := ih false
      simp at this ⊢
      omega
    · have := ih true
      simp at this ⊢
      omega
    · have := ih true
      simp at this ⊢
      omega
theorem mem_with (f g : Fl) (l : List Fl) : ∀ d : Bool, g ∈ withF f d l → g = f ∨ g ∈ l := by
  induction l with
  | nil =>
    intro d h
    cases d
    · exact .inl (by simpa using (show g ∈ [f] from h))
    · cases h
  | cons a r ih =>
    intro d h
    rw [withF_cons, List.mem_append, List.mem_append] at h
    rcases h with (h | h) | h
    · split at h
      · exact .inl (by simpa using h)
      · cases h
    · split at h
      · cases h
      · exact .inr (by rw [List.mem_singleton.1 h]; exact List.mem_cons_self)
    · rcases ih _ h with h | h
      · exact .inl h
      · exact .inr (List.mem_cons_of_mem _ h)
theorem mem_without (s : List UInt8) (g : Fl) (l : List Fl) (h : g ∈ withoutF s l) : g ∈ l := (List.mem_filter.1 h).1
theorem look_mem (s : List UInt8) (l : List Fl) (f : Fl) (h : lookF s l = some f) : f ∈ l := List.mem_of_find?_eq_some h

/-- What stands behind k steps. -/
structure OkD (k : Nat) (m : Dk) : Prop where
  len : m.files.length ≤ k
  size : sizeF m.files ≤ 200 * k
  sure : ∀ f ∈ m.files, f.sure ≤ f.data.length
  calls : m.calls ≤ k
  left : m.left < 18446744073709551616
  cap : 0 ≤ m.cap ∧ m.cap < 9223372036854775808
theorem OkD.good {k : Nat} {m : Dk} (h : OkD k m) (hk : k ≤ 200) : GoodD m := ⟨by have := h.len; omega, by have := h.size; omega, h.sure⟩
theorem OkD.mono {k : Nat} {m : Dk} (h : OkD k m) : OkD (k + 1) m := ⟨by have := h.len; omega, by have := h.size; omega, h.sure, by have := h.calls; omega, h.left, h.cap⟩

theorem OkD.crash {k : Nat} {m : Dk} (keep : Int) (h : OkD k m) : OkD k (crashD keep m) := by
  refine ⟨?_, ?_, ?_, h.calls, h.left, h.cap⟩
  · show (m.files.map _).length ≤ _
    rw [List.length_map]; exact h.len
  · refine Nat.le_trans ?_ h.size
    show sizeF (m.files.map (cutF keep)) ≤ sizeF m.files
    generalize m.files = l
    induction l with
    | nil => exact Nat.le_refl _
    | cons f r ih =>
      rw [List.map_cons, sizeF_cons, sizeF_cons]
      have e3 : (cutF keep f).data.length ≤ f.data.length := by
        show (f.data.take _).length ≤ _
        rw [List.length_take]
        omega
      omega
  · intro g hg
    obtain ⟨f, hf, rfl⟩ := List.mem_map.1 hg
    show leftF keep f ≤ (f.data.take (leftF keep f)).length
    rw [List.length_take]
    unfold leftF
    omega

theorem begin_ok {k : Nat} {m : Dk} (h : OkD k m) : OkD (k + 1) (beginD m).2 := by
  unfold beginD
  split
  · exact h.mono
  · split
    · exact (h.crash _).mono
    · refine ⟨by have := h.len; show m.files.length ≤ _; omega, by have := h.size; show sizeF m.files ≤ _; omega, h.sure, by have := h.calls; show m.calls + 1 ≤ _; omega, ?_, h.cap⟩
      show (if m.armed = true then m.left - 1 else m.left) < _
      have := h.left
      split <;> omega

theorem do_ok {k : Nat} {m : Dk} (s : Sp) (h : OkD k m) (hd : s.data.length ≤ 200) (hn : s.n < 18446744073709551616) : OkD (k + 1) (doD m s).2 := by
  unfold doD
  split
  · exact ⟨by have := h.len; show m.files.length ≤ _; omega, by have := h.size; show sizeF m.files ≤ _; omega, h.sure, by have := h.calls; show m.calls ≤ _; omega, hn, h.cap⟩
  split
  · exact (h.crash _).mono
  split
  · exact ⟨by have := h.len; show m.files.length ≤ _; omega, by have := h.size; show sizeF m.files ≤ _; omega, h.sure, by have := h.calls; show m.calls ≤ _; omega, h.left, h.cap⟩
  split
  · exact h.mono
  split
  · rename_i hb
    have hO := begin_ok h
    obtain ⟨hf, hc⟩ := begin_same m hb
    have hl0 := h.len
    have hs0 := h.size
    rw [← hf] at hl0 hs0
    have hsu := h.sure
    rw [← hf] at hsu
    generalize (beginD m).2 = m1 at hO hl0 hs0 hsu
    have key : ∀ l : List Fl, l.length ≤ k + 1 → sizeF l ≤ 200 * (k + 1) → (∀ f ∈ l, f.sure ≤ f.data.length) → OkD (k + 1) (withFs m1 l) := fun l h1 h2 h3 => ⟨h1, h2, h3, hO.calls, hO.left, hO.cap⟩
    unfold callD
    split
    · exact hO
    split
    · split
      · exact hO
      split
      · exact hO
      · have hfi : (fileF s.name m1.files).data.length + sizeF (withoutF s.name m1.files) ≤ sizeF m1.files ∧ (fileF s.name m1.files).sure ≤ (fileF s.name m1.files).data.length := by
          unfold fileF
          rcases hlo : lookF s.name m1.files with _ | f
          · refine ⟨?_, Nat.le_refl _⟩
            have := size_without s.name m1.files
            show 0 + _ ≤ _
            omega
          · have := size_look s.name m1.files f hlo
            exact ⟨by show f.data.length + _ ≤ _; omega, hsu f (look_mem _ _ _ hlo)⟩
        refine key _ ?_ ?_ fun g hg => ?_
        · have := len_with ⟨s.name, (fileF s.name m1.files).data ++ s.data, (fileF s.name m1.files).sure⟩ m1.files false
          simp at this
          omega
        · have := size_with ⟨s.name, (fileF s.name m1.files).data ++ s.data, (fileF s.name m1.files).sure⟩ m1.files false
          simp at this
          have h1 := hfi.1
          omega
        · rcases mem_with _ g _ _ hg with rfl | h'
          · show (fileF s.name m1.files).sure ≤ ((fileF s.name m1.files).data ++ s.data).length
            have h2 := hfi.2
            rw [List.length_append]
            omega
          · exact hsu g h'
    split
    · exact hO
    · rename_i hsome
      obtain ⟨f, hlo⟩ : ∃ f, lookF s.name m1.files = some f := by
        cases hx : lookF s.name m1.files with
        | none => rw [hx] at hsome; exact absurd rfl hsome
        | some f => exact ⟨f, rfl⟩
      have hfe : fileF s.name m1.files = f := fileF_some _ _ _ hlo
      have hsl := size_look s.name m1.files f hlo
      have hfs := hsu f (look_mem _ _ _ hlo)
      have hlw := len_without s.name m1.files
      rw [hfe]
      split
      · refine key _ ?_ ?_ fun g hg => ?_
        · have := len_with ⟨s.name, f.data, f.data.length⟩ m1.files false
          simp at this
          omega
        · have := size_with ⟨s.name, f.data, f.data.length⟩ m1.files false
          simp at this
          omega
        · rcases mem_with _ g _ _ hg with rfl | h'
          · exact Nat.le_refl _
          · exact hsu g h'
      split
      · refine key _ ?_ ?_ fun g hg => ?_
        · have := len_with ⟨s.to, f.data, f.sure⟩ (withoutF s.name m1.files) false
          simp at this
          omega
        · have := size_with ⟨s.to, f.data, f.sure⟩ (withoutF s.name m1.files) false
          have h2 := size_without s.to (withoutF s.name m1.files)
          simp at this
          omega
        · rcases mem_with _ g _ _ hg with rfl | h'
          · exact hfs
          · exact hsu g (mem_without _ _ _ h')
      · refine key _ (by omega) (by omega) fun g hg => hsu g (mem_without _ _ _ hg)
  · exact begin_ok h

end Go.Proofs.Ytikghnbhbehepaa
