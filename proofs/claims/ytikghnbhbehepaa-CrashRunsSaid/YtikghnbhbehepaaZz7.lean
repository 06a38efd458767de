/-
  The reference's disk: Append to a file that is there. Made by wip/tools/mkk.py.
-/
import Derived.Test.YtikghnbhbehepaaZz6
namespace Go.Proofs.Ytikghnbhbehepaa
open Go.RowKit
set_option linter.unusedVariables false
set_option linter.unusedSimpArgs false

set_option maxRecDepth 100000 in
set_option maxHeartbeats 2000000 in
theorem rdo_full2 (S : Nat → Prop) (p : Nat) (m : Dk) (s : Sp) (A : Option Addr) (n c : Nat) (W : World) (h : RD W S p m) (hG : GoodD m) (hcl : m.calls ≤ 1000000) (hlf : m.left < 18446744073709551616) (hb : (beginD m).1 = true)
    (hl : s.name.length ≤ 10000) (hn : targetB s.name = true) (hK : s.kind = 1) (hlo : (lookF s.name m.files).isSome = true) (hcap : 0 ≤ m.cap ∧ m.cap < 9223372036854775808) (hd : n = s.data.length) (hfu : m.cap - sizeF m.files < (s.data.length : Int)) :
    Calls Try.prog 16 #[.pointer (some ⟨p, 0, none⟩), spV s A n c] W (DoPost S p (doD m s) W) := by
  have HE := Lib.hid ((do_call m s (by unfold isCall; rw [hK]; rfl) hb).trans (call_full _ s hn hK (by rw [(begin_same m hb).1, hlo]; rfl) (by rw [(begin_same m hb).1, (begin_same m hb).2]; exact hfu)))
  have HB := begun_any S p m s.kind s A n c W h hG hcl hlf
  rw [hb] at HB
  have hmf := (begin_same m hb).1
  have hmc := (begin_same m hb).2
  obtain ⟨m1, hm1⟩ : ∃ m1, (beginD m).2 = m1 := ⟨_, rfl⟩
  rw [hm1] at HB hmf hmc HE
  rw [← hmf] at hlo
  have hfl1 : m1.files.length ≤ 2000 := by rw [hmf]; exact hG.1
  have hsz1 : sizeF m1.files ≤ 100000 := by rw [hmf]; exact hG.2.1
  unfold spV
  rw [hK] at HB ⊢
  have hltp : p < W.heap.size := by
    obtain ⟨A1, n1, c1, hB, _⟩ := h
    exact hB.lt
  have hSW : ∀ k, S k → k < W.heap.size := by
    obtain ⟨A1, n1, c1, _, _, _, h4⟩ := h
    exact h4
  have HSW := Lib.hid hSW
  have HHD := Lib.hid (And.intro hd (And.intro hcap (And.intro hfu (And.intro hmf hmc))))
  clear hSW hb h hmf hm1 hd hcap hfu hmc
  go_enter Try.func16, Try.ntmps16
  go_wp2_with fail
  refine HB.mono ?_
  rintro e W1 ⟨rfl, hr⟩
  have b0 : W1.cell? ⟨W.heap.size, 0, none⟩ = some (.int .i64 1) := hr.box.cell 0
  have b1 : W1.cell? ⟨W.heap.size, 1, none⟩ = some (.string ⟨s.name.toArray⟩) := hr.box.cell 1
  have b2 : W1.cell? ⟨W.heap.size, 2, none⟩ = some (.string ⟨s.to.toArray⟩) := hr.box.cell 2
  have hT := refTarget_any ⟨s.name.toArray⟩ (by simpa [ByteArray.size] using hl) W1
  simp only [List.toList_toArray] at hT
  rw [hn] at hT
  obtain ⟨A1, n1, c1, hB1, hF1, hSp, hSo⟩ := hr.rd
  have hfz := hB1.frozen
  have e0 : W1.cell? ⟨p, 0, none⟩ = some (.slice A1 n1 c1) := hB1.cell 0
  have hn1 : n1 ≤ 2000 := by have := hF1.1; omega
  have hFi := fun q => find_any A1 n1 c1 m1.files ⟨s.name.toArray⟩ S (W1.drewN q) (hF1.turn ((Turn.refl S W1).drewN q)) (by omega)
  simp only [List.toList_toArray] at hFi
  have HF1 := Lib.hid hF1
  have HB1 := Lib.hid hB1
  have HX := Lib.hid hr
  obtain ⟨j, f, hfj, hgj, hfl⟩ : ∃ (j : Nat) (f : Fl), findN s.name m1.files 0 = (j : Int) ∧ m1.files[j]? = some f ∧ lookF s.name m1.files = some f := by
    rcases findN_spec s.name m1.files 0 with ⟨_, h2⟩ | ⟨j, f, h1, h2, h3⟩
    · rw [h2] at hlo; cases hlo
    · exact ⟨j, f, by rw [h1]; simp, h2, h3⟩
  rw [hfj] at hFi
  clear HB hr hB1 hF1 hSp hSo
  go_wp2_with fail
  refine hT.mono ?_
  rintro e W2 ⟨rfl, rfl⟩
  clear hT
  go_wp2_with fail
  go_quiet ((go_at_call 32; exact Calls.quiet_of_same (hFi _)))
  have HX2 : Hid (Begun W (W2.drewN nq) S p m1 1 s A n c ∧ Blk (W2.drewN nq) p 40 (dkL m1 A1 n1 c1) ∧ Fls (W2.drewN nq) S A1 n1 m1.files) := Lib.hid ⟨HX.out.drewN nq, HB1.out.drewN nq, HF1.out.turn ((Turn.refl S W2).drewN nq)⟩
  have hTw : Turn (fun _ => False) W2 (W2.drewN nq) := (Turn.refl _ _).drewN nq
  revert HX2 hTw
  generalize W2.drewN nq = w3
  intro HX2 hTw
  clear b0 b1 b2 e0 hfz HX hFi HF1 HB1
  have b0 : w3.cell? ⟨W.heap.size, 0, none⟩ = some (.int .i64 1) := HX2.out.1.box.cell 0
  have b1 : w3.cell? ⟨W.heap.size, 1, none⟩ = some (.string ⟨s.name.toArray⟩) := HX2.out.1.box.cell 1
  have b2 : w3.cell? ⟨W.heap.size, 2, none⟩ = some (.string ⟨s.to.toArray⟩) := HX2.out.1.box.cell 2
  have b3 : w3.cell? ⟨W.heap.size, 3, none⟩ = some (.slice A n c) := HX2.out.1.box.cell 3
  have e0 : w3.cell? ⟨p, 0, none⟩ = some (.slice A1 n1 c1) := HX2.out.2.1.cell 0
  have e1 : w3.cell? ⟨p, 1, none⟩ = some (.int .i64 m1.cap) := HX2.out.2.1.cell 1
  have hfz := HX2.out.2.1.frozen
  have hlt := HX2.out.1.box.lt
  have hlt2 := HX2.out.2.1.lt
  have d1 : decide (((j : Nat) : Int) ≥ 0) = true := decide_eq_true (by omega)
  have d0 : decide ((0 : Int) ≤ ((j : Nat) : Int)) = true := decide_eq_true (by omega)
  have d9 : decide (((j : Nat) : Int) < 0) = false := decide_eq_false (by omega)
  have hjn : j < n1 := by
    have h1 := HX2.out.2.2.1
    have h2 := (List.getElem?_eq_some_iff.1 hgj).1
    omega
  have hji : ((j : Nat) : Int) < ((n1 : Nat) : Int) := by omega
  obtain ⟨b, o, rfl, hbS, hfa⟩ := HX2.out.2.2.2 (by omega)
  obtain ⟨y0, y1, y2, q0, q1, q2, hfv⟩ := hfa j f hgj
  have hbw : b < w3.heap.size := block_lt_of_cell q0
  obtain ⟨A3, n3, c3, rfl, rfl, rfl, hby3, hnil3, hln3, hmx3⟩ := fl_parts hfv
  have hfnm : f.name = s.name := by
    have := List.find?_some hfl
    simpa using this
  have HF3 := Lib.hid (And.intro hby3 (And.intro hnil3 (And.intro hln3 hmx3)))
  clear hby3 hnil3 hln3 hmx3 hfv hfa
  rw [hfnm] at q0
  obtain ⟨hd, hcap, hfu, hmf2, hmc⟩ := HHD.out
  obtain ⟨C, hC⟩ : ∃ C : Int, m1.cap = C := ⟨_, rfl⟩
  obtain ⟨Z, hZ⟩ : ∃ Z : Nat, sizeF m1.files = Z := ⟨_, rfl⟩
  have e7 : IntKind.i64.wrap (C - (Z : Int)) = C - (Z : Int) := IntWalk.i64_in _ ⟨by omega, by omega⟩
  have hSz := fun q => size_any _ n1 c1 m1.files S ((w3.alloc (.cells #[.string ⟨s.name.toArray⟩, .slice A3 n3 c3, .int .i64 ((f.sure : Nat) : Int)] 54)).drewN q) (HX2.out.2.2.turn (((Turn.refl S w3).alloc _).drewN q)) (by omega) (by omega)
  rw [hZ] at hSz
  rw [hC] at e1 hmc
  have HC := Lib.hid hC
  have HZ := Lib.hid hZ
  have d3 : decide (C - (Z : Int) < (n : Int)) = true := decide_eq_true (by rw [hmc, ← hZ, hmf2, hd]; exact hfu)
  have d4 : decide ((n : Int) > C - (Z : Int)) = true := d3
  clear hZ hC hmc hcap hfu hsz1 hd hmf2 hfj hgj hfl hlo hjn
  go_wp2_with fail
  go_quiet ((go_at_call 33; exact Calls.quiet_of_same (hSz _)))
  clear e7 hSz
  have hTu : Turn (fun k => k = p) w3 ((w3.alloc (.cells #[.string ⟨s.name.toArray⟩, .slice A3 n3 c3, .int .i64 ((f.sure : Nat) : Int)] 54)).drewN nq) := ((Turn.refl (fun k => k = p) w3).alloc _).drewN nq
  have hR4 : RD ((w3.alloc (.cells #[.string ⟨s.name.toArray⟩, .slice A3 n3 c3, .int .i64 ((f.sure : Nat) : Int)] 54)).drewN nq) S p m1 := (HX2.out.1.rd.turn (S' := fun _ => False) ((Turn.refl (fun _ => False) w3).alloc _) (fun k hk => hk.elim) (fun hk => hk)).drewN nq
  have HR4 := Lib.hid (And.intro hTu hR4)
  clear hTu hR4
  go_wp2_with fail
  go_ret
  rw [HE.out]
  exact ⟨rfl, HR4.out.2, HX2.out.1.turn.trans HR4.out.1⟩

set_option maxRecDepth 100000 in
set_option maxHeartbeats 4000000 in
theorem rdo_app2 (S : Nat → Prop) (p : Nat) (m : Dk) (s : Sp) (A : Option Addr) (n c : Nat) (W : World) (h : RD W S p m) (hG : GoodD m) (hcl : m.calls ≤ 1000000) (hlf : m.left < 18446744073709551616) (hb : (beginD m).1 = true)
    (hl : s.name.length ≤ 10000) (hn : targetB s.name = true) (hK : s.kind = 1) (hlo : (lookF s.name m.files).isSome = true) (hcap : 0 ≤ m.cap ∧ m.cap < 9223372036854775808) (hda : BytS W (fun k => k = p) A n s.data) (hnil : A = none → n = 0 ∧ c = 0) (hnd : n ≤ 100000) (hfu : ¬ m.cap - sizeF m.files < (s.data.length : Int)) :
    Calls Try.prog 16 #[.pointer (some ⟨p, 0, none⟩), spV s A n c] W (DoPost S p (doD m s) W) := by
  obtain ⟨iu, hiu, hu0, hu1, hu2⟩ := info_parts Try.info5
  have HE := Lib.hid ((do_call m s (by unfold isCall; rw [hK]; rfl) hb).trans (call_app _ s hn hK (by rw [(begin_same m hb).1, hlo]; rfl) (by rw [(begin_same m hb).1, (begin_same m hb).2]; omega)))
  have HB := begun_any S p m s.kind s A n c W h hG hcl hlf
  rw [hb] at HB
  have hmf := (begin_same m hb).1
  have hmc := (begin_same m hb).2
  obtain ⟨m1, hm1⟩ : ∃ m1, (beginD m).2 = m1 := ⟨_, rfl⟩
  rw [hm1] at HB hmf hmc HE
  rw [← hmf] at hlo
  have hfl1 : m1.files.length ≤ 2000 := by rw [hmf]; exact hG.1
  have hsz1 : sizeF m1.files ≤ 100000 := by rw [hmf]; exact hG.2.1
  unfold spV
  rw [hK] at HB ⊢
  have hltp : p < W.heap.size := by
    obtain ⟨A1, n1, c1, hB, _⟩ := h
    exact hB.lt
  have hSW : ∀ k, S k → k < W.heap.size := by
    obtain ⟨A1, n1, c1, _, _, _, h4⟩ := h
    exact h4
  have HSW := Lib.hid hSW
  have HHD := Lib.hid (And.intro hcap (And.intro hfu (And.intro hmf (And.intro hmc (And.intro hda (And.intro hnil hnd))))))
  clear hSW hb h hmf hm1 hcap hfu hmc hda hnil hnd
  go_enter Try.func16, Try.ntmps16
  go_wp2_with fail
  refine HB.mono ?_
  rintro e W1 ⟨rfl, hr⟩
  have b0 : W1.cell? ⟨W.heap.size, 0, none⟩ = some (.int .i64 1) := hr.box.cell 0
  have b1 : W1.cell? ⟨W.heap.size, 1, none⟩ = some (.string ⟨s.name.toArray⟩) := hr.box.cell 1
  have b2 : W1.cell? ⟨W.heap.size, 2, none⟩ = some (.string ⟨s.to.toArray⟩) := hr.box.cell 2
  have hT := refTarget_any ⟨s.name.toArray⟩ (by simpa [ByteArray.size] using hl) W1
  simp only [List.toList_toArray] at hT
  rw [hn] at hT
  obtain ⟨A1, n1, c1, hB1, hF1, hSp, hSo⟩ := hr.rd
  have hfz := hB1.frozen
  have e0 : W1.cell? ⟨p, 0, none⟩ = some (.slice A1 n1 c1) := hB1.cell 0
  have hn1 : n1 ≤ 2000 := by have := hF1.1; omega
  have hFi := fun q => find_any A1 n1 c1 m1.files ⟨s.name.toArray⟩ S (W1.drewN q) (hF1.turn ((Turn.refl S W1).drewN q)) (by omega)
  simp only [List.toList_toArray] at hFi
  have HF1 := Lib.hid hF1
  have HB1 := Lib.hid hB1
  have HX := Lib.hid hr
  obtain ⟨j, f, hfj, hgj, hfl⟩ : ∃ (j : Nat) (f : Fl), findN s.name m1.files 0 = (j : Int) ∧ m1.files[j]? = some f ∧ lookF s.name m1.files = some f := by
    rcases findN_spec s.name m1.files 0 with ⟨_, h2⟩ | ⟨j, f, h1, h2, h3⟩
    · rw [h2] at hlo; cases hlo
    · exact ⟨j, f, by rw [h1]; simp, h2, h3⟩
  rw [hfj] at hFi
  clear HB hr hB1 hF1 hSp hSo
  go_wp2_with fail
  refine hT.mono ?_
  rintro e W2 ⟨rfl, rfl⟩
  clear hT
  go_wp2_with fail
  go_quiet ((go_at_call 32; exact Calls.quiet_of_same (hFi _)))
  have HX2 : Hid (Begun W (W2.drewN nq) S p m1 1 s A n c ∧ Blk (W2.drewN nq) p 40 (dkL m1 A1 n1 c1) ∧ Fls (W2.drewN nq) S A1 n1 m1.files) := Lib.hid ⟨HX.out.drewN nq, HB1.out.drewN nq, HF1.out.turn ((Turn.refl S W2).drewN nq)⟩
  have hTw : Turn (fun _ => False) W2 (W2.drewN nq) := (Turn.refl _ _).drewN nq
  revert HX2 hTw
  generalize W2.drewN nq = w3
  intro HX2 hTw
  clear b0 b1 b2 e0 hfz HX hFi HF1 HB1
  have b0 : w3.cell? ⟨W.heap.size, 0, none⟩ = some (.int .i64 1) := HX2.out.1.box.cell 0
  have b1 : w3.cell? ⟨W.heap.size, 1, none⟩ = some (.string ⟨s.name.toArray⟩) := HX2.out.1.box.cell 1
  have b2 : w3.cell? ⟨W.heap.size, 2, none⟩ = some (.string ⟨s.to.toArray⟩) := HX2.out.1.box.cell 2
  have b3 : w3.cell? ⟨W.heap.size, 3, none⟩ = some (.slice A n c) := HX2.out.1.box.cell 3
  have e0 : w3.cell? ⟨p, 0, none⟩ = some (.slice A1 n1 c1) := HX2.out.2.1.cell 0
  have e1 : w3.cell? ⟨p, 1, none⟩ = some (.int .i64 m1.cap) := HX2.out.2.1.cell 1
  have hfz := HX2.out.2.1.frozen
  have hlt := HX2.out.1.box.lt
  have hlt2 := HX2.out.2.1.lt
  have d1 : decide (((j : Nat) : Int) ≥ 0) = true := decide_eq_true (by omega)
  have d0 : decide ((0 : Int) ≤ ((j : Nat) : Int)) = true := decide_eq_true (by omega)
  have d9 : decide (((j : Nat) : Int) < 0) = false := decide_eq_false (by omega)
  have hjn : j < n1 := by
    have h1 := HX2.out.2.2.1
    have h2 := (List.getElem?_eq_some_iff.1 hgj).1
    omega
  have hji : ((j : Nat) : Int) < ((n1 : Nat) : Int) := by omega
  obtain ⟨b, o, rfl, hbS, hfa⟩ := HX2.out.2.2.2 (by omega)
  obtain ⟨y0, y1, y2, q0, q1, q2, hfv⟩ := hfa j f hgj
  have hbw : b < w3.heap.size := block_lt_of_cell q0
  obtain ⟨A3, n3, c3, rfl, rfl, rfl, hby3, hnil3, hln3, hmx3⟩ := fl_parts hfv
  have hfnm : f.name = s.name := by
    have := List.find?_some hfl
    simpa using this
  have HF3 := Lib.hid (And.intro hby3 (And.intro hnil3 (And.intro hln3 hmx3)))
  clear hby3 hnil3 hln3 hmx3 hfv hfa
  rw [hfnm] at q0
  obtain ⟨hcap, hfu, hmf2, hmc, hda, hnil, hnd⟩ := HHD.out
  obtain ⟨C, hC⟩ : ∃ C : Int, m1.cap = C := ⟨_, rfl⟩
  obtain ⟨Z, hZ⟩ : ∃ Z : Nat, sizeF m1.files = Z := ⟨_, rfl⟩
  have e7 : IntKind.i64.wrap (C - (Z : Int)) = C - (Z : Int) := IntWalk.i64_in _ ⟨by omega, by omega⟩
  have hSz := fun q => size_any _ n1 c1 m1.files S ((w3.alloc (.cells #[.string ⟨s.name.toArray⟩, .slice A3 n3 c3, .int .i64 ((f.sure : Nat) : Int)] 54)).drewN q) (HX2.out.2.2.turn (((Turn.refl S w3).alloc _).drewN q)) (by omega) (by omega)
  rw [hZ] at hSz
  rw [hC] at e1 hmc
  have HC := Lib.hid hC
  have HZ := Lib.hid hZ
  have d3 : decide (C - (Z : Int) < (n : Int)) = false := decide_eq_false (by rw [hmc, ← hZ, hmf2, ← hda.1]; omega)
  have d4 : decide ((n : Int) > C - (Z : Int)) = false := d3
  have HFL := Lib.hid hfl
  have hn3 : n3 ≤ 100000 := by
    have h1 := mem_size m1.files f (List.mem_of_getElem? hgj)
    have h2 := HF3.out.1.1
    omega
  have hnil3 := HF3.out.2.1
  clear hfj hgj hfl hlo hjn
  have hbyt3 : BytS w3 (fun k => k = p) A n s.data := hda.turn HX2.out.1.turn
  clear hZ hC hmc hcap hfu hsz1 hda hmf2
  go_wp2_with fail
  go_quiet ((go_at_call 33; exact Calls.quiet_of_same (hSz _)))
  clear e7 hSz
  have HBF : Hid (Byt ((w3.alloc (.cells #[.string ⟨s.name.toArray⟩, .slice A3 n3 c3, .int .i64 ((f.sure : Nat) : Int)] 54)).drewN nq) ((w3.alloc (.cells #[.string ⟨s.name.toArray⟩, .slice A3 n3 c3, .int .i64 ((f.sure : Nat) : Int)] 54)).drewN nq).heap.size A3 n3 f.data) := Lib.hid (HF3.out.1.turn (((Turn.refl S w3).alloc (.cells #[.string ⟨s.name.toArray⟩, .slice A3 n3 c3, .int .i64 ((f.sure : Nat) : Int)] 54)).drewN nq)).byt
  have HBY : Hid (Byt ((w3.alloc (.cells #[.string ⟨s.name.toArray⟩, .slice A3 n3 c3, .int .i64 ((f.sure : Nat) : Int)] 54)).drewN nq) ((w3.alloc (.cells #[.string ⟨s.name.toArray⟩, .slice A3 n3 c3, .int .i64 ((f.sure : Nat) : Int)] 54)).drewN nq).heap.size A n s.data) := Lib.hid (hbyt3.turn (((Turn.refl (fun k => k = p) w3).alloc (.cells #[.string ⟨s.name.toArray⟩, .slice A3 n3 c3, .int .i64 ((f.sure : Nat) : Int)] 54)).drewN nq)).byt
  clear hbyt3
  have HR4 : Hid (Turn (fun k => k = p) w3 ((w3.alloc (.cells #[.string ⟨s.name.toArray⟩, .slice A3 n3 c3, .int .i64 ((f.sure : Nat) : Int)] 54)).drewN nq) ∧ RD ((w3.alloc (.cells #[.string ⟨s.name.toArray⟩, .slice A3 n3 c3, .int .i64 ((f.sure : Nat) : Int)] 54)).drewN nq) S p m1 ∧ Blk ((w3.alloc (.cells #[.string ⟨s.name.toArray⟩, .slice A3 n3 c3, .int .i64 ((f.sure : Nat) : Int)] 54)).drewN nq) W.heap.size 46 (spL 1 s A n c) ∧ Blk ((w3.alloc (.cells #[.string ⟨s.name.toArray⟩, .slice A3 n3 c3, .int .i64 ((f.sure : Nat) : Int)] 54)).drewN nq) w3.heap.size 54 [.string ⟨s.name.toArray⟩, .slice A3 n3 c3, .int .i64 ((f.sure : Nat) : Int)] ∧ Below w3.heap.size w3 ((w3.alloc (.cells #[.string ⟨s.name.toArray⟩, .slice A3 n3 c3, .int .i64 ((f.sure : Nat) : Int)] 54)).drewN nq)) := Lib.hid ⟨((Turn.refl (fun k => k = p) w3).alloc _).drewN nq, (HX2.out.1.rd.turn (S' := fun _ => False) ((Turn.refl (fun _ => False) w3).alloc _) (fun k hk => hk.elim) (fun hk => hk)).drewN nq, (HX2.out.1.box.alloc _).drewN nq, (Blk.new w3 _ _ rfl).drewN nq, below_drewN ((Below.refl _ w3).alloc (Nat.le_refl _) _) nq⟩
  have HGG := Lib.hid hlt
  revert HR4 HBY HBF
  generalize (w3.alloc (.cells #[.string ⟨s.name.toArray⟩, .slice A3 n3 c3, .int .i64 ((f.sure : Nat) : Int)] 54)).drewN nq = w4
  intro HBF HBY HR4
  obtain ⟨g, hg⟩ : ∃ g, w3.heap.size = g := ⟨_, rfl⟩
  rw [hg] at HR4 HGG ⊢
  have HG := Lib.hid hg
  clear hg b0 b1 b2 b3 e0 e1 hfz hlt hlt2 d0 d1 d3 d4 q0 q1 q2 hji
  have b0 : w4.cell? ⟨W.heap.size, 0, none⟩ = some (.int .i64 1) := HR4.out.2.2.1.cell 0
  have b3 : w4.cell? ⟨W.heap.size, 3, none⟩ = some (.slice A n c) := HR4.out.2.2.1.cell 3
  have f1 : w4.cell? ⟨g, 1, none⟩ = some (.slice A3 n3 c3) := HR4.out.2.2.2.1.cell 1
  have hgw := HR4.out.2.2.2.1.lt
  go_wp2_with fail
  have hown4 : (w4.alloc (.cells #[] 5)).ownsRow w4.heap.size 5 1 (.slice (some ⟨w4.heap.size, 0, none⟩) 0 0) 0 [] := World.ownsRow_made w4 #[] 0 (Nat.le_refl _) (Nat.zero_le _) rfl
  have hb4 : Below w4.heap.size w4 (w4.alloc (.cells #[] 5)).drew := below_drew ((Below.refl _ w4).alloc (Nat.le_refl _) _)
  have hby4 := HBY.out
  have hbf4 := HBF.out
  have hgfz := HR4.out.2.2.2.1.frozen 1
  have hbx := HR4.out.2.2.1.lt
  have HBW := Lib.hid (And.intro hb4 hgw)
  go_cut [] from 108 to 115 (fun wx => FileAt w3 wx g S ⟨s.name, f.data ++ s.data, f.sure⟩)
  case first =>
    go_region_law (first
      | (refine step_append_byt rfl (.tmp 108) (.tmp 110) 44 rfl w4.heap.size 5 iu (.int .u8 0) Try.underlying44 hiu hu0 hu1 hu2 rfl _ 0 [] rfl (hown4.drew) w4.heap.size A3 n3 c3 f.data rfl (hbf4.below hb4) (fun h => (hnil3 h).2) (by omega) (by simp) ?_; intro v5 w5 hown5 hgr5; have hb5 : Below w4.heap.size w4 w5 := hb4.grown hgr5 (by simp) (fun q hq => (hown4.lt q hq).1); have y3 := (hb5.cell (p := ⟨W.heap.size, 3, none⟩) hbx).trans b3)
      | (refine step_append_byt rfl (.tmp 111) (.tmp 113) 44 rfl w4.heap.size 5 iu (.int .u8 0) Try.underlying44 hiu hu0 hu1 hu2 rfl v5 _ _ rfl hown5 w4.heap.size A n c s.data rfl (hby4.below hb5) (fun h => (hnil h).2) (by omega) hb5.size ?_; intro v6 w6 hown6 hgr6; obtain ⟨A6, c6, rfl, hq1, hq2, hq3⟩ := own_formk hown6; have hb6 : Below w4.heap.size w4 w6 := hb5.grown hgr6 hb5.size (fun q hq => (hown5.lt q hq).1); have y1 := (hb6.cell (p := ⟨g, 1, none⟩) hgw).trans f1; have yz := (hb6.frozen (p := ⟨g, 1, none⟩) hgw).trans hgfz))
    all_goals
      go_wp2_with fail
      go_meet
      exact fileAt_made HG.out HR4.out.2.2.2.2 HR4.out.2.2.2.1 hb6 (by simpa using hown6) (by simpa using hq1) (by simpa using hq2) hq3 (fun k hk => by have h1 := HSW.out k hk; have h2 := HGG.out; omega)
  case rest =>
    obtain ⟨A6, n6, c6, hbk, hfv, hbl⟩ := hcut
    have hbl3 : Below w3.heap.size w3 wc := by rw [HG.out]; exact hbl
    have hT3 : Turn (fun _ => False) w3 wc := (Turn.of_below hbl3)
    have hT4 : Turn S w3 wc := Turn.of_below hbl3
    have hRc : RD wc.drew S p m1 := (HX2.out.1.rd.turn hT3 (fun k hk => hk.elim) (fun hk => hk)).drewN 1
    have hBc : Blk wc p 40 (dkL m1 (some ⟨b, o, none⟩) n1 c1) := HX2.out.2.1.below hbl3 HX2.out.2.1.lt
    have hFc : Fls wc S (some ⟨b, o, none⟩) n1 m1.files := HX2.out.2.2.turn hT4
    have hWi := with_any (some ⟨b, o, none⟩) n1 c1 m1.files _ _ (fun k => S k ∨ wc.heap.size ≤ k) wc.drew ((hFc.turn ((Turn.refl S wc).drewN 1)).more fun k hk hl => by
      rcases hk with h | h
      · exact h
      · exact absurd h (Nat.not_le.2 hl)) (hfv.turn ((Turn.refl _ wc).drewN 1)) (fun k hk => .inr hk) (by omega)
    obtain ⟨L, hL⟩ : ∃ L, withF ⟨s.name, f.data ++ s.data, f.sure⟩ false m1.files = L := ⟨_, rfl⟩
    rw [hL] at hWi
    have HE2 : Hid (doD m s = (0, withFs m1 L)) := Lib.hid (by rw [HE.out, fileF_some _ _ f HFL.out, ← hL])
    clear hL
    have e0 : wc.cell? ⟨p, 0, none⟩ = some (.slice (some ⟨b, o, none⟩) n1 c1) := hBc.cell 0
    have hfz0 : wc.frozen? ⟨p, 0, none⟩ = false := hBc.frozen 0
    have hpw := hBc.lt
    have g0 : wc.cell? ⟨g, 0, none⟩ = some (.string ⟨s.name.toArray⟩) := hbk.cell 0
    have g1 : wc.cell? ⟨g, 1, none⟩ = some (.slice A6 n6 c6) := hbk.cell 1
    have g2 : wc.cell? ⟨g, 2, none⟩ = some (.int .i64 ((f.sure : Nat) : Int)) := hbk.cell 2
    have HT := Lib.hid ((HX2.out.1.turn.trans (hT3.mono (fun k hk => hk.elim) : Turn (fun k => k = p) w3 wc)))
    have HRc := Lib.hid hRc
    clear hbk hfv hbl hbl3 hT3 hT4 hRc hBc hFc
    go_wp2_with fail
    go_region_with ((go_at_call 34; refine hWi.mono ?_; rintro e w7 ⟨v7, xs7, rfl, hown7, hx7, hb7⟩; obtain ⟨A7, c7, rfl, hr1, hr2, hr3⟩ := own_formk hown7; have y0 := (hb7.cell (p := ⟨p, 0, none⟩) hpw).trans e0; have yz := (hb7.frozen (p := ⟨p, 0, none⟩) hpw).trans hfz0))
    all_goals
      go_wp2_with fail
      go_ret
      rw [HE2.out]
      have hP := rd_put HRc.out hown7 (hx7.less fun k hk => .inl hk) hb7
      exact ⟨rfl, hP.1, (HT.out.drewN 1).trans hP.2⟩

end Go.Proofs.Ytikghnbhbehepaa

/-
  The reference's disk: Sync, Remove. Made by wip/tools/mkl.py.
-/
namespace Go.Proofs.Ytikghnbhbehepaa
open Go.RowKit
set_option linter.unusedVariables false
set_option linter.unusedSimpArgs false

theorem call_sync (m : Dk) (s : Sp) (f : Fl) (hn : targetB s.name = true) (hK : s.kind = 2) (hlo : lookF s.name m.files = some f) :
    callD m s = (0, withFs m (withF ⟨s.name, f.data, f.data.length⟩ false m.files)) := by
  unfold callD fileF
  rw [hn, hK, hlo]
  simp
theorem call_rem (m : Dk) (s : Sp) (f : Fl) (hn : targetB s.name = true) (hK : s.kind = 4) (hlo : lookF s.name m.files = some f) :
    callD m s = (0, withFs m (withoutF s.name m.files)) := by
  unfold callD
  rw [hn, hK, hlo]
  simp
theorem call_ren (m : Dk) (s : Sp) (f : Fl) (hn : targetB s.name = true) (htt : targetB s.to = true) (hK : s.kind = 3) (hlo : lookF s.name m.files = some f) :
    callD m s = (0, withFs m (withF ⟨s.to, f.data, f.sure⟩ false (withoutF s.name m.files))) := by
  unfold callD fileF
  rw [hn, htt, hK, hlo]
  simp

set_option maxRecDepth 100000 in
set_option maxHeartbeats 4000000 in
theorem rdo_sync (S : Nat → Prop) (p : Nat) (m : Dk) (s : Sp) (A : Option Addr) (n c : Nat) (W : World) (h : RD W S p m) (hG : GoodD m) (hcl : m.calls ≤ 1000000) (hlf : m.left < 18446744073709551616) (hb : (beginD m).1 = true)
    (hl : s.name.length ≤ 10000) (hn : targetB s.name = true) (hK : s.kind = 2) (f0 : Fl) (hlo0 : lookF s.name m.files = some f0) :
    Calls Try.prog 16 #[.pointer (some ⟨p, 0, none⟩), spV s A n c] W (DoPost S p (doD m s) W) := by
  have hlo : (lookF s.name m.files).isSome = true := by rw [hlo0]; rfl
  have HE := Lib.hid ((do_call m s (by unfold isCall; rw [hK]; rfl) hb).trans (call_sync _ s f0 hn hK (by rw [(begin_same m hb).1]; exact hlo0)))
  have HB := begun_any S p m s.kind s A n c W h hG hcl hlf
  rw [hb] at HB
  have hmf := (begin_same m hb).1
  have hmc := (begin_same m hb).2
  obtain ⟨m1, hm1⟩ : ∃ m1, (beginD m).2 = m1 := ⟨_, rfl⟩
  rw [hm1] at HB hmf hmc HE
  rw [← hmf] at hlo
  have hfl1 : m1.files.length ≤ 2000 := by rw [hmf]; exact hG.1
  have hsz1 : sizeF m1.files ≤ 100000 := by rw [hmf]; exact hG.2.1
  unfold spV
  rw [hK] at HB ⊢
  have hltp : p < W.heap.size := by
    obtain ⟨A1, n1, c1, hB, _⟩ := h
    exact hB.lt
  have hSW : ∀ k, S k → k < W.heap.size := by
    obtain ⟨A1, n1, c1, _, _, _, h4⟩ := h
    exact h4
  have HSW := Lib.hid hSW
  have hmf3 := hmf
  clear hSW hb h hmf hm1 hmc
  go_enter Try.func16, Try.ntmps16
  go_wp2_with fail
  refine HB.mono ?_
  rintro e W1 ⟨rfl, hr⟩
  have b0 : W1.cell? ⟨W.heap.size, 0, none⟩ = some (.int .i64 2) := hr.box.cell 0
  have b1 : W1.cell? ⟨W.heap.size, 1, none⟩ = some (.string ⟨s.name.toArray⟩) := hr.box.cell 1
  have b2 : W1.cell? ⟨W.heap.size, 2, none⟩ = some (.string ⟨s.to.toArray⟩) := hr.box.cell 2
  have hT := refTarget_any ⟨s.name.toArray⟩ (by simpa [ByteArray.size] using hl) W1
  simp only [List.toList_toArray] at hT
  rw [hn] at hT
  obtain ⟨A1, n1, c1, hB1, hF1, hSp, hSo⟩ := hr.rd
  have hfz := hB1.frozen
  have e0 : W1.cell? ⟨p, 0, none⟩ = some (.slice A1 n1 c1) := hB1.cell 0
  have hn1 : n1 ≤ 2000 := by have := hF1.1; omega
  have hFi := fun q => find_any A1 n1 c1 m1.files ⟨s.name.toArray⟩ S (W1.drewN q) (hF1.turn ((Turn.refl S W1).drewN q)) (by omega)
  simp only [List.toList_toArray] at hFi
  have HF1 := Lib.hid hF1
  have HB1 := Lib.hid hB1
  have HX := Lib.hid hr
  obtain ⟨j, f, hfj, hgj, hfl⟩ : ∃ (j : Nat) (f : Fl), findN s.name m1.files 0 = (j : Int) ∧ m1.files[j]? = some f ∧ lookF s.name m1.files = some f := by
    rcases findN_spec s.name m1.files 0 with ⟨_, h2⟩ | ⟨j, f, h1, h2, h3⟩
    · rw [h2] at hlo; cases hlo
    · exact ⟨j, f, by rw [h1]; simp, h2, h3⟩
  rw [hfj] at hFi
  clear HB hr hB1 hF1 hSp hSo
  go_wp2_with fail
  refine hT.mono ?_
  rintro e W2 ⟨rfl, rfl⟩
  clear hT
  go_wp2_with fail
  go_quiet ((go_at_call 32; exact Calls.quiet_of_same (hFi _)))
  have HX2 : Hid (Begun W (W2.drewN nq) S p m1 2 s A n c ∧ Blk (W2.drewN nq) p 40 (dkL m1 A1 n1 c1) ∧ Fls (W2.drewN nq) S A1 n1 m1.files) := Lib.hid ⟨HX.out.drewN nq, HB1.out.drewN nq, HF1.out.turn ((Turn.refl S W2).drewN nq)⟩
  have hTw : Turn (fun _ => False) W2 (W2.drewN nq) := (Turn.refl _ _).drewN nq
  revert HX2 hTw
  generalize W2.drewN nq = w3
  intro HX2 hTw
  clear b0 b1 b2 e0 hfz HX hFi HF1 HB1
  have b0 : w3.cell? ⟨W.heap.size, 0, none⟩ = some (.int .i64 2) := HX2.out.1.box.cell 0
  have b1 : w3.cell? ⟨W.heap.size, 1, none⟩ = some (.string ⟨s.name.toArray⟩) := HX2.out.1.box.cell 1
  have b2 : w3.cell? ⟨W.heap.size, 2, none⟩ = some (.string ⟨s.to.toArray⟩) := HX2.out.1.box.cell 2
  have b3 : w3.cell? ⟨W.heap.size, 3, none⟩ = some (.slice A n c) := HX2.out.1.box.cell 3
  have e0 : w3.cell? ⟨p, 0, none⟩ = some (.slice A1 n1 c1) := HX2.out.2.1.cell 0
  have e1 : w3.cell? ⟨p, 1, none⟩ = some (.int .i64 m1.cap) := HX2.out.2.1.cell 1
  have hfz := HX2.out.2.1.frozen
  have hlt := HX2.out.1.box.lt
  have hlt2 := HX2.out.2.1.lt
  have d1 : decide (((j : Nat) : Int) ≥ 0) = true := decide_eq_true (by omega)
  have d0 : decide ((0 : Int) ≤ ((j : Nat) : Int)) = true := decide_eq_true (by omega)
  have d9 : decide (((j : Nat) : Int) < 0) = false := decide_eq_false (by omega)
  have hjn : j < n1 := by
    have h1 := HX2.out.2.2.1
    have h2 := (List.getElem?_eq_some_iff.1 hgj).1
    omega
  have hji : ((j : Nat) : Int) < ((n1 : Nat) : Int) := by omega
  obtain ⟨b, o, rfl, hbS, hfa⟩ := HX2.out.2.2.2 (by omega)
  obtain ⟨y0, y1, y2, q0, q1, q2, hfv⟩ := hfa j f hgj
  have hbw : b < w3.heap.size := block_lt_of_cell q0
  obtain ⟨A3, n3, c3, rfl, rfl, rfl, hby3, hnil3, hln3, hmx3⟩ := fl_parts hfv
  have hfnm : f.name = s.name := by
    have := List.find?_some hfl
    simpa using this
  have HF3 := Lib.hid (And.intro hby3 (And.intro hnil3 (And.intro hln3 hmx3)))
  clear hby3 hnil3 hln3 hmx3 hfv hfa
  rw [hfnm] at q0
  have hff : f0 = f := by
    rw [hmf3, hlo0] at hfl
    injection hfl
  have HE2 : Hid (doD m s = (0, withFs m1 (withF ⟨s.name, f.data, f.data.length⟩ false m1.files))) := Lib.hid (by rw [← hff]; exact HE.out)
  have hcut : FileAt w3 (w3.alloc (.cells #[.string ⟨s.name.toArray⟩, .slice A3 n3 c3, .int .i64 ((n3 : Nat) : Int)] 54)) w3.heap.size S ⟨s.name, f.data, f.data.length⟩ := by
    obtain ⟨h1, h2, h3, h4⟩ := HF3.out
    refine ⟨A3, n3, c3, ?_, ⟨A3, n3, c3, rfl, ?_, h2, h3, h4⟩, (Below.refl _ w3).alloc (Nat.le_refl _) _⟩
    · show Blk _ _ _ [_, _, .int .i64 ((f.data.length : Nat) : Int)]
      rw [h1.1]
      exact Blk.new w3 _ _ rfl
    · exact (h1.turn ((Turn.refl S w3).alloc _)).more fun k hk hl => by
        rcases hk with h | h
        · exact h
        · exact absurd h (Nat.not_le.2 hl)
  have HCUT := Lib.hid hcut
  clear hcut hfj hgj hfl hlo hlo0 hjn hff hmf3 HE
  go_wp2_with fail
  obtain ⟨g, hg⟩ : ∃ g, w3.heap.size = g := ⟨_, rfl⟩
  have HG := Lib.hid hg
  rw [hg] at HCUT ⊢
  revert HCUT
  generalize w3.alloc (.cells #[.string ⟨s.name.toArray⟩, .slice A3 n3 c3, .int .i64 ((n3 : Nat) : Int)] 54) = wc
  intro HCUT
  clear hg b0 b1 b2 b3 e0 e1 hfz hlt hlt2 d0 d1 d9 q0 q1 q2 hji
  obtain ⟨A6, n6, c6, hbk, hfv, hbl⟩ := HCUT.out
  have hbl3 : Below w3.heap.size w3 wc := by rw [HG.out]; exact hbl
  have hT3 : Turn (fun _ => False) w3 wc := (Turn.of_below hbl3)
  have hT4 : Turn S w3 wc := Turn.of_below hbl3
  have hRc : RD wc.drew S p m1 := (HX2.out.1.rd.turn hT3 (fun k hk => hk.elim) (fun hk => hk)).drewN 1
  have hBc : Blk wc p 40 (dkL m1 (some ⟨b, o, none⟩) n1 c1) := HX2.out.2.1.below hbl3 HX2.out.2.1.lt
  have hFc : Fls wc S (some ⟨b, o, none⟩) n1 m1.files := HX2.out.2.2.turn hT4
  have hWi := with_any (some ⟨b, o, none⟩) n1 c1 m1.files _ _ (fun k => S k ∨ wc.heap.size ≤ k) wc.drew ((hFc.turn ((Turn.refl S wc).drewN 1)).more fun k hk hl => by
    rcases hk with h | h
    · exact h
    · exact absurd h (Nat.not_le.2 hl)) (hfv.turn ((Turn.refl _ wc).drewN 1)) (fun k hk => .inr hk) (by omega)
  obtain ⟨L, hL⟩ : ∃ L, withF ⟨s.name, f.data, f.data.length⟩ false m1.files = L := ⟨_, rfl⟩
  rw [hL] at hWi HE2
  clear hL
  have e0 : wc.cell? ⟨p, 0, none⟩ = some (.slice (some ⟨b, o, none⟩) n1 c1) := hBc.cell 0
  have hfz0 : wc.frozen? ⟨p, 0, none⟩ = false := hBc.frozen 0
  have hpw := hBc.lt
  have g0 : wc.cell? ⟨g, 0, none⟩ = some (.string ⟨s.name.toArray⟩) := hbk.cell 0
  have g1 : wc.cell? ⟨g, 1, none⟩ = some (.slice A6 n6 c6) := hbk.cell 1
  have g2 : wc.cell? ⟨g, 2, none⟩ = some (.int .i64 ((f.data.length : Nat) : Int)) := hbk.cell 2
  have HT := Lib.hid ((HX2.out.1.turn.trans (hT3.mono (fun k hk => hk.elim) : Turn (fun k => k = p) w3 wc)))
  have HRc := Lib.hid hRc
  clear hbk hfv hbl hbl3 hT3 hT4 hRc hBc hFc
  go_wp2_with fail
  go_region_with ((go_at_call 34; refine hWi.mono ?_; rintro e w7 ⟨v7, xs7, rfl, hown7, hx7, hb7⟩; obtain ⟨A7, c7, rfl, hr1, hr2, hr3⟩ := own_formk hown7; have y0 := (hb7.cell (p := ⟨p, 0, none⟩) hpw).trans e0; have yz := (hb7.frozen (p := ⟨p, 0, none⟩) hpw).trans hfz0))
  all_goals
    go_wp2_with fail
    go_ret
    rw [HE2.out]
    have hP := rd_put HRc.out hown7 (hx7.less fun k hk => .inl hk) hb7
    exact ⟨rfl, hP.1, (HT.out.drewN 1).trans hP.2⟩

set_option maxRecDepth 100000 in
set_option maxHeartbeats 4000000 in
theorem rdo_rem (S : Nat → Prop) (p : Nat) (m : Dk) (s : Sp) (A : Option Addr) (n c : Nat) (W : World) (h : RD W S p m) (hG : GoodD m) (hcl : m.calls ≤ 1000000) (hlf : m.left < 18446744073709551616) (hb : (beginD m).1 = true)
    (hl : s.name.length ≤ 10000) (hn : targetB s.name = true) (hK : s.kind = 4) (f0 : Fl) (hlo0 : lookF s.name m.files = some f0) :
    Calls Try.prog 16 #[.pointer (some ⟨p, 0, none⟩), spV s A n c] W (DoPost S p (doD m s) W) := by
  have hlo : (lookF s.name m.files).isSome = true := by rw [hlo0]; rfl
  have HE := Lib.hid ((do_call m s (by unfold isCall; rw [hK]; rfl) hb).trans (call_rem _ s f0 hn hK (by rw [(begin_same m hb).1]; exact hlo0)))
  have HB := begun_any S p m s.kind s A n c W h hG hcl hlf
  rw [hb] at HB
  have hmf := (begin_same m hb).1
  have hmc := (begin_same m hb).2
  obtain ⟨m1, hm1⟩ : ∃ m1, (beginD m).2 = m1 := ⟨_, rfl⟩
  rw [hm1] at HB hmf hmc HE
  rw [← hmf] at hlo
  have hfl1 : m1.files.length ≤ 2000 := by rw [hmf]; exact hG.1
  have hsz1 : sizeF m1.files ≤ 100000 := by rw [hmf]; exact hG.2.1
  unfold spV
  rw [hK] at HB ⊢
  have hltp : p < W.heap.size := by
    obtain ⟨A1, n1, c1, hB, _⟩ := h
    exact hB.lt
  have hSW : ∀ k, S k → k < W.heap.size := by
    obtain ⟨A1, n1, c1, _, _, _, h4⟩ := h
    exact h4
  have HSW := Lib.hid hSW
  clear hSW hb h hmf hm1 hmc
  go_enter Try.func16, Try.ntmps16
  go_wp2_with fail
  refine HB.mono ?_
  rintro e W1 ⟨rfl, hr⟩
  have b0 : W1.cell? ⟨W.heap.size, 0, none⟩ = some (.int .i64 4) := hr.box.cell 0
  have b1 : W1.cell? ⟨W.heap.size, 1, none⟩ = some (.string ⟨s.name.toArray⟩) := hr.box.cell 1
  have b2 : W1.cell? ⟨W.heap.size, 2, none⟩ = some (.string ⟨s.to.toArray⟩) := hr.box.cell 2
  have hT := refTarget_any ⟨s.name.toArray⟩ (by simpa [ByteArray.size] using hl) W1
  simp only [List.toList_toArray] at hT
  rw [hn] at hT
  obtain ⟨A1, n1, c1, hB1, hF1, hSp, hSo⟩ := hr.rd
  have hfz := hB1.frozen
  have e0 : W1.cell? ⟨p, 0, none⟩ = some (.slice A1 n1 c1) := hB1.cell 0
  have hn1 : n1 ≤ 2000 := by have := hF1.1; omega
  have hFi := fun q => find_any A1 n1 c1 m1.files ⟨s.name.toArray⟩ S (W1.drewN q) (hF1.turn ((Turn.refl S W1).drewN q)) (by omega)
  simp only [List.toList_toArray] at hFi
  have HF1 := Lib.hid hF1
  have HB1 := Lib.hid hB1
  have HX := Lib.hid hr
  obtain ⟨j, f, hfj, hgj, hfl⟩ : ∃ (j : Nat) (f : Fl), findN s.name m1.files 0 = (j : Int) ∧ m1.files[j]? = some f ∧ lookF s.name m1.files = some f := by
    rcases findN_spec s.name m1.files 0 with ⟨_, h2⟩ | ⟨j, f, h1, h2, h3⟩
    · rw [h2] at hlo; cases hlo
    · exact ⟨j, f, by rw [h1]; simp, h2, h3⟩
  rw [hfj] at hFi
  clear HB hr hB1 hF1 hSp hSo
  go_wp2_with fail
  refine hT.mono ?_
  rintro e W2 ⟨rfl, rfl⟩
  clear hT
  go_wp2_with fail
  go_quiet ((go_at_call 32; exact Calls.quiet_of_same (hFi _)))
  have HX2 : Hid (Begun W (W2.drewN nq) S p m1 4 s A n c ∧ Blk (W2.drewN nq) p 40 (dkL m1 A1 n1 c1) ∧ Fls (W2.drewN nq) S A1 n1 m1.files) := Lib.hid ⟨HX.out.drewN nq, HB1.out.drewN nq, HF1.out.turn ((Turn.refl S W2).drewN nq)⟩
  have hTw : Turn (fun _ => False) W2 (W2.drewN nq) := (Turn.refl _ _).drewN nq
  revert HX2 hTw
  generalize W2.drewN nq = w3
  intro HX2 hTw
  clear b0 b1 b2 e0 hfz HX hFi HF1 HB1
  have b0 : w3.cell? ⟨W.heap.size, 0, none⟩ = some (.int .i64 4) := HX2.out.1.box.cell 0
  have b1 : w3.cell? ⟨W.heap.size, 1, none⟩ = some (.string ⟨s.name.toArray⟩) := HX2.out.1.box.cell 1
  have b2 : w3.cell? ⟨W.heap.size, 2, none⟩ = some (.string ⟨s.to.toArray⟩) := HX2.out.1.box.cell 2
  have b3 : w3.cell? ⟨W.heap.size, 3, none⟩ = some (.slice A n c) := HX2.out.1.box.cell 3
  have e0 : w3.cell? ⟨p, 0, none⟩ = some (.slice A1 n1 c1) := HX2.out.2.1.cell 0
  have e1 : w3.cell? ⟨p, 1, none⟩ = some (.int .i64 m1.cap) := HX2.out.2.1.cell 1
  have hfz := HX2.out.2.1.frozen
  have hlt := HX2.out.1.box.lt
  have hlt2 := HX2.out.2.1.lt
  have d1 : decide (((j : Nat) : Int) ≥ 0) = true := decide_eq_true (by omega)
  have d0 : decide ((0 : Int) ≤ ((j : Nat) : Int)) = true := decide_eq_true (by omega)
  have d9 : decide (((j : Nat) : Int) < 0) = false := decide_eq_false (by omega)
  have hjn : j < n1 := by
    have h1 := HX2.out.2.2.1
    have h2 := (List.getElem?_eq_some_iff.1 hgj).1
    omega
  have hji : ((j : Nat) : Int) < ((n1 : Nat) : Int) := by omega
  obtain ⟨b, o, rfl, hbS, hfa⟩ := HX2.out.2.2.2 (by omega)
  obtain ⟨y0, y1, y2, q0, q1, q2, hfv⟩ := hfa j f hgj
  have hbw : b < w3.heap.size := block_lt_of_cell q0
  obtain ⟨A3, n3, c3, rfl, rfl, rfl, hby3, hnil3, hln3, hmx3⟩ := fl_parts hfv
  have hfnm : f.name = s.name := by
    have := List.find?_some hfl
    simpa using this
  have HF3 := Lib.hid (And.intro hby3 (And.intro hnil3 (And.intro hln3 hmx3)))
  clear hby3 hnil3 hln3 hmx3 hfv hfa
  rw [hfnm] at q0
  clear hfj hgj hfl hlo hlo0 hjn
  go_wp2_with fail
  have hbl0 : Below w3.heap.size w3 (w3.alloc (.cells #[.string ⟨s.name.toArray⟩, .slice A3 n3 c3, .int .i64 ((f.sure : Nat) : Int)] 54)) := (Below.refl _ w3).alloc (Nat.le_refl _) _
  have HBL := Lib.hid hbl0
  have b0' : (w3.alloc (.cells #[.string ⟨s.name.toArray⟩, .slice A3 n3 c3, .int .i64 ((f.sure : Nat) : Int)] 54)).cell? ⟨W.heap.size, 0, none⟩ = some (.int .i64 4) := (hbl0.cell (p := ⟨W.heap.size, 0, none⟩) hlt).trans b0
  have b1' : (w3.alloc (.cells #[.string ⟨s.name.toArray⟩, .slice A3 n3 c3, .int .i64 ((f.sure : Nat) : Int)] 54)).cell? ⟨W.heap.size, 1, none⟩ = some (.string ⟨s.name.toArray⟩) := (hbl0.cell (p := ⟨W.heap.size, 1, none⟩) hlt).trans b1
  have hbx0 := (HX2.out.1.box.alloc (.cells #[.string ⟨s.name.toArray⟩, .slice A3 n3 c3, .int .i64 ((f.sure : Nat) : Int)] 54)).lt
  clear hbl0
  obtain ⟨g, hg⟩ : ∃ g, w3.heap.size = g := ⟨_, rfl⟩
  rw [hg] at HBL ⊢
  have HG := Lib.hid hg
  revert HBL b0' b1' hbx0
  generalize w3.alloc (.cells #[.string ⟨s.name.toArray⟩, .slice A3 n3 c3, .int .i64 ((f.sure : Nat) : Int)] 54) = wc
  intro c0 c1' hbx HBL
  clear hg b0 b1 b2 b3 e0 e1 hfz hlt hlt2 d0 d1 d9 q0 q1 q2 hji
  have hbl3 : Below w3.heap.size w3 wc := by rw [HG.out]; exact HBL.out
  have hT3 : Turn (fun _ => False) w3 wc := (Turn.of_below hbl3)
  have hT4 : Turn S w3 wc := Turn.of_below hbl3
  have hRc : RD wc.drew S p m1 := (HX2.out.1.rd.turn hT3 (fun k hk => hk.elim) (fun hk => hk)).drewN 1
  have hBc : Blk wc p 40 (dkL m1 (some ⟨b, o, none⟩) n1 c1) := HX2.out.2.1.below hbl3 HX2.out.2.1.lt
  have hFc : Fls wc S (some ⟨b, o, none⟩) n1 m1.files := HX2.out.2.2.turn hT4
  have hWo := without_any (some ⟨b, o, none⟩) n1 c1 m1.files ⟨s.name.toArray⟩ (fun k => S k ∨ wc.heap.size ≤ k) wc.drew ((hFc.turn ((Turn.refl S wc).drewN 1)).more fun k hk hl => by
    rcases hk with h | h
    · exact h
    · exact absurd h (Nat.not_le.2 hl)) (fun k hk => .inr hk) (by omega)
  simp only [List.toList_toArray] at hWo
  have HE2 : Hid (doD m s = (0, withFs m1 (withoutF s.name m1.files))) := Lib.hid HE.out
  obtain ⟨L, hL⟩ : ∃ L, withoutF s.name m1.files = L := ⟨_, rfl⟩
  rw [hL] at hWo HE2
  clear hL HE
  have e0 : wc.cell? ⟨p, 0, none⟩ = some (.slice (some ⟨b, o, none⟩) n1 c1) := hBc.cell 0
  have hfz0 : wc.frozen? ⟨p, 0, none⟩ = false := hBc.frozen 0
  have hpw := hBc.lt
  have HT := Lib.hid ((HX2.out.1.turn.trans (hT3.mono (fun k hk => hk.elim) : Turn (fun k => k = p) w3 wc)))
  have HRc := Lib.hid hRc
  clear hbl3 hT3 hT4 hRc hBc hFc
  go_region_with ((go_at_call 35; refine hWo.mono ?_; rintro e w7 ⟨v7, xs7, rfl, hown7, hx7, hb7⟩; obtain ⟨A7, c7, rfl, hr1, hr2, hr3⟩ := own_formk hown7; have y0 := (hb7.cell (p := ⟨p, 0, none⟩) hpw).trans e0; have yz := (hb7.frozen (p := ⟨p, 0, none⟩) hpw).trans hfz0; have z0 := (hb7.cell (p := ⟨W.heap.size, 0, none⟩) hbx).trans c0))
  all_goals
    go_wp2_with fail
    go_ret
    rw [HE2.out]
    have hP := rd_put HRc.out hown7 (hx7.less fun k hk => .inl hk) hb7
    exact ⟨rfl, hP.1, (HT.out.drewN 1).trans hP.2⟩

end Go.Proofs.Ytikghnbhbehepaa
