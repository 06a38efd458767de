/-
  The reference's disk: Append. Made by wip/tools/gendkj.py.
-/
import Derived.Test.YtikghnbhbehepaaZz5
import Derived.Deep.AppendLies
import Derived.Deep.RegionHeld3
import Derived.Deep.RegionLaw
import Derived.Deep.CutRange
namespace Go.Proofs.Ytikghnbhbehepaa
open Go.RowKit
set_option linter.unusedVariables false
set_option linter.unusedSimpArgs false

theorem step_append_byt {P : Program} {w : World} {ops : Array Oper} {o : Oper} {a : Act} {K : Act → World → Prop} {Q : Exit → Act → World → Prop} {E : Prop} (hgd : o.guard = none) (s x : Operand) (t : TypeId)
    (ho : o.op = .call { callee := .builtin .append, args := #[s, x], argTypes := #[t, t] })
    (base : Nat) (e : TypeId) (i : TypeInfo) (z : Value) (ht : P.underlying t = some (.slice e)) (hi : P.info? e = some i) (hz : i.zero = some z)
    (hsize : i.size = 1) (hby : i.bytes = 1) (hzs : z.cells.size = 1)
    (v : Value) (n : Nat) (xs : List Value) (hs : a.eval s = v) (hown : w.ownsRow base e 1 v n xs)
    (B : Nat) (A : Option Addr) (m c : Nat) (l : List UInt8) (hx : a.eval x = .slice A m c) (hr : Byt w B A m l) (hnil : A = none → c = 0)
    (h47 : n + m ≤ 140737488355328) (hbase : base ≤ w.heap.size)
    (h : ∀ v' w', w'.ownsRow base e 1 v' (n + m) (xs ++ l.map bv) → w.grownBy w' v.ownBlock → K (a.put o.dst v') w') :
    if Region.wanted o (yielded ops a.tmps) = true then Oper.wp P o a w K Q else E := by
  have hw : Region.wanted o (yielded ops a.tmps) = true := by simp [Region.wanted, hgd]
  rw [if_pos hw]
  obtain ⟨v', w', hr, h2, h3⟩ := run_append_byt (P := P) w base t o.type e i z ht hi hz hsize hby hzs v n xs hown B A m c l hr hnil h47 hbase
  unfold Oper.wp execOp
  simp only [ho, resolve, invoke, builtin, Sem.run_bind, Sem.run_pure, Result.andThen_ok, List.map_toArray, List.map_cons, List.map_nil, hs, hx, hr]
  exact h v' w' h2 h3

theorem BytS.of_own {w : World} {base : Nat} {e : TypeId} {A : Option Addr} {n c : Nat} {l : List UInt8} {S : Nat → Prop} (h : w.ownsRow base e 1 (.slice A n c) n (l.map bv)) (hS : ∀ k, S k → k < base) : BytS w S A n l := by
  refine ⟨by have := h.1; simpa using this, fun hn => ?_⟩
  rcases h.2 with ⟨_, h0⟩ | ⟨g, cap, cur, hv, hg, hh, _⟩
  · omega
  · injection hv with hA
    subst hA
    refine ⟨g, 0, rfl, fun x => by have := hS g x; omega, fun j x hx => ?_⟩
    have := h.cells (g := g) rfl j (bv x) (by rw [List.getElem?_map, hx]; rfl)
    rw [Addr.add_lit] at this
    exact this

/-- The file's box holds a file whose bytes are new. -/
def FileAt (w3 wx : World) (g : Nat) (S : Nat → Prop) (f : Fl) : Prop :=
  ∃ A6 n6 c6, Blk wx g 54 [.string ⟨f.name.toArray⟩, .slice A6 n6 c6, .int .i64 ((f.sure : Nat) : Int)] ∧ FlV wx (fun k => S k ∨ wx.heap.size ≤ k) (.agg #[.string ⟨f.name.toArray⟩, .slice A6 n6 c6, .int .i64 ((f.sure : Nat) : Int)]) f ∧ Below g w3 wx

theorem fileAt_made {w3 w4 w6 : World} {g n6 c6 : Nat} {e : TypeId} {S : Nat → Prop} {A6 : Option Addr} {name l : List UInt8} {sure : Nat} {x : Value} (hg : w3.heap.size = g) (hb34 : Below g w3 w4) (hbk : Blk w4 g 54 [.string ⟨name.toArray⟩, x, .int .i64 ((sure : Nat) : Int)]) (hb46 : Below w4.heap.size w4 w6)
    (hown : w6.ownsRow w4.heap.size e 1 (.slice A6 n6 c6) n6 (l.map bv)) (hq1 : A6 = none → n6 = 0 ∧ c6 = 0) (hq2 : n6 ≤ c6) (hq3 : c6 ≤ maxLen) (hS : ∀ k, S k → k < g) :
    FileAt w3 (w6.setCell ⟨g, 1, none⟩ (.slice A6 n6 c6)) g S ⟨name, l, sure⟩ := by
  have hgw := hbk.lt
  have hsz : (w6.setCell ⟨g, 1, none⟩ (.slice A6 n6 c6)).heap.size = w6.heap.size := by simp [World.setCell]
  refine ⟨A6, n6, c6, (hbk.below hb46 hgw).set 1 _, ⟨A6, n6, c6, rfl, ?_, hq1, hq2, hq3⟩, ?_⟩
  · have b1 : BytS w6 (fun k => S k ∨ k = g) A6 n6 l := BytS.of_own hown (fun k hk => by
      rcases hk with h | h
      · have := hS k h; omega
      · omega)
    have b2 := b1.turn (Turn.setCell (Turn.refl (fun k => S k ∨ k = g) w6) (p := ⟨g, 1, none⟩) (.inr rfl) (.slice A6 n6 c6))
    refine b2.more fun k hk hlt => ?_
    rcases hk with h | h
    · exact .inl h
    · omega
  · have h1 : Below g w4 w6 := ⟨hb46.os, hb46.tape, hb46.output, hb46.size, fun k hk => hb46.block k (by omega)⟩
    exact (hb34.trans h1).setCell (p := ⟨g, 1, none⟩) (Nat.le_refl _) _

/-- New files are stored. -/
theorem rd_put {w w2 : World} {S : Nat → Prop} {p : Nat} {m : Dk} {v : Value} {xs : List Value} {fs : List Fl} (h : RD w S p m) (hown : w2.ownsRow w.heap.size 54 3 v fs.length xs) (hx : Fx w2 S xs fs) (hb : Below w.heap.size w w2) :
    RD (w2.setCell ⟨p, 0, none⟩ v) S p (withFs m fs) ∧ Turn (fun k => k = p) w (w2.setCell ⟨p, 0, none⟩ v) := by
  obtain ⟨A, n, c, hB, hF, hSp, hSo⟩ := h
  obtain ⟨A1, c1, rfl, hn1, hl1, hm1⟩ := own_formk hown
  have ht : Turn (fun k => k = p) w (w2.setCell ⟨p, 0, none⟩ (.slice A1 fs.length c1)) := Turn.setCell (S := fun k => k = p) (Turn.of_below hb) (p := ⟨p, 0, none⟩) rfl _
  have ht2 : Turn (fun k => k = p) w2 (w2.setCell ⟨p, 0, none⟩ (.slice A1 fs.length c1)) := (Turn.refl (fun k => k = p) w2).setCell (p := ⟨p, 0, none⟩) rfl _
  have hF1 : Fls w2 S A1 fs.length fs := Fls.of_own hown hx hSo
  exact ⟨⟨A1, fs.length, c1, (hB.below hb hB.lt).set 0 _, hF1.turn (ht2.mono fun k hk => by rw [hk]; exact hSp), hSp, fun k hk => Nat.lt_of_lt_of_le (hSo k hk) ht.size⟩, ht⟩

theorem fileF_none (l : List UInt8) (fs : List Fl) (h : lookF l fs = none) : fileF l fs = ⟨l, [], 0⟩ := by unfold fileF; rw [h]; rfl
theorem fileF_some (l : List UInt8) (fs : List Fl) (f : Fl) (h : lookF l fs = some f) : fileF l fs = f := by unfold fileF; rw [h]; rfl
theorem call_app (m : Dk) (s : Sp) (hn : targetB s.name = true) (hK : s.kind = 1) (hf : (!(lookF s.name m.files).isSome && decide (1024 ≤ m.files.length)) = false) (hc : ¬ m.cap - sizeF m.files < (s.data.length : Int)) :
    callD m s = (0, withFs m (withF ⟨s.name, (fileF s.name m.files).data ++ s.data, (fileF s.name m.files).sure⟩ false m.files)) := by
  unfold callD
  rw [hn, hK, hf, if_neg hc]
  simp
theorem call_full (m : Dk) (s : Sp) (hn : targetB s.name = true) (hK : s.kind = 1) (hf : (!(lookF s.name m.files).isSome && decide (1024 ≤ m.files.length)) = false) (hc : m.cap - sizeF m.files < (s.data.length : Int)) :
    callD m s = (10, m) := by
  unfold callD
  rw [hn, hK, hf, if_pos hc]
  simp
theorem call_room (m : Dk) (s : Sp) (hn : targetB s.name = true) (hK : s.kind = 1) (hf : (!(lookF s.name m.files).isSome && decide (1024 ≤ m.files.length)) = true) :
    callD m s = (15, m) := by
  unfold callD
  rw [hn, hK, hf]
  simp

set_option maxRecDepth 100000 in
set_option maxHeartbeats 2000000 in
theorem rdo_room (S : Nat → Prop) (p : Nat) (m : Dk) (s : Sp) (A : Option Addr) (n c : Nat) (W : World) (h : RD W S p m) (hG : GoodD m) (hcl : m.calls ≤ 1000000) (hlf : m.left < 18446744073709551616) (hb : (beginD m).1 = true)
    (hl : s.name.length ≤ 10000) (hn : targetB s.name = true) (hK : s.kind = 1) (hlo : lookF s.name m.files = none) (hf : 1024 ≤ m.files.length) :
    Calls Try.prog 16 #[.pointer (some ⟨p, 0, none⟩), spV s A n c] W (DoPost S p (doD m s) W) := by
  have HE := Lib.hid ((do_call m s (by unfold isCall; rw [hK]; rfl) hb).trans (call_room _ s hn hK (by rw [(begin_same m hb).1, hlo]; simpa using hf)))
  have HB := begun_any S p m s.kind s A n c W h hG hcl hlf
  rw [hb] at HB
  have hmf := (begin_same m hb).1
  have hmc := (begin_same m hb).2
  obtain ⟨m1, hm1⟩ : ∃ m1, (beginD m).2 = m1 := ⟨_, rfl⟩
  rw [hm1] at HB hmf hmc HE
  rw [← hmf] at hlo hf
  have hfl1 : m1.files.length ≤ 2000 := by rw [hmf]; exact hG.1
  have hsz1 : sizeF m1.files ≤ 100000 := by rw [hmf]; exact hG.2.1
  unfold spV
  rw [hK] at HB ⊢
  have hltp : p < W.heap.size := by
    obtain ⟨A1, n1, c1, hB, _⟩ := h
    exact hB.lt
  have hSW : ∀ k, S k → k < W.heap.size := by
    obtain ⟨A1, n1, c1, _, _, _, h4⟩ := h
    exact h4
  have HSW := Lib.hid hSW
  clear hSW hb h hmf hm1
  go_enter Try.func16, Try.ntmps16
  go_wp2_with fail
  refine HB.mono ?_
  rintro e W1 ⟨rfl, hr⟩
  have b0 : W1.cell? ⟨W.heap.size, 0, none⟩ = some (.int .i64 1) := hr.box.cell 0
  have b1 : W1.cell? ⟨W.heap.size, 1, none⟩ = some (.string ⟨s.name.toArray⟩) := hr.box.cell 1
  have b2 : W1.cell? ⟨W.heap.size, 2, none⟩ = some (.string ⟨s.to.toArray⟩) := hr.box.cell 2
  have hT := refTarget_any ⟨s.name.toArray⟩ (by simpa [ByteArray.size] using hl) W1
  simp only [List.toList_toArray] at hT
  rw [hn] at hT
  obtain ⟨A1, n1, c1, hB1, hF1, hSp, hSo⟩ := hr.rd
  have hfz := hB1.frozen
  have e0 : W1.cell? ⟨p, 0, none⟩ = some (.slice A1 n1 c1) := hB1.cell 0
  have hn1 : n1 ≤ 2000 := by have := hF1.1; omega
  have hFi := fun q => find_any A1 n1 c1 m1.files ⟨s.name.toArray⟩ S (W1.drewN q) (hF1.turn ((Turn.refl S W1).drewN q)) (by omega)
  simp only [List.toList_toArray] at hFi
  have HF1 := Lib.hid hF1
  have HB1 := Lib.hid hB1
  have HX := Lib.hid hr
  have hfn : findN s.name m1.files 0 = -1 := by
    rcases findN_spec s.name m1.files 0 with ⟨h1, _⟩ | ⟨j, f, _, _, h3⟩
    · exact h1
    · rw [hlo] at h3; cases h3
  rw [hfn] at hFi
  clear hfn
  clear HB hr hB1 hF1 hSp hSo
  go_wp2_with fail
  refine hT.mono ?_
  rintro e W2 ⟨rfl, rfl⟩
  clear hT
  go_wp2_with fail
  go_quiet ((go_at_call 32; exact Calls.quiet_of_same (hFi _)))
  have HX2 : Hid (Begun W (W2.drewN nq) S p m1 1 s A n c ∧ Blk (W2.drewN nq) p 40 (dkL m1 A1 n1 c1) ∧ Fls (W2.drewN nq) S A1 n1 m1.files) := Lib.hid ⟨HX.out.drewN nq, HB1.out.drewN nq, HF1.out.turn ((Turn.refl S W2).drewN nq)⟩
  have hTw : Turn (fun _ => False) W2 (W2.drewN nq) := (Turn.refl _ _).drewN nq
  revert HX2 hTw
  generalize W2.drewN nq = w3
  intro HX2 hTw
  clear b0 b1 b2 e0 hfz HX hFi HF1 HB1
  have b0 : w3.cell? ⟨W.heap.size, 0, none⟩ = some (.int .i64 1) := HX2.out.1.box.cell 0
  have b1 : w3.cell? ⟨W.heap.size, 1, none⟩ = some (.string ⟨s.name.toArray⟩) := HX2.out.1.box.cell 1
  have b2 : w3.cell? ⟨W.heap.size, 2, none⟩ = some (.string ⟨s.to.toArray⟩) := HX2.out.1.box.cell 2
  have b3 : w3.cell? ⟨W.heap.size, 3, none⟩ = some (.slice A n c) := HX2.out.1.box.cell 3
  have e0 : w3.cell? ⟨p, 0, none⟩ = some (.slice A1 n1 c1) := HX2.out.2.1.cell 0
  have e1 : w3.cell? ⟨p, 1, none⟩ = some (.int .i64 m1.cap) := HX2.out.2.1.cell 1
  have hfz := HX2.out.2.1.frozen
  have hlt := HX2.out.1.box.lt
  have hlt2 := HX2.out.2.1.lt
  have d1 : decide (1024 ≤ ((n1 : Nat) : Int)) = true := decide_eq_true (by have := HX2.out.2.2.1; omega)
  have d2 : decide (((n1 : Nat) : Int) ≥ 1024) = true := d1
  go_wp2_with fail
  go_ret
  rw [HE.out]
  exact ⟨rfl, HX2.out.1.rd.turn (S' := fun _ => False) ((Turn.refl (fun _ => False) w3).alloc _) (fun k hk => hk.elim) (fun hk => hk), HX2.out.1.turn.alloc _⟩

set_option maxRecDepth 100000 in
set_option maxHeartbeats 2000000 in
theorem rdo_full (S : Nat → Prop) (p : Nat) (m : Dk) (s : Sp) (A : Option Addr) (n c : Nat) (W : World) (h : RD W S p m) (hG : GoodD m) (hcl : m.calls ≤ 1000000) (hlf : m.left < 18446744073709551616) (hb : (beginD m).1 = true)
    (hl : s.name.length ≤ 10000) (hn : targetB s.name = true) (hK : s.kind = 1) (hlo : lookF s.name m.files = none) (hf : m.files.length < 1024) (hcap : 0 ≤ m.cap ∧ m.cap < 9223372036854775808) (hd : n = s.data.length) (hfu : m.cap - sizeF m.files < (s.data.length : Int)) :
    Calls Try.prog 16 #[.pointer (some ⟨p, 0, none⟩), spV s A n c] W (DoPost S p (doD m s) W) := by
  have HE := Lib.hid ((do_call m s (by unfold isCall; rw [hK]; rfl) hb).trans (call_full _ s hn hK (by rw [(begin_same m hb).1, hlo]; simpa using hf) (by rw [(begin_same m hb).1, (begin_same m hb).2]; exact hfu)))
  have HB := begun_any S p m s.kind s A n c W h hG hcl hlf
  rw [hb] at HB
  have hmf := (begin_same m hb).1
  have hmc := (begin_same m hb).2
  obtain ⟨m1, hm1⟩ : ∃ m1, (beginD m).2 = m1 := ⟨_, rfl⟩
  rw [hm1] at HB hmf hmc HE
  rw [← hmf] at hlo hf
  have hfl1 : m1.files.length ≤ 2000 := by rw [hmf]; exact hG.1
  have hsz1 : sizeF m1.files ≤ 100000 := by rw [hmf]; exact hG.2.1
  unfold spV
  rw [hK] at HB ⊢
  have hltp : p < W.heap.size := by
    obtain ⟨A1, n1, c1, hB, _⟩ := h
    exact hB.lt
  have hSW : ∀ k, S k → k < W.heap.size := by
    obtain ⟨A1, n1, c1, _, _, _, h4⟩ := h
    exact h4
  have HSW := Lib.hid hSW
  have HHD := Lib.hid (And.intro hd (And.intro hcap (And.intro hfu (And.intro hmf hmc))))
  clear hSW hb h hmf hm1 hd hcap hfu hmc
  go_enter Try.func16, Try.ntmps16
  go_wp2_with fail
  refine HB.mono ?_
  rintro e W1 ⟨rfl, hr⟩
  have b0 : W1.cell? ⟨W.heap.size, 0, none⟩ = some (.int .i64 1) := hr.box.cell 0
  have b1 : W1.cell? ⟨W.heap.size, 1, none⟩ = some (.string ⟨s.name.toArray⟩) := hr.box.cell 1
  have b2 : W1.cell? ⟨W.heap.size, 2, none⟩ = some (.string ⟨s.to.toArray⟩) := hr.box.cell 2
  have hT := refTarget_any ⟨s.name.toArray⟩ (by simpa [ByteArray.size] using hl) W1
  simp only [List.toList_toArray] at hT
  rw [hn] at hT
  obtain ⟨A1, n1, c1, hB1, hF1, hSp, hSo⟩ := hr.rd
  have hfz := hB1.frozen
  have e0 : W1.cell? ⟨p, 0, none⟩ = some (.slice A1 n1 c1) := hB1.cell 0
  have hn1 : n1 ≤ 2000 := by have := hF1.1; omega
  have hFi := fun q => find_any A1 n1 c1 m1.files ⟨s.name.toArray⟩ S (W1.drewN q) (hF1.turn ((Turn.refl S W1).drewN q)) (by omega)
  simp only [List.toList_toArray] at hFi
  have HF1 := Lib.hid hF1
  have HB1 := Lib.hid hB1
  have HX := Lib.hid hr
  have hfn : findN s.name m1.files 0 = -1 := by
    rcases findN_spec s.name m1.files 0 with ⟨h1, _⟩ | ⟨j, f, _, _, h3⟩
    · exact h1
    · rw [hlo] at h3; cases h3
  rw [hfn] at hFi
  clear hfn
  clear HB hr hB1 hF1 hSp hSo
  go_wp2_with fail
  refine hT.mono ?_
  rintro e W2 ⟨rfl, rfl⟩
  clear hT
  go_wp2_with fail
  go_quiet ((go_at_call 32; exact Calls.quiet_of_same (hFi _)))
  have HX2 : Hid (Begun W (W2.drewN nq) S p m1 1 s A n c ∧ Blk (W2.drewN nq) p 40 (dkL m1 A1 n1 c1) ∧ Fls (W2.drewN nq) S A1 n1 m1.files) := Lib.hid ⟨HX.out.drewN nq, HB1.out.drewN nq, HF1.out.turn ((Turn.refl S W2).drewN nq)⟩
  have hTw : Turn (fun _ => False) W2 (W2.drewN nq) := (Turn.refl _ _).drewN nq
  revert HX2 hTw
  generalize W2.drewN nq = w3
  intro HX2 hTw
  clear b0 b1 b2 e0 hfz HX hFi HF1 HB1
  have b0 : w3.cell? ⟨W.heap.size, 0, none⟩ = some (.int .i64 1) := HX2.out.1.box.cell 0
  have b1 : w3.cell? ⟨W.heap.size, 1, none⟩ = some (.string ⟨s.name.toArray⟩) := HX2.out.1.box.cell 1
  have b2 : w3.cell? ⟨W.heap.size, 2, none⟩ = some (.string ⟨s.to.toArray⟩) := HX2.out.1.box.cell 2
  have b3 : w3.cell? ⟨W.heap.size, 3, none⟩ = some (.slice A n c) := HX2.out.1.box.cell 3
  have e0 : w3.cell? ⟨p, 0, none⟩ = some (.slice A1 n1 c1) := HX2.out.2.1.cell 0
  have e1 : w3.cell? ⟨p, 1, none⟩ = some (.int .i64 m1.cap) := HX2.out.2.1.cell 1
  have hfz := HX2.out.2.1.frozen
  have hlt := HX2.out.1.box.lt
  have hlt2 := HX2.out.2.1.lt
  obtain ⟨hd, hcap, hfu, hmf2, hmc⟩ := HHD.out
  have d1 : decide (1024 ≤ ((n1 : Nat) : Int)) = false := decide_eq_false (by have := HX2.out.2.2.1; omega)
  have d2 : decide (((n1 : Nat) : Int) ≥ 1024) = false := d1
  obtain ⟨C, hC⟩ : ∃ C : Int, m1.cap = C := ⟨_, rfl⟩
  obtain ⟨Z, hZ⟩ : ∃ Z : Nat, sizeF m1.files = Z := ⟨_, rfl⟩
  have e7 : IntKind.i64.wrap (C - (Z : Int)) = C - (Z : Int) := IntWalk.i64_in _ ⟨by omega, by omega⟩
  have hSz := fun q => size_any A1 n1 c1 m1.files S ((w3.alloc (.cells #[.string ⟨s.name.toArray⟩, .slice none 0 0, .int .i64 0] 54)).drewN q) (HX2.out.2.2.turn (((Turn.refl S w3).alloc _).drewN q)) (by omega) (by omega)
  rw [hZ] at hSz
  rw [hC] at e1 hmc
  have HC := Lib.hid hC
  have HZ := Lib.hid hZ
  have d3 : decide (C - (Z : Int) < (n : Int)) = true := decide_eq_true (by rw [hmc, ← hZ, hmf2, hd]; exact hfu)
  have d4 : decide ((n : Int) > C - (Z : Int)) = true := d3
  clear hZ hC hmc hcap hfu hsz1 hd hmf2
  go_wp2_with fail
  go_quiet ((go_at_call 33; exact Calls.quiet_of_same (hSz _)))
  clear e7 hSz
  have hTu : Turn (fun k => k = p) w3 ((w3.alloc (.cells #[.string ⟨s.name.toArray⟩, .slice none 0 0, .int .i64 0] 54)).drewN nq) := ((Turn.refl (fun k => k = p) w3).alloc _).drewN nq
  have hR4 : RD ((w3.alloc (.cells #[.string ⟨s.name.toArray⟩, .slice none 0 0, .int .i64 0] 54)).drewN nq) S p m1 := (HX2.out.1.rd.turn (S' := fun _ => False) ((Turn.refl (fun _ => False) w3).alloc _) (fun k hk => hk.elim) (fun hk => hk)).drewN nq
  have HR4 := Lib.hid (And.intro hTu hR4)
  clear hTu hR4
  go_wp2_with fail
  go_ret
  rw [HE.out]
  exact ⟨rfl, HR4.out.2, HX2.out.1.turn.trans HR4.out.1⟩

set_option maxRecDepth 100000 in
set_option maxHeartbeats 4000000 in
theorem rdo_app (S : Nat → Prop) (p : Nat) (m : Dk) (s : Sp) (A : Option Addr) (n c : Nat) (W : World) (h : RD W S p m) (hG : GoodD m) (hcl : m.calls ≤ 1000000) (hlf : m.left < 18446744073709551616) (hb : (beginD m).1 = true)
    (hl : s.name.length ≤ 10000) (hn : targetB s.name = true) (hK : s.kind = 1) (hlo : lookF s.name m.files = none) (hf : m.files.length < 1024) (hcap : 0 ≤ m.cap ∧ m.cap < 9223372036854775808) (hda : BytS W (fun k => k = p) A n s.data) (hnil : A = none → n = 0 ∧ c = 0) (hnd : n ≤ 100000) (hfu : ¬ m.cap - sizeF m.files < (s.data.length : Int)) :
    Calls Try.prog 16 #[.pointer (some ⟨p, 0, none⟩), spV s A n c] W (DoPost S p (doD m s) W) := by
  obtain ⟨iu, hiu, hu0, hu1, hu2⟩ := info_parts Try.info5
  have HE := Lib.hid ((do_call m s (by unfold isCall; rw [hK]; rfl) hb).trans (call_app _ s hn hK (by rw [(begin_same m hb).1, hlo]; simpa using hf) (by rw [(begin_same m hb).1, (begin_same m hb).2]; omega)))
  have HB := begun_any S p m s.kind s A n c W h hG hcl hlf
  rw [hb] at HB
  have hmf := (begin_same m hb).1
  have hmc := (begin_same m hb).2
  obtain ⟨m1, hm1⟩ : ∃ m1, (beginD m).2 = m1 := ⟨_, rfl⟩
  rw [hm1] at HB hmf hmc HE
  rw [← hmf] at hlo hf
  have hfl1 : m1.files.length ≤ 2000 := by rw [hmf]; exact hG.1
  have hsz1 : sizeF m1.files ≤ 100000 := by rw [hmf]; exact hG.2.1
  unfold spV
  rw [hK] at HB ⊢
  have hltp : p < W.heap.size := by
    obtain ⟨A1, n1, c1, hB, _⟩ := h
    exact hB.lt
  have hSW : ∀ k, S k → k < W.heap.size := by
    obtain ⟨A1, n1, c1, _, _, _, h4⟩ := h
    exact h4
  have HSW := Lib.hid hSW
  have HHD := Lib.hid (And.intro hcap (And.intro hfu (And.intro hmf (And.intro hmc (And.intro hda (And.intro hnil hnd))))))
  clear hSW hb h hmf hm1 hcap hfu hmc hda hnil hnd
  go_enter Try.func16, Try.ntmps16
  go_wp2_with fail
  refine HB.mono ?_
  rintro e W1 ⟨rfl, hr⟩
  have b0 : W1.cell? ⟨W.heap.size, 0, none⟩ = some (.int .i64 1) := hr.box.cell 0
  have b1 : W1.cell? ⟨W.heap.size, 1, none⟩ = some (.string ⟨s.name.toArray⟩) := hr.box.cell 1
  have b2 : W1.cell? ⟨W.heap.size, 2, none⟩ = some (.string ⟨s.to.toArray⟩) := hr.box.cell 2
  have hT := refTarget_any ⟨s.name.toArray⟩ (by simpa [ByteArray.size] using hl) W1
  simp only [List.toList_toArray] at hT
  rw [hn] at hT
  obtain ⟨A1, n1, c1, hB1, hF1, hSp, hSo⟩ := hr.rd
  have hfz := hB1.frozen
  have e0 : W1.cell? ⟨p, 0, none⟩ = some (.slice A1 n1 c1) := hB1.cell 0
  have hn1 : n1 ≤ 2000 := by have := hF1.1; omega
  have hFi := fun q => find_any A1 n1 c1 m1.files ⟨s.name.toArray⟩ S (W1.drewN q) (hF1.turn ((Turn.refl S W1).drewN q)) (by omega)
  simp only [List.toList_toArray] at hFi
  have HF1 := Lib.hid hF1
  have HB1 := Lib.hid hB1
  have HX := Lib.hid hr
  have hfn : findN s.name m1.files 0 = -1 := by
    rcases findN_spec s.name m1.files 0 with ⟨h1, _⟩ | ⟨j, f, _, _, h3⟩
    · exact h1
    · rw [hlo] at h3; cases h3
  rw [hfn] at hFi
  clear hfn
  clear HB hr hB1 hF1 hSp hSo
  go_wp2_with fail
  refine hT.mono ?_
  rintro e W2 ⟨rfl, rfl⟩
  clear hT
  go_wp2_with fail
  go_quiet ((go_at_call 32; exact Calls.quiet_of_same (hFi _)))
  have HX2 : Hid (Begun W (W2.drewN nq) S p m1 1 s A n c ∧ Blk (W2.drewN nq) p 40 (dkL m1 A1 n1 c1) ∧ Fls (W2.drewN nq) S A1 n1 m1.files) := Lib.hid ⟨HX.out.drewN nq, HB1.out.drewN nq, HF1.out.turn ((Turn.refl S W2).drewN nq)⟩
  have hTw : Turn (fun _ => False) W2 (W2.drewN nq) := (Turn.refl _ _).drewN nq
  revert HX2 hTw
  generalize W2.drewN nq = w3
  intro HX2 hTw
  clear b0 b1 b2 e0 hfz HX hFi HF1 HB1
  have b0 : w3.cell? ⟨W.heap.size, 0, none⟩ = some (.int .i64 1) := HX2.out.1.box.cell 0
  have b1 : w3.cell? ⟨W.heap.size, 1, none⟩ = some (.string ⟨s.name.toArray⟩) := HX2.out.1.box.cell 1
  have b2 : w3.cell? ⟨W.heap.size, 2, none⟩ = some (.string ⟨s.to.toArray⟩) := HX2.out.1.box.cell 2
  have b3 : w3.cell? ⟨W.heap.size, 3, none⟩ = some (.slice A n c) := HX2.out.1.box.cell 3
  have e0 : w3.cell? ⟨p, 0, none⟩ = some (.slice A1 n1 c1) := HX2.out.2.1.cell 0
  have e1 : w3.cell? ⟨p, 1, none⟩ = some (.int .i64 m1.cap) := HX2.out.2.1.cell 1
  have hfz := HX2.out.2.1.frozen
  have hlt := HX2.out.1.box.lt
  have hlt2 := HX2.out.2.1.lt
  obtain ⟨hcap, hfu, hmf2, hmc, hda, hnil, hnd⟩ := HHD.out
  have d1 : decide (1024 ≤ ((n1 : Nat) : Int)) = false := decide_eq_false (by have := HX2.out.2.2.1; omega)
  have d2 : decide (((n1 : Nat) : Int) ≥ 1024) = false := d1
  obtain ⟨C, hC⟩ : ∃ C : Int, m1.cap = C := ⟨_, rfl⟩
  obtain ⟨Z, hZ⟩ : ∃ Z : Nat, sizeF m1.files = Z := ⟨_, rfl⟩
  have e7 : IntKind.i64.wrap (C - (Z : Int)) = C - (Z : Int) := IntWalk.i64_in _ ⟨by omega, by omega⟩
  have hSz := fun q => size_any A1 n1 c1 m1.files S ((w3.alloc (.cells #[.string ⟨s.name.toArray⟩, .slice none 0 0, .int .i64 0] 54)).drewN q) (HX2.out.2.2.turn (((Turn.refl S w3).alloc _).drewN q)) (by omega) (by omega)
  rw [hZ] at hSz
  rw [hC] at e1 hmc
  have HC := Lib.hid hC
  have HZ := Lib.hid hZ
  have d3 : decide (C - (Z : Int) < (n : Int)) = false := decide_eq_false (by rw [hmc, ← hZ, hmf2, ← hda.1]; omega)
  have d4 : decide ((n : Int) > C - (Z : Int)) = false := d3
  have hbyt3 : BytS w3 (fun k => k = p) A n s.data := hda.turn HX2.out.1.turn
  clear hZ hC hmc hcap hfu hsz1 hda hmf2
  go_wp2_with fail
  go_quiet ((go_at_call 33; exact Calls.quiet_of_same (hSz _)))
  clear e7 hSz
  have HBY : Hid (Byt ((w3.alloc (.cells #[.string ⟨s.name.toArray⟩, .slice none 0 0, .int .i64 0] 54)).drewN nq) ((w3.alloc (.cells #[.string ⟨s.name.toArray⟩, .slice none 0 0, .int .i64 0] 54)).drewN nq).heap.size A n s.data) := Lib.hid (hbyt3.turn (((Turn.refl (fun k => k = p) w3).alloc (.cells #[.string ⟨s.name.toArray⟩, .slice none 0 0, .int .i64 0] 54)).drewN nq)).byt
  clear hbyt3
  have HR4 : Hid (Turn (fun k => k = p) w3 ((w3.alloc (.cells #[.string ⟨s.name.toArray⟩, .slice none 0 0, .int .i64 0] 54)).drewN nq) ∧ RD ((w3.alloc (.cells #[.string ⟨s.name.toArray⟩, .slice none 0 0, .int .i64 0] 54)).drewN nq) S p m1 ∧ Blk ((w3.alloc (.cells #[.string ⟨s.name.toArray⟩, .slice none 0 0, .int .i64 0] 54)).drewN nq) W.heap.size 46 (spL 1 s A n c) ∧ Blk ((w3.alloc (.cells #[.string ⟨s.name.toArray⟩, .slice none 0 0, .int .i64 0] 54)).drewN nq) w3.heap.size 54 [.string ⟨s.name.toArray⟩, .slice none 0 0, .int .i64 0] ∧ Below w3.heap.size w3 ((w3.alloc (.cells #[.string ⟨s.name.toArray⟩, .slice none 0 0, .int .i64 0] 54)).drewN nq)) := Lib.hid ⟨((Turn.refl (fun k => k = p) w3).alloc _).drewN nq, (HX2.out.1.rd.turn (S' := fun _ => False) ((Turn.refl (fun _ => False) w3).alloc _) (fun k hk => hk.elim) (fun hk => hk)).drewN nq, (HX2.out.1.box.alloc _).drewN nq, (Blk.new w3 _ _ rfl).drewN nq, below_drewN ((Below.refl _ w3).alloc (Nat.le_refl _) _) nq⟩
  have HGG := Lib.hid hlt
  revert HR4 HBY
  generalize (w3.alloc (.cells #[.string ⟨s.name.toArray⟩, .slice none 0 0, .int .i64 0] 54)).drewN nq = w4
  intro HBY HR4
  obtain ⟨g, hg⟩ : ∃ g, w3.heap.size = g := ⟨_, rfl⟩
  rw [hg] at HR4 HGG ⊢
  have HG := Lib.hid hg
  clear hg b0 b1 b2 b3 e0 e1 hfz hlt hlt2 d1 d2 d3 d4
  have b0 : w4.cell? ⟨W.heap.size, 0, none⟩ = some (.int .i64 1) := HR4.out.2.2.1.cell 0
  have b3 : w4.cell? ⟨W.heap.size, 3, none⟩ = some (.slice A n c) := HR4.out.2.2.1.cell 3
  have f1 : w4.cell? ⟨g, 1, none⟩ = some (.slice none 0 0) := HR4.out.2.2.2.1.cell 1
  have hgw := HR4.out.2.2.2.1.lt
  go_wp2_with fail
  have hown4 : (w4.alloc (.cells #[] 5)).ownsRow w4.heap.size 5 1 (.slice (some ⟨w4.heap.size, 0, none⟩) 0 0) 0 [] := World.ownsRow_made w4 #[] 0 (Nat.le_refl _) (Nat.zero_le _) rfl
  have hb4 : Below w4.heap.size w4 (w4.alloc (.cells #[] 5)).drew := below_drew ((Below.refl _ w4).alloc (Nat.le_refl _) _)
  have hby4 := HBY.out
  have hgfz := HR4.out.2.2.2.1.frozen 1
  have hbx := HR4.out.2.2.1.lt
  have HBW := Lib.hid (And.intro hb4 hgw)
  go_cut [] from 108 to 115 (fun wx => FileAt w3 wx g S ⟨s.name, ([] : List UInt8) ++ s.data, 0⟩)
  case first =>
    go_region_law (first
      | (refine step_append_byt rfl (.tmp 108) (.tmp 110) 44 rfl w4.heap.size 5 iu (.int .u8 0) Try.underlying44 hiu hu0 hu1 hu2 rfl _ 0 [] rfl (hown4.drew) w4.heap.size none 0 0 ([] : List UInt8) rfl (Byt.nil) (fun _ => rfl) (by omega) (by simp) ?_; intro v5 w5 hown5 hgr5; have hb5 : Below w4.heap.size w4 w5 := hb4.grown hgr5 (by simp) (fun q hq => (hown4.lt q hq).1); have y3 := (hb5.cell (p := ⟨W.heap.size, 3, none⟩) hbx).trans b3)
      | (refine step_append_byt rfl (.tmp 111) (.tmp 113) 44 rfl w4.heap.size 5 iu (.int .u8 0) Try.underlying44 hiu hu0 hu1 hu2 rfl v5 _ _ rfl hown5 w4.heap.size A n c s.data rfl (hby4.below hb5) (fun h => (hnil h).2) (by omega) hb5.size ?_; intro v6 w6 hown6 hgr6; obtain ⟨A6, c6, rfl, hq1, hq2, hq3⟩ := own_formk hown6; have hb6 : Below w4.heap.size w4 w6 := hb5.grown hgr6 hb5.size (fun q hq => (hown5.lt q hq).1); have y1 := (hb6.cell (p := ⟨g, 1, none⟩) hgw).trans f1; have yz := (hb6.frozen (p := ⟨g, 1, none⟩) hgw).trans hgfz))
    all_goals
      go_wp2_with fail
      go_meet
      exact fileAt_made HG.out HR4.out.2.2.2.2 HR4.out.2.2.2.1 hb6 (by simpa using hown6) (by simpa using hq1) (by simpa using hq2) hq3 (fun k hk => by have h1 := HSW.out k hk; have h2 := HGG.out; omega)
  case rest =>
    obtain ⟨A6, n6, c6, hbk, hfv, hbl⟩ := hcut
    have hbl3 : Below w3.heap.size w3 wc := by rw [HG.out]; exact hbl
    have hT3 : Turn (fun _ => False) w3 wc := (Turn.of_below hbl3)
    have hT4 : Turn S w3 wc := Turn.of_below hbl3
    have hRc : RD wc.drew S p m1 := (HX2.out.1.rd.turn hT3 (fun k hk => hk.elim) (fun hk => hk)).drewN 1
    have hBc : Blk wc p 40 (dkL m1 A1 n1 c1) := HX2.out.2.1.below hbl3 HX2.out.2.1.lt
    have hFc : Fls wc S A1 n1 m1.files := HX2.out.2.2.turn hT4
    have hWi := with_any A1 n1 c1 m1.files _ _ (fun k => S k ∨ wc.heap.size ≤ k) wc.drew ((hFc.turn ((Turn.refl S wc).drewN 1)).more fun k hk hl => by
      rcases hk with h | h
      · exact h
      · exact absurd h (Nat.not_le.2 hl)) (hfv.turn ((Turn.refl _ wc).drewN 1)) (fun k hk => .inr hk) (by omega)
    obtain ⟨L, hL⟩ : ∃ L, withF ⟨s.name, ([] : List UInt8) ++ s.data, 0⟩ false m1.files = L := ⟨_, rfl⟩
    rw [hL] at hWi
    have HE2 : Hid (doD m s = (0, withFs m1 L)) := Lib.hid (by rw [HE.out, fileF_none _ _ hlo, ← hL])
    clear hL
    have e0 : wc.cell? ⟨p, 0, none⟩ = some (.slice A1 n1 c1) := hBc.cell 0
    have hfz0 : wc.frozen? ⟨p, 0, none⟩ = false := hBc.frozen 0
    have hpw := hBc.lt
    have g0 : wc.cell? ⟨g, 0, none⟩ = some (.string ⟨s.name.toArray⟩) := hbk.cell 0
    have g1 : wc.cell? ⟨g, 1, none⟩ = some (.slice A6 n6 c6) := hbk.cell 1
    have g2 : wc.cell? ⟨g, 2, none⟩ = some (.int .i64 0) := hbk.cell 2
    have HT := Lib.hid ((HX2.out.1.turn.trans (hT3.mono (fun k hk => hk.elim) : Turn (fun k => k = p) w3 wc)))
    have HRc := Lib.hid hRc
    clear hbk hfv hbl hbl3 hT3 hT4 hRc hBc hFc
    go_wp2_with fail
    go_region_with ((go_at_call 34; refine hWi.mono ?_; rintro e w7 ⟨v7, xs7, rfl, hown7, hx7, hb7⟩; obtain ⟨A7, c7, rfl, hr1, hr2, hr3⟩ := own_formk hown7; have y0 := (hb7.cell (p := ⟨p, 0, none⟩) hpw).trans e0; have yz := (hb7.frozen (p := ⟨p, 0, none⟩) hpw).trans hfz0))
    all_goals
      go_wp2_with fail
      go_ret
      rw [HE2.out]
      have hP := rd_put HRc.out hown7 (hx7.less fun k hk => .inl hk) hb7
      exact ⟨rfl, hP.1, (HT.out.drewN 1).trans hP.2⟩

end Go.Proofs.Ytikghnbhbehepaa
