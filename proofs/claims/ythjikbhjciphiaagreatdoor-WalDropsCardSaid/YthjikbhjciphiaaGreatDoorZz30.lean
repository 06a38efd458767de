/-
  A journal's disk behind a crash, and opened again. No program stands here.
-/
import Derived.Test.YthjikbhjciphiaaGreatDoorZz29
namespace Go.Proofs.YthjikbhjciphiaaGreatDoor
open Go.RowKit
set_option linter.unusedVariables false
set_option linter.unusedSimpArgs false

section
variable {fs : List Fl} {own : Nat} {pre : List (Nat × List UInt8)} {R0 cur : List Rc}
theorem HeldJ.shut (h : HeldJ fs own pre R0 cur) (h1 : 1 ≤ own) (hs : own + 1 < 9223372036854775808) : ∃ own' pre', HeldJ fs own' pre' (R0 ++ cur) [] ∧ own' ≤ own + 1 := by
  by_cases hc : cur = []
  · subst hc
    exact ⟨own, pre, by rw [List.append_nil]; exact h, by omega⟩
  · exact ⟨own + 1, _, h.left hc hs h1, Nat.le_refl _⟩
/-- Where the next segment goes. -/
def nextS (l : List (Nat × List UInt8)) : Nat := (l.getLast?.map fun p => p.1 + 1).getD 1
theorem HeldJ.open_ (h : HeldJ fs own pre R0 []) : HeldJ fs (nextS pre) pre R0 [] ∧ 1 ≤ nextS pre ∧ nextS pre ≤ max own 1 := by
  have hb : ∀ p ∈ pre, p.1 < nextS pre := by
    intro p hp
    unfold nextS
    obtain ⟨q, hq⟩ : ∃ q, pre.getLast? = some q := by
      cases hx : pre.getLast? with
      | none => rw [List.getLast?_eq_none_iff] at hx; rw [hx] at hp; cases hp
      | some q => exact ⟨q, rfl⟩
    rw [hq]
    show p.1 < q.1 + 1
    obtain ⟨i, hi⟩ := List.mem_iff_getElem?.1 hp
    have hil := (List.getElem?_eq_some_iff.1 hi).1
    rw [List.getLast?_eq_getElem?] at hq
    have hr := h.rise
    rw [List.pairwise_iff_getElem] at hr
    by_cases e : i = pre.length - 1
    · rw [e] at hi
      rw [hi] at hq
      rw [Option.some.inj hq]
      omega
    · have := hr i (pre.length - 1) (by simpa using hil) (by simp; omega) (by omega)
      rw [List.getElem_map, List.getElem_map] at this
      obtain ⟨_, e1⟩ := List.getElem?_eq_some_iff.1 hi
      obtain ⟨_, e2⟩ := List.getElem?_eq_some_iff.1 hq
      rw [e1, e2] at this
      omega
  have hle : 1 ≤ nextS pre ∧ nextS pre ≤ max own 1 := by
    unfold nextS
    cases hx : pre.getLast? with
    | none => exact ⟨Nat.le_refl _, by simp; omega⟩
    | some q =>
      have := h.less q (List.mem_of_getLast? hx)
      show 1 ≤ q.1 + 1 ∧ q.1 + 1 ≤ _
      omega
  exact ⟨⟨h.files, h.rise, fun p hp => ⟨(h.less p hp).1, hb p hp⟩, by have := h.small; omega, h.recs, h.ok, h.chain⟩, hle⟩
end

/-- A disk, up or down, that holds the first k of the records put. -/
def Left (m : Dk) (f : Nat) (put : List Rc) (sure b : Nat) : Prop := ∃ own pre k, HeldJ m.files own pre ((numR put f).take k) [] ∧ own ≤ b ∧ sure ≤ k ∧ k ≤ put.length
theorem Left.crash {m : Dk} {f sure b : Nat} {put : List Rc} (h : Left m f put sure b) (keep : Int) : Left (crashD keep m) f put sure b := by
  obtain ⟨own, pre, k, h1, h2⟩ := h
  refine ⟨own, pre, k, ?_, h2⟩
  show HeldJ (m.files.map (cutF keep)) own pre _ []
  rw [h1.crash keep]
  exact h1
section
variable {m : Dk} {j : Jn} {f sure : Nat} {put : List Rc}
theorem JS.left (h : JS m j f put sure) (hb : j.own ≤ 1000) : Left m f put sure (j.own + 1) := by
  obtain ⟨pre, R0, cur, h1, h2⟩ := h.held
  obtain ⟨o, p, h3, h4⟩ := h1.shut h.own1 (by omega)
  exact ⟨o, p, sure, by rw [← h2]; exact h3, h4, Nat.le_refl _, h.le⟩
/-- A commit by which the disk crashes. -/
theorem JS.torn (h : JS m j f put sure) (hb : j.own ≤ 1000) (hn : j.buf ≠ []) (h19 : (commitJ m j).1 = 19) : Left (commitJ m j).2.1 f put sure (j.own + 1) := by
  obtain ⟨pre, R0, cur, h1, h2⟩ := h.held
  have hfl := h.files hb
  have hok : ∀ r ∈ j.buf, okRc r := fun r hr => h.ok r (List.mem_of_mem_drop (by rw [← h.buf]; exact hr))
  have hall : R0 ++ (cur ++ j.buf) = numR put f := by rw [← List.append_assoc, h2, h.buf, List.take_append_drop]
  have hch : Chain (R0 ++ (cur ++ j.buf)) := by rw [hall]; exact numR_chain _ _ (by have := h.small; omega)
  have h19' : (commitD m j.own j.buf).1 = 19 := h19
  rcases commit_does h1 h.up (by omega) j.buf hn with ⟨k1, _⟩ | ⟨k1, _⟩ | ⟨k1, k2, k3, k5, k4⟩
  · rw [h19'] at k1; cases k1
  · rw [h19'] at k1; cases k1
  · rcases k4 with k4 | ⟨keep, k4⟩
    · obtain ⟨o, p, h3, h4⟩ := h1.shut h.own1 (by omega)
      refine ⟨o, p, sure, ?_, h4, Nat.le_refl _, h.le⟩
      show HeldJ (commitD m j.own j.buf).2.files o p _ []
      rw [k4, ← h2]
      exact h3
    · obtain ⟨D, k, q1, q2, q3⟩ := h1.torn j.buf hok hch keep (by omega) h.own1
      have hbl := h.blen
      have hle := h.le
      refine ⟨j.own + 1, pre ++ [(j.own, D)], sure + k, ?_, Nat.le_refl _, by omega, by omega⟩
      show HeldJ (commitD m j.own j.buf).2.files _ _ _ []
      have e : (numR put f).take (sure + k) = R0 ++ (cur ++ j.buf.take k) := by
        rw [← List.append_assoc, h2, h.buf]
        have hsl : ((numR put f).take sure).length = sure := by rw [List.length_take, numR_len]; omega
        have := List.take_append_drop sure (numR put f)
        rw [← this, List.take_append, hsl, List.take_of_length_le (by omega), Nat.add_sub_cancel_left, List.take_append_drop]
      rw [k4, q2, e]
      exact q3
end
theorem numR_take (l : List Rc) (f k : Nat) : numR (l.take k) f = (numR l f).take k := by
  unfold numR
  apply List.ext_getElem?
  intro i
  rw [List.getElem?_mapIdx, List.getElem?_take, List.getElem?_take, List.getElem?_mapIdx]
  split <;> rfl
/-- Opened again. -/
theorem Left.opens {m : Dk} {f sure b next : Nat} {put : List Rc} (h : Left m f put sure b) (hup : m.down = false) (hf : f = max next 1) (hs : f + put.length < 9223372036854775808) (hok : ∀ r ∈ numR put f, okRc r) :
    ∃ k, sure ≤ k ∧ k ≤ put.length ∧ (openJ m next).2 = numR (put.take k) f ∧ JS m (openJ m next).1 f (put.take k) k ∧ (openJ m next).1.own ≤ max b 1 := by
  obtain ⟨own, pre, k, h1, h2, h3, h4⟩ := h
  obtain ⟨h5, h6, h7⟩ := h1.open_
  have ha := h1.all
  have hR : segsR [] ((segsD m.files).map Prod.snd) = numR (put.take k) f := by rw [ha.2.2, List.append_nil, numR_take]
  have hD : segsD m.files = pre := by rw [ha.2.1]; unfold allJ; rw [if_pos rfl, List.append_nil]
  have hlen : (put.take k).length = k := by rw [List.length_take]; omega
  have hnx : nextJ (numR (put.take k) f) next = f + k := by
    unfold nextJ
    cases hx : (numR (put.take k) f).getLast? with
    | none =>
      rw [List.getLast?_eq_none_iff] at hx
      have := numR_len (put.take k) f
      rw [hx, hlen] at this
      have h0 : k = 0 := this.symm
      show max next 1 = f + k
      omega
    | some r =>
      rw [List.getLast?_eq_getElem?] at hx
      have := numR_at (put.take k) f _ (by omega) r hx
      rw [numR_len, hlen] at this
      show r.seq + 1 = f + k
      omega
  have hj : openJ m next = (⟨nextS pre, f + k, f + k - 1, [], 0⟩, numR (put.take k) f) := by
    unfold openJ
    rw [hR, hD, hnx]
    rfl
  refine ⟨k, h3, h4, by rw [hj], ?_, by rw [hj]; show nextS pre ≤ _; omega⟩
  rw [hj]
  have hnl := numR_len (put.take k) f
  refine ⟨⟨pre, (numR put f).take k, [], h5, ?_⟩, ?_, by rw [hlen], rfl, by omega, ?_, by omega, by omega, h6, hup, by rw [h5.own_file]; rfl⟩
  · rw [List.append_nil, numR_take, List.take_take, Nat.min_self]
  · show ([] : List Rc) = _
    rw [List.drop_of_length_le (by omega)]
  · intro r hr
    rw [numR_take] at hr
    exact hok r (List.mem_of_mem_take hr)

end Go.Proofs.YthjikbhjciphiaaGreatDoor

/-
  Law 14: WalFull, by the program's contracts.
-/
namespace Go.Proofs.YthjikbhjciphiaaGreatDoor
open Go.RowKit
set_option linter.unusedVariables false
set_option linter.unusedSimpArgs false

theorem check_at (r : Rc) (s : Nat) (h : 1 ≤ s) : checkC (r.at_ s) = checkC (r.at_ 1) := by
  have h1 : rcRange (r.at_ s) = rcRange (r.at_ 1) := by
    unfold rcRange
    rw [show decide ((r.at_ s).seq ≠ 0) = true from decide_eq_true (show s ≠ 0 by omega)]
    rfl
  unfold checkC
  rw [h1]
  rfl
theorem JS.start (cap : Int) : JS (newDk cap) ⟨1, 1, 0, [], 0⟩ 1 [] 0 :=
  ⟨⟨[], [], [], ⟨rfl, List.Pairwise.nil, fun _ h => (by cases h), by decide, rfl, fun _ h => (by cases h), fun i a b h => by simp at h⟩, rfl⟩, rfl, rfl, rfl, Nat.le_refl _, fun _ h => (by cases h), Nat.le_refl _, by decide, Nat.le_refl _, rfl, rfl⟩
theorem JS.okJ {m : Dk} {j : Jn} {f sure : Nat} {put : List Rc} (h : JS m j f put sure) (hb : j.own ≤ 190) (hx : OkX 180 m) (hs : sizeF m.files ≤ 20000) : OkJ m := by
  obtain ⟨pre, R0, cur, h1, _⟩ := h.held
  exact ⟨hx, Nat.le_trans (h.files (by omega)) hb, hs, _, _, _, _, h1⟩
/-- What stands between two records of WalFull. -/
def FullR (N : Nat) (I : World → Prop) (PD : World → (Nat → Prop) → Nat → Dk → Prop) (LA : World → (Nat → Prop) → Nat → Nat → Jn → Prop) (W : World) (q p : Nat) (C : Int) (i n sure : Nat) (w : World) : Prop :=
  ∃ S T m j put, PD w S q m ∧ LA w T p q j ∧ (∀ k, S k → ¬ T k) ∧ (∀ k, S k ∨ T k → W.heap.size ≤ k) ∧ JS m j 1 put sure ∧ put.length = n ∧ n ≤ i ∧ m.armed = false ∧ m.cap = C ∧ j.own ≤ i + 1 ∧ sizeF m.files + (segB j.buf).length ≤ 56 * n ∧ ((sizeF m.files : Int) ≤ C ∧ OkX (2 * n) m) ∧ Below W.heap.size W w ∧ I w
theorem FullR.turn {N : Nat} {I : World → Prop} {PD : World → (Nat → Prop) → Nat → Dk → Prop} {LA : World → (Nat → Prop) → Nat → Nat → Jn → Prop} {W : World} {q p : Nat} {Cp : Int} {i n sure : Nat} {w w' : World} {F : Nat → Prop} (h : FullR N I PD LA W q p Cp i n sure w) (C : WalC N I PD LA) (ht : Turn F w w') (hF : ∀ k, ¬ F k) : FullR N I PD LA W q p Cp i n sure w' := by
  obtain ⟨S, T, m, j, put, hP, hL, hd, hST, hJ, hpn, hki, harm, hcap, hown, hsz, hle, hb, hI⟩ := h
  exact ⟨S, T, m, j, put, C.dturn hP ht (fun k hk => (hF k hk).elim), C.lturn hL ht (fun k hk => (hF k hk).elim), hd, hST, hJ, hpn, hki, harm, hcap, hown, hsz, hle, hb.trans (ht.below hb.size (fun k hk => (hF k hk).elim)), C.iturn hI ht (fun k hk => (hF k hk).elim)⟩

set_option maxRecDepth 100000 in
set_option maxHeartbeats 8000000 in
theorem walFull_small {N : Nat} {I : World → Prop} {PD : World → (Nat → Prop) → Nat → Dk → Prop} {LA : World → (Nat → Prop) → Nat → Nat → Jn → Prop} (C : WalC N I PD LA) (cap : Int) (A : Option Addr) (n c : Nat) (l : List Rc) (W : World) (hI : I W) (hN : N ≤ W.heap.size) (hc1 : -9223372036854775808 ≤ cap) (hc2 : cap < 9223372036854775808)
    (hR : Rcs W (fun k => W.heap.size ≤ k) A n l) (hf : Fine l) (hnc : n ≤ c) (hcm : c ≤ maxLen) (hl : largeR l = false) :
    Calls Tryz.prog 4 #[.int .i64 cap, .slice A n c] W fun e W' => e = .returned (.bool true) ∧ Below W.heap.size W W' := by
  have hLg := refLargeR_any A n c l _ W hR (Nat.le_trans hnc hcm) hf
  rw [hl] at hLg
  obtain ⟨hl60, hten⟩ := large_not l hl
  have hln := hR.len
  have hNew := C.new W cap hI hN hc1 hc2
  have HR := Lib.hid (And.intro hR (And.intro hf (And.intro hten (And.intro hl60 (And.intro hln (And.intro hN hI))))))
  have hn60 : n ≤ 60 := by omega
  clear hl hR hf hten hl60 hln hN hI hnc hcm
  go_enter Tryz.func4, Tryz.ntmps4
  go_wp2_with fail
  refine hLg.mono ?_
  rintro e w0 ⟨rfl, rfl⟩
  go_wp2_with fail
  refine hNew.mono ?_
  rintro e w1 ⟨q, S, rfl, hP, hS, hb1⟩
  have i1 := C.iturn HR.out.2.2.2.2.2.2 (Turn.of_below (S := fun _ => False) hb1) (fun _ h => h.elim)
  have hO := C.opens w1 S q (newDk cap) 1 i1 hP (held_new cap hc2) rfl (by decide) (by rw [open_new]; decide)
  rw [open_new] at hO
  clear hNew hLg
  go_wp2_with fail
  refine hO.mono ?_
  rintro e w2 ⟨p, T, A2, n2, c2, rfl, hL, hT, hR2, hnc2, hcm2, hb2⟩
  have hs1 := hb1.size
  have HF : Hid (FullR N I PD LA w0 q p (max cap 0) 0 0 0 w2) := Lib.hid ⟨S, T, newDk cap, _, [], C.dturn hP (Turn.of_below (S := fun _ => False) hb2) (fun _ h => h.elim), hL, fun k hk h => by have := ((C.dhere hP).2 k hk).2; have := hT k h; omega, fun k hk => by
    rcases hk with h | h
    · exact hS k h
    · have := hT k h; omega, JS.start cap, rfl, Nat.le_refl _, rfl, rfl, Nat.le_refl _, Nat.le_refl _, ⟨by show ((0 : Nat) : Int) ≤ _; omega, Nat.le_refl _, (show (0 : Nat) < 18446744073709551616 by decide), by show 0 ≤ max cap 0; omega, by show max cap 0 < _; omega⟩, bthen hb1 hb2, C.iturn i1 (Turn.of_below (S := fun _ => False) hb2) (fun _ h => h.elim)⟩
  clear hP hS hb1 i1 hO hL hT hR2 hnc2 hcm2 hb2 hs1
  go_wp2_with fail
  go_loopw [9, 10, 11] (fun v9 v10 v11 wr => ∃ k s i : Nat, v9 = .int .i64 k ∧ v10 = .int .i64 s ∧ v11 = .int .i64 i ∧ i ≤ n ∧ FullR N I PD LA w0 q p (max cap 0) i k s wr) (fun _ _ v11 _ => n - (intOf v11).toNat)
  case atStart => exact ⟨0, 0, 0, rfl, rfl, rfl, Nat.zero_le _, HF.out⟩
  case round =>
    obtain ⟨k, s, i, rfl, rfl, rfl, hi, hF⟩ := hrel
    obtain ⟨S, T, m, j, put, hP, hL, hd, hST, hJ, hpn, hki, harm, hcap, hown, hsz, hle, hb, hI⟩ := hF
    have hsle := hJ.le
    by_cases hlt : i < n
    · have t1 : (i : Int) < (n : Int) := by omega
      have hi9 : i ≤ 60 := by omega
      have hk9 : k ≤ 60 := by omega
      have hs9 : s ≤ 60 := by omega
      obtain ⟨r, hr⟩ : ∃ r, l[i]? = some r := ⟨_, List.getElem?_eq_getElem (by have := HR.out.2.2.2.2.1; omega)⟩
      obtain ⟨g, o, rfl, hgw, hgl, f0, f1, f2, f3, f4, f5⟩ := Rcs.at_ HR.out.1 hr
      have hrl := List.mem_of_getElem? hr
      have hok := HR.out.2.1 r hrl
      have h100 := HR.out.2.2.1 r hrl
      have e0 := (hb.cell (p := ⟨g, o + i * 6, none⟩) hgl).trans f0
      have e1 := (hb.cell (p := ⟨g, o + i * 6 + 1, none⟩) hgl).trans f1
      have e2 := (hb.cell (p := ⟨g, o + i * 6 + 2, none⟩) hgl).trans f2
      have e3 := (hb.cell (p := ⟨g, o + i * 6 + 3, none⟩) hgl).trans f3
      have e4 := (hb.cell (p := ⟨g, o + i * 6 + 4, none⟩) hgl).trans f4
      have e5 := (hb.cell (p := ⟨g, o + i * 6 + 5, none⟩) hgl).trans f5
      have hRt := right14_any r.seq r.kind ⟨r.ten.toArray⟩ r.lease r.n r.bits (by show r.ten.toArray.size ≤ _; rw [List.size_toArray]; omega) hok.1.2.2.2.2.2 wr
      rw [show (⟨r.ten.toArray⟩ : ByteArray).data.toList = r.ten from rfl, show (⟨1, r.kind, r.ten, r.lease, r.n, r.bits⟩ : Rc) = r.at_ 1 from rfl] at hRt
      unfold rcV at hRt
      have HJ := Lib.hid (And.intro hP (And.intro hL (And.intro hd (And.intro hST (And.intro hJ (And.intro hpn (And.intro hki (And.intro harm (And.intro hcap (And.intro hown (And.intro hsz (And.intro hle (And.intro hb (And.intro hI (And.intro hlt (And.intro hok h100))))))))))))))))
      clear hP hL hd hST hJ hpn hki harm hcap hown hsz hle hb hI f0 f1 f2 f3 f4 f5 hr hrl hok h100 hlt hi hsle
      by_cases hck : checkC (r.at_ 1) = 0
      · rw [decide_eq_true hck] at hRt
        have HC := Lib.hid hck
        clear hck
        go_wp2_with fail
        refine hRt.mono ?_
        rintro e w3 ⟨rfl, hb3⟩
        obtain ⟨hP, hL, hd, hST, hJ, hpn, hki, harm, hcap, hown, hsz, hle, hb, hI, hlt, hok, h100⟩ := HJ.out
        have hgl3 : g < wr.heap.size := Nat.lt_of_lt_of_le hgl hb.size
        have d0 := (hb3.cell (p := ⟨g, o + i * 6, none⟩) hgl3).trans e0
        have d1 := (hb3.cell (p := ⟨g, o + i * 6 + 1, none⟩) hgl3).trans e1
        have d2 := (hb3.cell (p := ⟨g, o + i * 6 + 2, none⟩) hgl3).trans e2
        have d3 := (hb3.cell (p := ⟨g, o + i * 6 + 3, none⟩) hgl3).trans e3
        have d4 := (hb3.cell (p := ⟨g, o + i * 6 + 4, none⟩) hgl3).trans e4
        have d5 := (hb3.cell (p := ⟨g, o + i * 6 + 5, none⟩) hgl3).trans e5
        have hP3 := C.dturn hP (Turn.of_below (S := fun _ => False) hb3) (fun _ h => h.elim)
        have hL3 := C.lturn hL (Turn.of_below (S := fun _ => False) hb3) (fun _ h => h.elim)
        have i3 := C.iturn hI (Turn.of_below (S := fun _ => False) hb3) (fun _ h => h.elim)
        have hbB := bthen hb hb3
        have hnx := hJ.next
        have hokn : okRc (r.at_ j.next) := ⟨by rw [check_at r j.next (by omega)]; exact HC.out, by
          obtain ⟨q0, q1, q2, q3, q4, q5⟩ := hok.1
          exact ⟨by show j.next < _; omega, q1, q2, q3, q4, q5⟩⟩
        obtain ⟨hpj, hJ4⟩ := hJ.puts r hokn (by omega)
        have hU := C.put w3 T p q j r.seq r.kind ⟨r.ten.toArray⟩ r.lease r.n r.bits i3 hL3 (by omega) (by rw [hJ.blen]; omega) hok.1 (by show r.ten.toArray.size ≤ _; rw [List.size_toArray]; omega)
        rw [show (⟨r.seq, r.kind, (⟨r.ten.toArray⟩ : ByteArray).data.toList, r.lease, r.n, r.bits⟩ : Rc) = r from rfl, hpj] at hU
        unfold rcV at hU
        obtain ⟨j4, hj4⟩ : ∃ x, (⟨j.own, j.next + 1, j.sure, j.buf ++ [r.at_ j.next], j.size⟩ : Jn) = x := ⟨_, rfl⟩
        have hjo : j4.own = j.own ∧ j4.buf = j.buf ++ [r.at_ j.next] := by rw [← hj4]; exact ⟨rfl, rfl⟩
        rw [hj4] at hU hJ4
        have hse : (segB j4.buf).length ≤ (segB j.buf).length + 56 := by
          rw [hjo.2, segB_app, List.length_append]
          have := (lenB_le [r.at_ j.next] (fun q hq => by rw [List.mem_singleton.1 hq]; exact hokn)).1
          simp at this ⊢
          omega
        have HK := Lib.hid (show PD w3 S q m ∧ (∀ k, S k → ¬ T k) ∧ (∀ k, S k ∨ T k → w0.heap.size ≤ k) ∧ JS m j4 1 (put ++ [r]) s ∧ (put ++ [r]).length = k + 1 ∧ k + 1 ≤ i + 1 ∧ m.armed = false ∧ m.cap = max cap 0 ∧ j4.own ≤ i + 1 ∧ sizeF m.files + (segB j4.buf).length ≤ 56 * (k + 1) ∧ ((sizeF m.files : Int) ≤ max cap 0 ∧ OkX (2 * k) m) ∧ Below w0.heap.size w0 w3 ∧ I w3 ∧ i < n ∧ j4.buf ≠ [] from
          ⟨hP3, hd, hST, hJ4, by rw [List.length_append, hpn]; rfl, by omega, harm, hcap, by omega, by omega, hle, hbB, i3, hlt, by rw [hjo.2]; simp⟩)
        clear hP hL hd hST hJ hpn hki harm hcap hown hsz hle hb hI hlt hok h100 hgl3 e0 e1 e2 e3 e4 e5 hP3 hL3 i3 hbB hnx hokn hpj hJ4 hj4 hjo hse hb3 hRt HJ HC
        go_wp2_with fail
        refine hU.mono ?_
        rintro e w4 ⟨T4, rfl, hL4, hT4, ht4⟩
        obtain ⟨hP, hd, hST, hJ, hpn, hki, harm, hcap, hown, hsz, hle, hb, hI, hlt, hne⟩ := HK.out
        have hSl := (C.dhere hP).2
        have hN0 := HR.out.2.2.2.2.2.1
        have hTk : ∀ k, T k → N ≤ k ∧ ¬ S k := fun x hx => ⟨by have := hST x (.inr hx); omega, fun h => hd x h hx⟩
        have i4 := C.iturn hI ht4 fun x hx => (hTk x hx).1
        have hP4 := C.dturn hP ht4 hTk
        have hb4 : Below w0.heap.size w0 w4 := hb.trans (ht4.below hb.size fun x hx => hST x (.inr hx))
        have hbl := hJ.blen
        have hCm := C.commit w4 S T4 p q m j4 i4 hP4 hL4 (fun x hx h => by
          rcases hT4 x h with h | h
          · exact hd x hx h
          · have := (hSl x hx).2; omega) (hJ.okJ (by omega) ⟨by have := hle.2.1; omega, hle.2.2⟩ (by omega)) (by omega) (fun y hy => hJ.ok y (List.mem_of_mem_drop (by rw [← hJ.buf]; exact hy))) (by obtain ⟨a, b, c, h, _⟩ := hJ.held; exact ⟨a, b, c, h⟩) hJ.size hJ.up (by omega)
        obtain ⟨k1, hk1⟩ : ∃ x, k + 1 = x := ⟨_, rfl⟩
        have g1 : (k : Int) + 1 = (k1 : Int) := by omega
        have k19 : k1 ≤ 61 := by omega
        have hw1 : IntKind.u64.wrap (k1 : Int) = (k1 : Int) := by rw [IntKind.wrap_u64]; omega
        have hw2 : IntKind.u64.wrap (s : Int) = (s : Int) := by rw [IntKind.wrap_u64]; omega
        have hsk : s ≤ k1 := by have := hJ.le; omega
        have hsz4 := hb4.size
        have hsz3 := hb.size
        have hT4a : ∀ x, S x ∨ T4 x → w0.heap.size ≤ x := fun x hx => by
          rcases hx with h | h
          · exact hST x (.inl h)
          · rcases hT4 x h with h | h
            · exact hST x (.inr h)
            · omega
        rcases hJ.commit (by omega) hne with ⟨c0, hJ5, ha5, hcap5, ho5, hs5, hr5⟩ | ⟨c0, hJ5, hj5, ha5, hcap5, hf5, _⟩ | ⟨_, harm2, _⟩
        · rw [c0] at hCm
          have hbl5 := hJ5.blen
          have hla5 := hJ5.last
          rw [Nat.sub_self] at hbl5
          have HM := Lib.hid (show JS (commitJ m j4).2.1 (commitJ m j4).2.2 1 (put ++ [r]) k1 ∧ (put ++ [r]).length = k1 ∧ k1 ≤ i + 1 ∧ (commitJ m j4).2.1.armed = false ∧ (commitJ m j4).2.1.cap = max cap 0 ∧ (commitJ m j4).2.2.own ≤ i + 1 + 1 ∧ sizeF (commitJ m j4).2.1.files + (segB (commitJ m j4).2.2.buf).length ≤ 56 * k1 ∧ ((sizeF (commitJ m j4).2.1.files : Int) ≤ max cap 0 ∧ OkX (2 * k1) (commitJ m j4).2.1) ∧ Below w0.heap.size w0 w4 ∧ I w4 ∧ (∀ x, S x ∨ T4 x → w0.heap.size ≤ x) ∧ i < n from
            ⟨by rw [← hk1, ← hpn]; exact hJ5, by omega, by omega, ha5.trans harm, hcap5.trans hcap, by omega, by
              have : (commitJ m j4).2.2.buf = [] := List.eq_nil_of_length_eq_zero hbl5
              rw [this, segB_nil, hs5]
              simp
              omega, ⟨by rw [hs5]; omega, by have := OkX.commit j4.own j4.buf hle.2; rw [← hk1]; exact this⟩, hb4, i4, hT4a, hlt⟩)
          have hla6 : (commitJ m j4).2.2.sure = k1 := by omega
          clear hP hd hST hJ hpn hki harm hcap hown hsz hle hb hI hlt hne hSl hTk i4 hP4 hb4 hbl hJ5 ha5 hcap5 ho5 hs5 hr5 hL4 hT4 ht4 hU hsz4 hsz3 hT4a c0 hla5 hk1 hsk HK
          go_wp2_with fail
          refine hCm.mono ?_
          rintro e w5 ⟨S5, T5, rfl, hP5, hL5, hd5, hS5, hT5, ht5⟩
          have hWt := C.waits w5 T5 p q _ hL5
          have hSu := C.sure w5 T5 p q _ hL5
          rw [hbl5] at hWt
          rw [hla6] at hSu
          have HF5 : Hid (FullR N I PD LA w0 q p (max cap 0) (i + 1) k1 k1 w5) := Lib.hid (by
            obtain ⟨m1, m2, m3, m4, m5, m6, m7, m8, m9, m10, m11, m12⟩ := HM.out
            have := m9.size
            exact ⟨S5, T5, _, _, _, hP5, hL5, hd5, fun x hx => by
              rcases hx with h | h
              · rcases hS5 x h with h | h
                · exact m11 x (.inl h)
                · omega
              · rcases hT5 x h with h | h
                · exact m11 x (.inr h)
                · omega, m1, m2, m3, m4, m5, m6, m7, m8, m9.trans (ht5.below m9.size m11), C.iturn m10 ht5 (fun x hx => by have := m11 x hx; omega)⟩)
          have HL := Lib.hid HM.out.2.2.2.2.2.2.2.2.2.2.2
          clear hP5 hL5 hd5 hS5 hT5 ht5 hbl5 hla6 hCm HM
          go_wp2_with fail
          refine hWt.mono ?_
          rintro e w6 ⟨rfl, rfl⟩
          go_wp2_with fail
          refine hSu.mono ?_
          rintro e w7 ⟨rfl, k7, rfl⟩
          have HF7 := Lib.hid (FullR.turn HF5.out C ((Turn.refl (fun _ => False) _).drewN k7) (fun _ h => h.elim))
          clear HF5
          go_wp2_with fail
          go_roundw
          case rel => exact ⟨k1, k1, i + 1, rfl, rfl, by go_num, by have := HL.out; omega, HF7.out⟩
          case measure => have := HL.out; simp [intOf]; omega
        · rw [c0] at hCm
          obtain ⟨b1, hb1⟩ : ∃ x, k1 - s = x := ⟨_, rfl⟩
          have g2 : (k1 : Int) - (s : Int) = (b1 : Int) := by omega
          have hbl5 := hJ5.blen
          have hla5 := hJ5.last
          have hla6 : (commitJ m j4).2.2.sure = s := by omega
          have hbl6 : (commitJ m j4).2.2.buf.length = b1 := by omega
          have HM := Lib.hid (show JS (commitJ m j4).2.1 (commitJ m j4).2.2 1 (put ++ [r]) s ∧ (put ++ [r]).length = k1 ∧ k1 ≤ i + 1 ∧ (commitJ m j4).2.1.armed = false ∧ (commitJ m j4).2.1.cap = max cap 0 ∧ (commitJ m j4).2.2.own ≤ i + 1 + 1 ∧ sizeF (commitJ m j4).2.1.files + (segB (commitJ m j4).2.2.buf).length ≤ 56 * k1 ∧ ((sizeF (commitJ m j4).2.1.files : Int) ≤ max cap 0 ∧ OkX (2 * k1) (commitJ m j4).2.1) ∧ Below w0.heap.size w0 w4 ∧ I w4 ∧ (∀ x, S x ∨ T4 x → w0.heap.size ≤ x) ∧ i < n from
            ⟨hJ5, by omega, by omega, ha5.trans harm, hcap5.trans hcap, by rw [hj5]; omega, by rw [hj5, hf5]; omega, ⟨by rw [hf5]; exact hle.1, by have := OkX.commit j4.own j4.buf hle.2; rw [← hk1]; exact this⟩, hb4, i4, hT4a, hlt⟩)
          clear hP hd hST hJ hpn hki harm hcap hown hsz hle hb hI hlt hne hSl hTk i4 hP4 hb4 hbl hJ5 ha5 hcap5 hj5 hf5 hL4 hT4 ht4 hU hsz4 hsz3 hT4a c0 hla5 hbl5 hk1 hsk HK hb1
          go_wp2_with fail
          refine hCm.mono ?_
          rintro e w5 ⟨S5, T5, rfl, hP5, hL5, hd5, hS5, hT5, ht5⟩
          have hWt := C.waits w5 T5 p q _ hL5
          have hSu := C.sure w5 T5 p q _ hL5
          rw [hbl6] at hWt
          rw [hla6] at hSu
          have HF5 : Hid (FullR N I PD LA w0 q p (max cap 0) (i + 1) k1 s w5) := Lib.hid (by
            obtain ⟨m1, m2, m3, m4, m5, m6, m7, m8, m9, m10, m11, m12⟩ := HM.out
            have := m9.size
            exact ⟨S5, T5, _, _, _, hP5, hL5, hd5, fun x hx => by
              rcases hx with h | h
              · rcases hS5 x h with h | h
                · exact m11 x (.inl h)
                · omega
              · rcases hT5 x h with h | h
                · exact m11 x (.inr h)
                · omega, m1, m2, m3, m4, m5, m6, m7, m8, m9.trans (ht5.below m9.size m11), C.iturn m10 ht5 (fun x hx => by have := m11 x hx; omega)⟩)
          have HL := Lib.hid HM.out.2.2.2.2.2.2.2.2.2.2.2
          clear hP5 hL5 hd5 hS5 hT5 ht5 hbl6 hla6 hCm HM
          go_wp2_with fail
          refine hWt.mono ?_
          rintro e w6 ⟨rfl, rfl⟩
          go_wp2_with fail
          refine hSu.mono ?_
          rintro e w7 ⟨rfl, k7, rfl⟩
          have HF7 := Lib.hid (FullR.turn HF5.out C ((Turn.refl (fun _ => False) _).drewN k7) (fun _ h => h.elim))
          clear HF5
          go_wp2_with fail
          go_roundw
          case rel => exact ⟨k1, s, i + 1, rfl, rfl, by go_num, by have := HL.out; omega, HF7.out⟩
          case measure => have := HL.out; simp [intOf]; omega
        · rw [harm] at harm2; cases harm2
      · rw [decide_eq_false hck] at hRt
        go_wp2_with fail
        refine hRt.mono ?_
        rintro e w3 ⟨rfl, hb3⟩
        obtain ⟨hP, hL, hd, hST, hJ, hpn, hki, harm, hcap, hown, hsz, hle, hb, hI, hlt, _⟩ := HJ.out
        have HF3 : Hid (FullR N I PD LA w0 q p (max cap 0) (i + 1) k s w3) := Lib.hid ⟨S, T, m, j, put, C.dturn hP (Turn.of_below (S := fun _ => False) hb3) (fun _ h => h.elim), C.lturn hL (Turn.of_below (S := fun _ => False) hb3) (fun _ h => h.elim), hd, hST, hJ, hpn, by omega, harm, hcap, by omega, hsz, hle, bthen hb hb3, C.iturn hI (Turn.of_below (S := fun _ => False) hb3) (fun _ h => h.elim)⟩
        have HL := Lib.hid hlt
        clear hP hL hd hST hJ hpn hki harm hcap hown hsz hle hb hI hlt hb3
        go_wp2_with fail
        go_roundw
        case rel => exact ⟨k, s, i + 1, rfl, rfl, by go_num, by have := HL.out; omega, HF3.out⟩
        case measure => have := HL.out; simp [intOf]; omega
    · have t1 : ¬ (i : Int) < (n : Int) := by omega
      have hok := hJ.okJ (by omega) ⟨by have := hle.2.1; omega, hle.2.2⟩ (by omega)
      replace hle := hle.1
      have hs9 : s ≤ 60 := by omega
      obtain ⟨k2, q1, q2, q3, q4, q5⟩ := (hJ.left (by omega)).opens (next := 1) hJ.up rfl hJ.small hJ.ok
      have hlen : (openJ m 1).2.length = s := by
        obtain ⟨pre, R0, cur, h1, h2⟩ := hJ.held
        show (segsR [] ((segsD m.files).map Prod.snd)).length = s
        rw [h1.all.2.2, h2, List.length_take, numR_len]
        omega
      have hO := C.opens wr S q m 1 hI hP hok hJ.up (by decide) (by rw [q4.next, List.length_take]; omega)
      obtain ⟨M, hM⟩ : ∃ x, max cap 0 = x := ⟨_, rfl⟩
      rw [hM] at hle
      have hm1 : max (0 : Int) cap = M := by omega
      have HE := Lib.hid (And.intro hP (And.intro hb (And.intro hI (And.intro hlen (And.intro hle hok)))))
      clear hP hL hd hST hJ hpn hki harm hcap hown hsz hle hb hI hsle hlt q1 q2 q3 q4 q5 hok hlen hi
      go_wp2_with fail
      refine hO.mono ?_
      rintro e w5 ⟨p5, T5, A5, n5, c5, rfl, _, _, hR5, hnc5, hcm5, hb5⟩
      have hn5 : n5 = s := by rw [← hR5.len]; exact HE.out.2.2.2.1
      subst hn5
      have hSz := C.size w5 S q m (C.dturn HE.out.1 (Turn.of_below (S := fun _ => False) hb5) (fun _ h => h.elim)) HE.out.2.2.2.2.2
      have hle2 := HE.out.2.2.2.2.1
      have HB5 := Lib.hid (And.intro (bthen HE.out.2.1 hb5) (C.iturn HE.out.2.2.1 (Turn.of_below (S := fun _ => False) hb5) (fun _ h => h.elim)))
      clear hO hR5 hnc5 hcm5 hb5
      obtain ⟨Z, hZ⟩ : ∃ z, sizeF m.files = z := ⟨_, rfl⟩
      rw [hZ] at hSz hle2
      clear HE hZ
      rcases Int.lt_trichotomy cap 0 with hcp | hcp | hcp
      · obtain rfl : Z = 0 := by omega
        have hcq : ¬ 0 < cap := by omega
        clear hM hm1 hle2
        go_wp2_with fail
        refine hSz.mono ?_
        rintro e w6 ⟨rfl, hb6⟩
        have hB6 := bthen HB5.out.1 hb6
        have hA := awake14_any C w6 (C.iturn HB5.out.2 (Turn.of_below (S := fun _ => False) hb6) (fun _ h => h.elim)) (Nat.le_trans HR.out.2.2.2.2.2.1 hB6.size)
        have HB6 := Lib.hid hB6
        clear hb6 hB6 hSz
        go_wp2_with fail
        refine hA.mono ?_
        rintro e w7 ⟨rfl, hb7⟩
        have HB7 := Lib.hid (bthen HB6.out hb7)
        clear hb7
        go_wp2_with fail
        go_ret
        exact ⟨rfl, HB7.out⟩
      · subst hcp
        obtain rfl : Z = 0 := by omega
        clear hM hm1 hle2
        go_wp2_with fail
        refine hSz.mono ?_
        rintro e w6 ⟨rfl, hb6⟩
        have hB6 := bthen HB5.out.1 hb6
        have hA := awake14_any C w6 (C.iturn HB5.out.2 (Turn.of_below (S := fun _ => False) hb6) (fun _ h => h.elim)) (Nat.le_trans HR.out.2.2.2.2.2.1 hB6.size)
        have HB6 := Lib.hid hB6
        clear hb6 hB6 hSz
        go_wp2_with fail
        refine hA.mono ?_
        rintro e w7 ⟨rfl, hb7⟩
        have HB7 := Lib.hid (bthen HB6.out hb7)
        clear hb7
        go_wp2_with fail
        go_ret
        exact ⟨rfl, HB7.out⟩
      · have hcq : ¬ cap < 0 := by omega
        have hle3 : (Z : Int) ≤ cap := by omega
        clear hM hm1 hle2
        go_wp2_with fail
        refine hSz.mono ?_
        rintro e w6 ⟨rfl, hb6⟩
        have hB6 := bthen HB5.out.1 hb6
        have hA := awake14_any C w6 (C.iturn HB5.out.2 (Turn.of_below (S := fun _ => False) hb6) (fun _ h => h.elim)) (Nat.le_trans HR.out.2.2.2.2.2.1 hB6.size)
        have HB6 := Lib.hid hB6
        clear hb6 hB6 hSz
        go_wp2_with fail
        refine hA.mono ?_
        rintro e w7 ⟨rfl, hb7⟩
        have HB7 := Lib.hid (bthen HB6.out hb7)
        clear hb7
        go_wp2_with fail
        go_ret
        exact ⟨rfl, HB7.out⟩

theorem walFull_law {N : Nat} {I : World → Prop} {PD : World → (Nat → Prop) → Nat → Dk → Prop} {LA : World → (Nat → Prop) → Nat → Nat → Jn → Prop} (C : WalC N I PD LA) (cap : Int) (A : Option Addr) (n c : Nat) (l : List Rc) (W : World) (hI : I W) (hN : N ≤ W.heap.size) (hc1 : -9223372036854775808 ≤ cap) (hc2 : cap < 9223372036854775808)
    (hR : Rcs W (fun k => W.heap.size ≤ k) A n l) (hf : Fine l) (hnc : n ≤ c) (hcm : c ≤ maxLen) :
    Calls Tryz.prog 4 #[.int .i64 cap, .slice A n c] W fun e W' => e = .returned (.bool true) ∧ Below W.heap.size W W' := by
  cases hl : largeR l with
  | false => exact walFull_small C cap A n c l W hI hN hc1 hc2 hR hf hnc hcm hl
  | true =>
    have hLg := refLargeR_any A n c l _ W hR (Nat.le_trans hnc hcm) hf
    rw [hl] at hLg
    have hA := awake14_any C W hI hN
    clear hl hR hf hnc hcm hI hN hc1 hc2
    go_enter Tryz.func4, Tryz.ntmps4
    go_wp2_with fail
    refine hLg.mono ?_
    rintro e w0 ⟨rfl, rfl⟩
    go_wp2_with fail
    refine hA.mono ?_
    rintro e w1 ⟨rfl, hb1⟩
    have HB := Lib.hid hb1
    clear hb1
    go_wp2_with fail
    go_ret
    exact ⟨rfl, HB.out⟩

end Go.Proofs.YthjikbhjciphiaaGreatDoor
