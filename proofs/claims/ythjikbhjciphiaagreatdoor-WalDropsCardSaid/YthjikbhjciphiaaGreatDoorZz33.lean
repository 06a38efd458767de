/-
  Law 14: what WalDrops keeps, and how each call carries it on.
-/
import Derived.Test.YthjikbhjciphiaaGreatDoorZz31
import Derived.Test.YthjikbhjciphiaaGreatDoorZz32
import Derived.Test.YthjikbhjciphiaaGreatDoorZz3
import Derived.Test.YthjikbhjciphiaaGreatDoorZz29
namespace Go.Proofs.YthjikbhjciphiaaGreatDoor
open Go.RowKit
set_option linter.unusedVariables false
set_option linter.unusedSimpArgs false

/-- The program's Drop, where the disk is not armed. -/
structure WalDp (N : Nat) (I : World → Prop) (PD : World → (Nat → Prop) → Nat → Dk → Prop) (LA : World → (Nat → Prop) → Nat → Nat → Jn → Prop) : Prop where
  drop : ∀ (W : World) (S T : Nat → Prop) (p q : Nat) (m : Dk) (j : Jn) (s : Nat) (pre : List (Nat × List UInt8)) (R0 cur : List Rc), I W → PD W S q m → LA W T p q j → (∀ k, S k → ¬ T k) → OkJ m → m.calls ≤ 125 → m.files.length ≤ 65 → HeldJ m.files j.own pre R0 cur → m.down = false → m.armed = false → s < 18446744073709551616 →
    Calls Tryz.prog 25 #[.pointer (some ⟨p, 0, none⟩), .int .u64 ((s : Nat) : Int)] W fun e W' => ∃ S' m', e = .returned (.int .i64 0) ∧ PD W' S' q m' ∧ m'.files = (pre.filter (dropK s)).map sgF ++ (if cur = [] then [] else [sgF (j.own, segB cur)]) ∧ m'.down = false ∧ OkX (m.calls + pre.length) m' ∧ (∀ k, S' k → S k ∨ W.heap.size ≤ k) ∧ Turn S W W'

theorem sizeF_sub {a b : List Fl} (h : a.Sublist b) : sizeF a ≤ sizeF b := by
  induction h with
  | slnil => exact Nat.le_refl _
  | cons x _ ih => rw [sizeF_cons]; omega
  | cons_cons x _ ih => rw [sizeF_cons, sizeF_cons]; omega
theorem parts_len : ∀ (parts : List (Nat × List Rc)), (∀ x ∈ parts, x.2 ≠ []) → parts.length ≤ (flatP parts).length := by
  intro parts
  induction parts with
  | nil => intro _; exact Nat.le_refl _
  | cons x t ih =>
    intro h
    have h1 := ih fun y hy => h y (List.mem_cons_of_mem _ hy)
    have h2 := List.length_pos_iff.2 (h x List.mem_cons_self)
    rw [flatP_cons, List.length_append, List.length_cons]
    omega
theorem DpJ.start : DpJ (newDk 1048576) ⟨1, 1, 0, [], 0⟩ [] [] [] :=
  ⟨⟨rfl, List.Pairwise.nil, fun _ h => (by cases h), by decide, rfl, fun _ h => (by cases h), fun i a b h => by simp [flatP] at h⟩, rfl, fun _ h => (by cases h), JS.start 1048576, rfl⟩
/-- A record more. -/
def putsJ (j : Jn) (r : Rc) : Jn := ⟨j.own, j.next + 1, j.sure, j.buf ++ [r.at_ j.next], j.size⟩
theorem DpJ.step {m : Dk} {j : Jn} {put : List Rc} {parts : List (Nat × List Rc)} {cur : List Rc} {i : Nat} (h : DpJ m j put parts cur) (r : Rc) (hr : okRc (r.at_ j.next)) (hM : Meas m 0 i) (hi : i ≤ 80) (ho : j.own ≤ 100) (hpl : put.length ≤ 80) :
    putJ j r = ((j.next, 0), putsJ j r) ∧ JS m (putsJ j r) 1 (put ++ [r]) put.length ∧ (commitJ m (putsJ j r)).1 = 0 ∧ (∃ parts' cur', DpJ (commitJ m (putsJ j r)).2.1 (commitJ m (putsJ j r)).2.2 (put ++ [r]) parts' cur') ∧ Meas (commitJ m (putsJ j r)).2.1 0 (i + 1) ∧ (commitJ m (putsJ j r)).2.2.own ≤ j.own + 1 := by
  obtain ⟨hpj, hJ1⟩ := h.js.puts r hr (by omega)
  replace hJ1 : JS m (putsJ j r) 1 (put ++ [r]) put.length := hJ1
  have hbl := h.js.blen
  rw [Nat.sub_self] at hbl
  have hb0 : j.buf = [] := List.eq_nil_of_length_eq_zero hbl
  have hb1 : (putsJ j r).buf = [r.at_ j.next] := by show j.buf ++ _ = _; rw [hb0]; rfl
  have hne : (putsJ j r).buf ≠ [] := by rw [hb1]; simp
  have hln := (lenB_le [r.at_ j.next] (fun q hq => by rw [List.mem_singleton.1 hq]; exact hr)).1
  have hms := hM.size
  have hcap := hM.cap
  have hfl := h.js.files (by omega)
  refine ⟨hpj, hJ1, ?_⟩
  have hx2 : OkX (2 * (i + 1)) (commitJ m (putsJ j r)).2.1 := by
    have := OkX.commit (putsJ j r).own (putsJ j r).buf hM.x
    exact this
  rcases hJ1.commit (by show j.own ≤ _; omega) hne with ⟨c0, hJ5, ha5, hcap5, ho5, hs5, hr5⟩ | ⟨_, _, _, _, _, _, hr5⟩ | ⟨_, harm, _⟩
  · refine ⟨c0, ?_, ⟨hcap5.trans hcap, ?_, hx2⟩, ho5⟩
    · have hnum : flatP parts ++ (cur ++ [r.at_ j.next]) = numR (put ++ [r]) 1 := by
        rw [numR_snoc, ← List.append_assoc, h.all, ← h.js.next, Nat.mod_eq_of_lt (by have := h.js.next; omega)]
      have hch : Chain (flatP parts ++ (cur ++ [r.at_ j.next])) := by rw [hnum]; exact numR_chain _ _ (by rw [List.length_append, List.length_singleton]; omega)
      have hd := h.held.done [r.at_ j.next] (by simp) (fun q hq => by rw [List.mem_singleton.1 hq]; exact hr) hch
      have hdo := commit_does h.held h.js.up (by omega) [r.at_ j.next] (by simp)
      have hfil : (commitJ m (putsJ j r)).2.1.files = (parts.map segP).map sgF ++ [sgF (j.own, segB (cur ++ [r.at_ j.next]))] := by
        show (commitD m j.own (putsJ j r).buf).2.files = _
        rw [hb1]
        have c1 : (commitD m j.own [r.at_ j.next]).1 = 0 := by
          have h2 : (commitD m j.own (putsJ j r).buf).1 = 0 := c0
          rwa [hb1] at h2
        rcases hdo with ⟨_, _, _, _, k4, _⟩ | ⟨k1, _⟩ | ⟨k1, _⟩
        · exact k4
        · rw [c1] at k1; cases k1
        · rw [c1] at k1; cases k1
      have hjj : (commitJ m (putsJ j r)).2.2.own = if 256 ≤ (fileF (nameL j.own) (commitJ m (putsJ j r)).2.1.files).data.length then j.own + 1 else j.own := by
        have h2 : (commitD m (putsJ j r).own (putsJ j r).buf).1 = 0 := c0
        unfold commitJ
        simp only
        rw [if_pos ⟨h2, hne⟩]
        rfl
      have hlen : (put ++ [r]).length = put.length + 1 := by rw [List.length_append]; rfl
      by_cases hl : 256 ≤ (fileF (nameL j.own) (commitJ m (putsJ j r)).2.1.files).data.length
      · rw [if_pos hl] at hjj
        refine ⟨parts ++ [(j.own, cur ++ [r.at_ j.next])], [], ?_, ?_, fun x hx => ?_, hJ5, ha5.trans h.arm⟩
        · have hle := hd.left (by simp) (by omega) h.js.own1
          rw [hfil, hjj]
          have e1 : (parts ++ [(j.own, cur ++ [r.at_ j.next])]).map segP = parts.map segP ++ [(j.own, segB (cur ++ [r.at_ j.next]))] := by rw [List.map_append]; rfl
          have e2 : flatP (parts ++ [(j.own, cur ++ [r.at_ j.next])]) = flatP parts ++ (cur ++ [r.at_ j.next]) := by unfold flatP; simp
          rw [e1, e2]
          exact hle
        · have e2 : flatP (parts ++ [(j.own, cur ++ [r.at_ j.next])]) = flatP parts ++ (cur ++ [r.at_ j.next]) := by unfold flatP; simp
          rw [e2, List.append_nil]
          exact hnum
        · rcases List.mem_append.1 hx with hx | hx
          · exact h.full x hx
          · rw [List.mem_singleton.1 hx]
            simp
      · rw [if_neg hl] at hjj
        refine ⟨parts, cur ++ [r.at_ j.next], ?_, hnum, h.full, hJ5, ha5.trans h.arm⟩
        rw [hfil, hjj]
        exact hd
    · rw [hs5, hb1]
      simp at hln
      omega
  · rw [hb1] at hr5
    simp at hln
    omega
  · rw [h.arm] at harm; cases harm

/-- Between two records. -/
def DpsR (N : Nat) (I : World → Prop) (PD : World → (Nat → Prop) → Nat → Dk → Prop) (LA : World → (Nat → Prop) → Nat → Nat → Jn → Prop) (W : World) (q i n : Nat) (xs : List Rc) (p : Nat) (v : Value) (w : World) : Prop :=
  ∃ S T m j put parts cur, PD w S q m ∧ LA w T p q j ∧ (∀ k, S k → ¬ T k) ∧ (∀ k, S k ∨ T k → W.heap.size ≤ k) ∧ DpJ m j (put ++ xs) parts cur ∧ put.length = n ∧ n + xs.length ≤ i ∧ j.own ≤ i + 1 ∧ Meas m 0 (n + xs.length) ∧ PutV W (fun k => S k ∨ T k) v put w ∧ Below W.heap.size W w ∧ I w
/-- .. a record put, not committed. -/
def DphR (N : Nat) (I : World → Prop) (PD : World → (Nat → Prop) → Nat → Dk → Prop) (LA : World → (Nat → Prop) → Nat → Nat → Jn → Prop) (W : World) (q i n : Nat) (r : Rc) (p : Nat) (v : Value) (w : World) : Prop :=
  ∃ S T m j put parts cur, PD w S q m ∧ LA w T p q (putsJ j r) ∧ (∀ k, S k → ¬ T k) ∧ (∀ k, S k ∨ T k → W.heap.size ≤ k) ∧ DpJ m j put parts cur ∧ okRc (r.at_ j.next) ∧ put.length = n ∧ n ≤ i ∧ j.own ≤ i + 1 ∧ Meas m 0 n ∧ PutV W (fun k => S k ∨ T k) v put w ∧ Below W.heap.size W w ∧ I w
/-- The disk behind the drop. -/
def DrpR (N : Nat) (I : World → Prop) (PD : World → (Nat → Prop) → Nat → Dk → Prop) (W : World) (q n k s : Nat) (put : List Rc) (v : Value) (w : World) : Prop :=
  ∃ S m, PD w S q m ∧ (∀ k, S k → W.heap.size ≤ k) ∧ OkJ m ∧ m.down = false ∧ (openJ m (n + 1)).2 = (numR put 1).drop k ∧ (openJ m (n + 1)).1.next = n + 1 ∧ put.length = n ∧ k ≤ n ∧ (k = 0 ∨ ∃ r, (numR put 1)[k - 1]? = some r ∧ r.seq ≤ s) ∧ PutV W S v put w ∧ Below W.heap.size W w ∧ I w
section
variable {N : Nat} {I : World → Prop} {PD : World → (Nat → Prop) → Nat → Dk → Prop} {LA : World → (Nat → Prop) → Nat → Nat → Jn → Prop} {W w w' : World} {q i n p : Nat} {xs : List Rc} {v : Value}
theorem DpsR.below (h : DpsR N I PD LA W q i n xs p v w) : Below W.heap.size W w ∧ I w := by obtain ⟨_, _, _, _, _, _, _, _, _, _, _, _, _, _, _, _, _, h, hi⟩ := h; exact ⟨h, hi⟩
theorem DpsR.turn (h : DpsR N I PD LA W q i n xs p v w) (C : WalC N I PD LA) (hb2 : Below w.heap.size w w') : DpsR N I PD LA W q i n xs p v w' := by
  obtain ⟨S, T, m, j, put, parts, cur, hP, hL, hd, hST, hJ, hpn, hni, how, hM, hV, hb, hI⟩ := h
  have ht : Turn (fun _ => False) w w' := Turn.of_below hb2
  exact ⟨S, T, m, j, put, parts, cur, C.dturn hP ht (fun _ h => h.elim), C.lturn hL ht (fun _ h => h.elim), hd, hST, hJ, hpn, hni, how, hM, hV.turn ht (fun _ _ h => h), bthen hb hb2, C.iturn hI ht (fun _ h => h.elim)⟩
theorem DpsR.mono {i' : Nat} (h : DpsR N I PD LA W q i n xs p v w) (hi : i ≤ i') : DpsR N I PD LA W q i' n xs p v w := by
  obtain ⟨S, T, m, j, put, parts, cur, hP, hL, hd, hST, hJ, hpn, hni, how, hM, hV, hb, hI⟩ := h
  exact ⟨S, T, m, j, put, parts, cur, hP, hL, hd, hST, hJ, hpn, by omega, by omega, hM, hV, hb, hI⟩
theorem DpsR.puts (h : DpsR N I PD LA W q i n [] p v w) (C : WalC N I PD LA) (hi : i ≤ 60) (r : Rc) (X : ByteArray) (hX : X.data.toList = r.ten) (ho : r.okay) (ht : r.ten.length ≤ 100) (hc : checkC (r.at_ 1) = 0) :
    Calls Tryz.prog 12 #[.pointer (some ⟨p, 0, none⟩), rcV r.seq r.kind X r.lease r.n r.bits] w fun e w' => e = .returned (.tuple #[.int .u64 ((1 + n : Nat) : Int), .int .i64 0]) ∧ DphR N I PD LA W q i n r p v w' ∧ Turn (fun k => W.heap.size ≤ k) w w' := by
  obtain ⟨S, T, m, j, put, parts, cur, hP, hL, hd, hST, hJ, hpn, hni, how, hM, hV, hb, hI⟩ := h
  rw [List.append_nil] at hJ
  simp at hni hM
  have hnx := hJ.js.next
  have hokn : okRc (r.at_ j.next) := ⟨by rw [check_at r j.next (by omega)]; exact hc, by
    obtain ⟨q0, q1, q2, q3, q4, q5⟩ := ho
    exact ⟨by show j.next < _; omega, q1, q2, q3, q4, q5⟩⟩
  obtain ⟨hpj, _⟩ := hJ.step r hokn hM (by omega) (by omega) (by omega)
  have hXs : X.size ≤ 10000 := by
    have : X.size = X.data.toList.length := rfl
    rw [hX] at this
    omega
  have hU := C.put w T p q j r.seq r.kind X r.lease r.n r.bits hI hL (by omega) (by rw [hJ.js.blen]; omega) (by rw [hX]; exact ho) hXs
  rw [show (⟨r.seq, r.kind, X.data.toList, r.lease, r.n, r.bits⟩ : Rc) = r by rw [hX], hpj] at hU
  refine hU.mono ?_
  rintro e w4 ⟨T4, rfl, hL4, hT4, ht4⟩
  have hSl := (C.dhere hP).2
  have hTl := (C.lhere hL).2
  have hTk : ∀ k, T k → N ≤ k ∧ ¬ S k := fun x hx => ⟨(hTl x hx).1, fun h => hd x h hx⟩
  refine ⟨by rw [hnx, hpn], ⟨S, T4, m, j, put, parts, cur, C.dturn hP ht4 hTk, hL4, fun k hk h => ?_, fun k hk => ?_, hJ, hokn, hpn, by omega, by omega, hM, ?_, hb.trans (ht4.below hb.size fun k hk => hST k (.inr hk)), C.iturn hI ht4 fun k hk => (hTl k hk).1⟩, ht4.mono fun k hk => hST k (.inr hk)⟩
  · rcases hT4 k h with h1 | h1
    · exact hd k hk h1
    · have := (hSl k hk).2; omega
  · rcases hk with hk | hk
    · exact hST k (.inl hk)
    · rcases hT4 k hk with h1 | h1
      · exact hST k (.inr h1)
      · have := hb.size; omega
  · refine (hV.turn ht4 fun k hk h => hV.2.1 k hk (.inr h)).less' fun k hk h => ?_
    have hlt : k < w.heap.size := (hV.1.lt k hk).2
    rcases h with h | h
    · exact .inl h
    · rcases hT4 k h with h1 | h1
      · exact .inr h1
      · omega
theorem DphR.commits {r : Rc} (h : DphR N I PD LA W q i n r p v w) (C : WalC N I PD LA) (hi : i ≤ 60) :
    Calls Tryz.prog 14 #[.pointer (some ⟨p, 0, none⟩)] w fun e w' => e = .returned (.int .i64 0) ∧ DpsR N I PD LA W q (i + 1) n [r] p v w' ∧ Turn (fun k => W.heap.size ≤ k) w w' := by
  obtain ⟨S, T, m, j, put, parts, cur, hP, hL, hd, hST, hJ, hokn, hpn, hni, how, hM, hV, hb, hI⟩ := h
  obtain ⟨hpj, hJ1, c0, ⟨parts', cur', hJ2⟩, hM2, ho2⟩ := hJ.step r hokn hM (by omega) (by omega) (by omega)
  have hO : OkJ m := hM.okJ hJ.js (by omega) (by omega)
  have hbl := hJ1.blen
  have hCm := C.commit w S T p q m (putsJ j r) hI hP hL hd hO (by rw [hbl, List.length_append, List.length_singleton]; omega) (fun y hy => hJ1.ok y (List.mem_of_mem_drop (by rw [← hJ1.buf]; exact hy))) ⟨_, _, _, hJ.held⟩ hJ1.size hJ1.up (by show j.own < _; omega)
  rw [c0] at hCm
  refine hCm.mono ?_
  rintro e w5 ⟨S5, T5, rfl, hP5, hL5, hd5, hS5, hT5, ht5⟩
  have hbs := hb.size
  refine ⟨rfl, ⟨S5, T5, _, _, put, parts', cur', hP5, hL5, hd5, fun k hk => ?_, hJ2, hpn, by simp; omega, by omega, by show Meas _ 0 (n + 1); exact hM2, ?_, hb.trans (ht5.below hb.size hST), C.iturn hI ht5 fun k hk => ?_⟩, ht5.mono hST⟩
  · rcases hk with h | h
    · rcases hS5 k h with h1 | h1
      · exact hST k (.inl h1)
      · omega
    · rcases hT5 k h with h1 | h1
      · exact hST k (.inr h1)
      · omega
  · refine (hV.turn ht5 fun k hk h => hV.2.1 k hk h).less' fun k hk h => ?_
    have hlt : k < w.heap.size := (hV.1.lt k hk).2
    rcases h with h | h
    · rcases hS5 k h with h1 | h1
      · exact .inl h1
      · omega
    · rcases hT5 k h with h1 | h1
      · exact .inr h1
      · omega
  · rcases hk with hk | hk
    · exact ((C.dhere hP).2 k hk).1
    · exact ((C.lhere hL).2 k hk).1
/-- The row grows by the record that the journal has already. -/
theorem DpsR.row {r : Rc} (h : DpsR N I PD LA W q i n [r] p v w) (C : WalC N I PD LA) (ho : r.okay) (ht : r.ten.length ≤ 100) (hNW : N ≤ W.heap.size) : ∃ put A c, v = .slice A n c ∧ w.ownsRow W.heap.size 35 6 v n (rcCells put) ∧ n + 1 ≤ i ∧ W.heap.size ≤ w.heap.size ∧
    ∀ (o : Obj) (v' : Value) (w' : World), w'.ownsRow W.heap.size 35 6 v' (n + 1) (rcCells put ++ r.cells) → (w.alloc o).grownBy w' v.ownBlock → (v'.ownBlock = v.ownBlock ∨ v'.ownBlock = some (w.alloc o).heap.size) → DpsR N I PD LA W q i (n + 1) [] p v' w' := by
  obtain ⟨S, T, m, j, put, parts, cur, hP, hL, hd, hST, hJ, hpn, hni, how, hM, hV, hb, hI⟩ := h
  obtain ⟨A, c, hv, h1, h2, h3⟩ := own_formk hV.1
  have hV1 := hV.1
  rw [hpn] at hV1 hv
  refine ⟨put, A, c, hv, hV1, by simpa using hni, hb.size, fun o v' w' hown hgr hat => ?_⟩
  have hsz : (w.alloc o).heap.size = w.heap.size + 1 := by simp
  have ht1 : Turn (fun k => v.ownBlock = some k) w w' := (Turn.refl _ w).alloc o |>.trans ⟨hgr.os, hgr.tape, hgr.output, hgr.size, fun k hk hn => hgr.block k hk fun e => hn e.symm⟩
  have hoff : ∀ k, v.ownBlock = some k → ¬ (S k ∨ T k) := hV.2.1
  have hlen : (put ++ [r]).length = n + 1 := by rw [List.length_append, hpn]; rfl
  have hvW : ∀ k, v.ownBlock = some k → W.heap.size ≤ k := fun k hk => (hV1.lt k hk).1
  refine ⟨S, T, m, j, put ++ [r], parts, cur, C.dturn hP ht1 fun k hk => ⟨?_, fun h => hoff k hk (.inl h)⟩, C.lturn hL ht1 fun k hk => ⟨?_, fun h => hoff k hk (.inr h)⟩, hd, hST, by rw [List.append_nil]; exact hJ, hlen, by simpa using hni, how, by simpa using hM, ⟨?_, fun k hk h => ?_, fun q hq => ?_⟩, hb.trans (ht1.below hb.size hvW), C.iturn hI ht1 fun k hk => ?_⟩
  · have := hvW k hk; omega
  · have := hvW k hk; omega
  · rw [hlen, rcCells_snoc]; exact hown
  · rcases hat with e | e
    · exact hoff k (e.symm.trans hk) h
    · rw [e] at hk
      have hk2 : (w.alloc o).heap.size = k := Option.some.inj hk
      rcases h with h | h
      · have := ((C.dhere hP).2 k h).2; omega
      · have := ((C.lhere hL).2 k h).2; omega
  · rcases List.mem_append.1 hq with hq | hq
    · exact hV.2.2 q hq
    · rw [List.mem_singleton.1 hq]
      exact ⟨ho, by unfold maxLen; omega⟩
  · have := hvW k hk; omega
theorem DpsR.drops (h : DpsR N I PD LA W q i n [] p v w) (C : WalC N I PD LA) (D : WalDp N I PD LA) (hi : i ≤ 60) (s : Nat) (hs : s < 18446744073709551616) :
    Calls Tryz.prog 25 #[.pointer (some ⟨p, 0, none⟩), .int .u64 ((s : Nat) : Int)] w fun e w' => e = .returned (.int .i64 0) ∧ ∃ put k, DrpR N I PD W q n k s put v w' := by
  obtain ⟨S, T, m, j, put, parts, cur, hP, hL, hd, hST, hJ, hpn, hni, how, hM, hV, hb, hI⟩ := h
  rw [List.append_nil] at hJ
  simp at hni hM
  have hfl := hJ.js.files (by omega)
  have hO : OkJ m := hM.okJ hJ.js (by omega) (by omega)
  refine (D.drop w S T p q m j s _ _ _ hI hP hL hd hO (by have := hM.x.1; omega) (by omega) hJ.held hJ.js.up hJ.arm hs).mono ?_
  rintro e w3 ⟨S3, m3, rfl, hP3, hf3, hd3, hx3, hS3, ht3⟩
  obtain ⟨k, k1, k2, k3, k4, pre', R0', hH'⟩ := drops_math hJ s hf3 (by omega)
  rw [hpn] at k1 k2 k3
  have hpl := parts_len parts hJ.full
  have hall := congrArg List.length hJ.all
  rw [List.length_append, numR_len, hpn] at hall
  rw [List.length_map] at hx3
  have hO3 : OkJ m3 := by
    refine ⟨⟨by have := hx3.1; have := hM.x.1; omega, hx3.2⟩, by have := hH'.count hJ.js.own1; omega, ?_, _, _, _, _, hH'⟩
    have hsub : m3.files.Sublist m.files := by
      rw [hf3, hJ.held.files]
      exact List.Sublist.append (List.filter_sublist.map _) (List.Sublist.refl _)
    have h1 := sizeF_sub hsub
    have h2 := hM.size
    omega
  refine ⟨rfl, put, k, S3, m3, hP3, fun x hx => ?_, hO3, hd3, k2, k3, hpn, k1, k4, ?_, hb.trans (ht3.below hb.size fun x hx => hST x (.inl hx)), C.iturn hI ht3 fun x hx => ((C.dhere hP).2 x hx).1⟩
  · rcases hS3 x hx with h1 | h1
    · exact hST x (.inl h1)
    · have := hb.size; omega
  · refine (hV.turn ht3 fun x hx h => hV.2.1 x hx (.inl h)).less' fun x hx h => ?_
    have hlt : x < w.heap.size := (hV.1.lt x hx).2
    rcases hS3 x h with h1 | h1
    · exact .inl h1
    · omega
end

end Go.Proofs.YthjikbhjciphiaaGreatDoor

/-
  Law 14: WalDrops, by the program's contracts.
-/
namespace Go.Proofs.YthjikbhjciphiaaGreatDoor
open Go.RowKit
set_option linter.unusedVariables false
set_option linter.unusedSimpArgs false

theorem rcs_drop {w : World} {S : Nat → Prop} {g o n k : Nat} {l : List Rc} (h : Rcs w S (some ⟨g, o, none⟩) n l) (hk : k ≤ n) : Rcs w S (some ⟨g, o + k * 6, none⟩) (n - k) (l.drop k) := by
  have hl := h.len
  refine ⟨by rw [rcPs_len, List.length_drop]; omega, fun f hf => ?_, fun h0 => ?_⟩
  · unfold rcPs at hf
    rw [List.map_drop] at hf
    exact h.2.1 f (List.mem_of_mem_drop hf)
  · obtain ⟨b, o2, e, hb, hlt, hf⟩ := h.2.2 (by omega)
    have e1 : g = b ∧ o = o2 := by
      injection e with e
      injection e with e1 e2 _
      exact ⟨e1, e2⟩
    obtain ⟨rfl, rfl⟩ := e1
    refine ⟨g, o + k * 6, rfl, hb, hlt, fun j f hj => ?_⟩
    have hj2 : (rcPs l)[k + j]? = some f := by
      unfold rcPs at hj ⊢
      rw [List.map_drop, List.getElem?_drop] at hj
      exact hj
    obtain ⟨ys, h1, h2⟩ := hf (k + j) f hj2
    refine ⟨ys, h1, fun i y hy => ?_⟩
    have h3 := h2 i y hy
    rwa [show o + (k + j) * 6 + i = o + k * 6 + j * 6 + i by omega] at h3
theorem fine_num1 {l : List Rc} {k : Nat} (h : Fine l) : Fine ((numR l 1).drop k) := by
  intro r hr
  have h1 := fine_num (f := 1) (k := (numR l 1).length) h
  rw [List.take_length] at h1
  exact h1 r (List.mem_of_mem_drop hr)
section
variable {N : Nat} {I : World → Prop} {PD : World → (Nat → Prop) → Nat → Dk → Prop} {LA : World → (Nat → Prop) → Nat → Nat → Jn → Prop} {W w : World} {q n k s : Nat} {put : List Rc} {v : Value}
theorem DrpR.row (h : DrpR N I PD W q n k s put v w) : ∃ A c, v = .slice A n c ∧ Rcs w (fun k => w.heap.size ≤ k) A n put ∧ n ≤ c ∧ c ≤ maxLen ∧ Fine put ∧ put.length = n ∧ k ≤ n ∧ (k = 0 ∨ ∃ r, (numR put 1)[k - 1]? = some r ∧ r.seq ≤ s) ∧ Below W.heap.size W w := by
  obtain ⟨S, m, hP, hS, hO, hd, h1, h2, hpn, hkn, hk, hV, hb, hI⟩ := h
  obtain ⟨A, c, hv, g1, g2, g3⟩ := own_formk hV.1
  obtain ⟨A2, c2, hv2, hR⟩ := Rcs.of_own (S := fun k => w.heap.size ≤ k) hV.1 (fun k hk => .inr hk)
  rw [hv] at hv2
  injection hv2 with e1 e2 e3
  subst e1 e3
  rw [hpn] at hv hR g2
  exact ⟨A, c, hv, hR, g2, g3, hV.2.2, hpn, hkn, hk, hb⟩
theorem DrpR.opens_ (h : DrpR N I PD W q n k s put v w) (C : WalC N I PD LA) (hn : n ≤ 1000) :
    Calls Tryz.prog 10 #[.pointer (some ⟨q, 0, none⟩), .int .u64 ((n + 1 : Nat) : Int)] w fun e w' => ∃ p A c, e = .returned (.tuple #[.pointer (some ⟨p, 0, none⟩), .slice A (n - k) c, .int .i64 0]) ∧ Rcs w' (fun _ => False) A (n - k) ((numR put 1).drop k) ∧ n - k ≤ c ∧ c ≤ maxLen ∧ Below w.heap.size w w' ∧
      (∀ w'', Below w'.heap.size w' w'' → Calls Tryz.prog 11 #[.pointer (some ⟨p, 0, none⟩)] w'' fun e w3 => e = .returned (.int .u64 ((n + 1 : Nat) : Int)) ∧ w3 = w'') ∧ ∀ w'', Below w'.heap.size w' w'' → I w'' := by
  obtain ⟨S, m, hP, hS, hO, hd, h1, h2, hpn, hkn, hk, hV, hb, hI⟩ := h
  refine (C.opens w S q m (n + 1) hI hP hO hd (by omega) (by rw [h2]; omega)).mono ?_
  rintro e w2 ⟨p, T, A, n2, c, rfl, hL2, hT, hR, hnc, hcm, hb2⟩
  rw [h1] at hR
  have hn2 : n2 = n - k := by rw [← hR.len, List.length_drop, numR_len, hpn]
  subst hn2
  refine ⟨p, A, c, rfl, Sls.less hR (fun _ h => h.elim), hnc, hcm, hb2, fun w'' hw => ?_, fun w'' hw => C.iturn (C.iturn hI (Turn.of_below (S := fun _ => False) hb2) (fun _ h => h.elim)) (Turn.of_below (S := fun _ => False) hw) (fun _ h => h.elim)⟩
  have h3 := C.next w'' T p q _ (C.lturn hL2 (Turn.of_below (S := fun _ => False) hw) (fun _ h => h.elim))
  rwa [h2] at h3
end

theorem Rcs.nonempty {w : World} {S : Nat → Prop} {A : Option Addr} {n : Nat} {l : List Rc} (h : Rcs w S A n l) (hn : 0 < n) : ∃ g o, A = some ⟨g, o, none⟩ := by
  obtain ⟨b, o, e, _⟩ := h.2.2 hn
  exact ⟨b, o, e⟩

set_option maxRecDepth 100000 in
set_option maxHeartbeats 2000000 in
theorem walDrops_small {N : Nat} {I : World → Prop} {PD : World → (Nat → Prop) → Nat → Dk → Prop} {LA : World → (Nat → Prop) → Nat → Nat → Jn → Prop} (C : WalC N I PD LA) (D : WalDp N I PD LA) (A : Option Addr) (n c : Nat) (l : List Rc) (s : Nat) (W : World) (hI : I W) (hN : N ≤ W.heap.size)
    (hR : Rcs W (fun k => W.heap.size ≤ k) A n l) (hf : Fine l) (hnc : n ≤ c) (hcm : c ≤ maxLen) (hl : largeR l = false) (hs : s < 18446744073709551616) :
    Calls Tryz.prog 5 #[.slice A n c, .int .u64 ((s : Nat) : Int)] W fun e W' => e = .returned (.bool true) ∧ Below W.heap.size W W' := by
  obtain ⟨i0, hi0, hz0, hz1, hz2⟩ := info_parts Tryz.infoRc
  have hLg := refLargeR_any A n c l _ W hR (Nat.le_trans hnc hcm) hf
  rw [hl] at hLg
  obtain ⟨hl60, hten⟩ := large_not l hl
  have hln := hR.len
  have hNew := C.new W 1048576 hI hN (by decide) (by decide)
  have HR := Lib.hid (And.intro hR (And.intro hf (And.intro hten (And.intro hl60 (And.intro hln (And.intro hN hI))))))
  have hn60 : n ≤ 60 := by omega
  clear hl hR hf hten hl60 hln hN hI hnc hcm
  go_enter Tryz.func5, Tryz.ntmps5
  go_wp2_with fail
  refine hLg.mono ?_
  rintro e w0 ⟨rfl, rfl⟩
  go_wp2_with fail
  refine hNew.mono ?_
  rintro e w1 ⟨q, S, rfl, hP, hS, hb1⟩
  have i1 := C.iturn HR.out.2.2.2.2.2.2 (Turn.of_below (S := fun _ => False) hb1) (fun _ h => h.elim)
  have hO := C.opens w1 S q (newDk 1048576) 1 i1 hP (held_new 1048576 (by decide)) rfl (by decide) (by rw [open_new]; decide)
  rw [open_new] at hO
  clear hNew hLg
  go_wp2_with fail
  refine hO.mono ?_
  rintro e w2 ⟨p, T, A2, n2, c2, rfl, hL, hT, hR2, hnc2, hcm2, hb2⟩
  have hs1 := hb1.size
  have HF : Hid (DpsR N I PD LA w0 q 0 0 [] p (.slice none 0 0) w2) := Lib.hid ⟨S, T, newDk 1048576, _, [], [], [], C.dturn hP (Turn.of_below (S := fun _ => False) hb2) (fun _ h => h.elim), hL, fun k hk h => by have := ((C.dhere hP).2 k hk).2; have := hT k h; omega, fun k hk => by
    rcases hk with h | h
    · exact hS k h
    · have := hT k h; omega, DpJ.start, rfl, Nat.le_refl _, Nat.le_refl _, meas_start, ⟨World.ownsRow_nil _ _ _ _, fun k h => by simp [Value.ownBlock] at h, fun r h => (by cases h)⟩, bthen hb1 hb2, C.iturn i1 (Turn.of_below (S := fun _ => False) hb2) (fun _ h => h.elim)⟩
  clear hP hS hb1 i1 hO hL hT hR2 hnc2 hcm2 hb2 hs1
  go_wp2_with fail
  go_loopw [9, 10] (fun v9 v10 wr => ∃ k i : Nat, v10 = .int .i64 i ∧ i ≤ n ∧ DpsR N I PD LA w0 q i k [] p v9 wr) (fun _ v10 _ => n - (intOf v10).toNat)
  case atStart => exact ⟨0, 0, rfl, Nat.zero_le _, HF.out⟩
  case round =>
    obtain ⟨k, i, rfl, hi, hF⟩ := hrel
    by_cases hlt : i < n
    · have t1 : (i : Int) < (n : Int) := by omega
      have hi9 : i ≤ 60 := by omega
      obtain ⟨r, hr⟩ : ∃ r, l[i]? = some r := ⟨_, List.getElem?_eq_getElem (by have := HR.out.2.2.2.2.1; omega)⟩
      obtain ⟨g, o, rfl, hgw, hgl, f0, f1, f2, f3, f4, f5⟩ := Rcs.at_ HR.out.1 hr
      have hrl := List.mem_of_getElem? hr
      have hok := HR.out.2.1 r hrl
      have h100 := HR.out.2.2.1 r hrl
      have hb := hF.below.1
      have hcell : ∀ w, Below w0.heap.size w0 w → w.cell? ⟨g, o + i * 6, none⟩ = some (.int .u64 (r.seq : Nat)) ∧ w.cell? ⟨g, o + i * 6 + 1, none⟩ = some (.int .i64 r.kind) ∧ w.cell? ⟨g, o + i * 6 + 2, none⟩ = some (.string ⟨r.ten.toArray⟩) ∧ w.cell? ⟨g, o + i * 6 + 3, none⟩ = some (.int .u64 (r.lease : Nat)) ∧ w.cell? ⟨g, o + i * 6 + 4, none⟩ = some (.int .u64 (r.n : Nat)) ∧ w.cell? ⟨g, o + i * 6 + 5, none⟩ = some (.int .u64 (r.bits : Nat)) := fun w hw =>
        ⟨(hw.cell (p := ⟨g, o + i * 6, none⟩) hgl).trans f0, (hw.cell (p := ⟨g, o + i * 6 + 1, none⟩) hgl).trans f1, (hw.cell (p := ⟨g, o + i * 6 + 2, none⟩) hgl).trans f2, (hw.cell (p := ⟨g, o + i * 6 + 3, none⟩) hgl).trans f3, (hw.cell (p := ⟨g, o + i * 6 + 4, none⟩) hgl).trans f4, (hw.cell (p := ⟨g, o + i * 6 + 5, none⟩) hgl).trans f5⟩
      have HC := Lib.hid hcell
      obtain ⟨e0, e1, e2, e3, e4, e5⟩ := hcell wr hb
      have hRt := right14_any r.seq r.kind ⟨r.ten.toArray⟩ r.lease r.n r.bits (by show r.ten.toArray.size ≤ _; rw [List.size_toArray]; omega) hok.1.2.2.2.2.2 wr
      rw [show (⟨r.ten.toArray⟩ : ByteArray).data.toList = r.ten from rfl, show (⟨1, r.kind, r.ten, r.lease, r.n, r.bits⟩ : Rc) = r.at_ 1 from rfl] at hRt
      unfold rcV at hRt
      have HJ := Lib.hid (And.intro hF (And.intro hok (And.intro h100 hlt)))
      clear hF hok h100 hlt f0 f1 f2 f3 f4 f5 hr hrl hi hb hcell hgl hgw
      by_cases hck : checkC (r.at_ 1) = 0
      · rw [decide_eq_true hck] at hRt
        have HK := Lib.hid hck
        clear hck
        go_wp2_with fail
        refine hRt.mono ?_
        rintro e w3 ⟨rfl, hb3⟩
        have hF3 := HJ.out.1.turn C hb3
        obtain ⟨d0, d1, d2, d3, d4, d5⟩ := HC.out w3 hF3.below.1
        have hU := hF3.puts C (by omega) r ⟨r.ten.toArray⟩ rfl HJ.out.2.1.1 HJ.out.2.2.1 HK.out
        unfold rcV at hU
        clear hRt hb3 hF3 e0 e1 e2 e3 e4 e5
        go_wp2_with fail
        refine hU.mono ?_
        rintro e w4 ⟨rfl, hH4, _⟩
        have hCm := hH4.commits C (by omega)
        clear hU hH4 d0 d1 d2 d3 d4 d5
        go_wp2_with fail
        refine hCm.mono ?_
        rintro e w5 ⟨rfl, hK5, _⟩
        obtain ⟨q0, q1, q2, q3, q4, q5⟩ := HC.out w5 hK5.below.1
        obtain ⟨put, A4, c4, rfl, hown, hn1, hWs, hgo⟩ := hK5.row C HJ.out.2.1.1 HJ.out.2.2.1 HR.out.2.2.2.2.2.1
        have HG := Lib.hid hgo
        have hk61 : k ≤ 61 := by omega
        clear hCm hK5 hgo hn1
        go_wp2_with (at_builtin; refine wpList_append_own_at _ rfl _ _ 29 rfl w0.heap.size 35 i0 _ 6 56 Tryz.underlying29 hi0 hz0 hz1 hz2 rfl (by decide) (Value.slice A4 k c4) k (rcCells put) rfl (hown.alloc _) ⟨w5.heap.size, 0, none⟩ 1 1 r.cells rfl rfl (fun y u hu => by rw [Addr.add_lit, Nat.zero_add, World.cell?_alloc_new]; simpa [Rc.cells] using hu) (by simp [Rc.cells, Value.oneCell']) (by unfold maxLen; omega) (by omega) (by simp; omega) ?_)
        intro v6 w6 hown6 hgr6 hat6
        have hK6 := HG.out _ v6 w6 hown6 hgr6 (by rw [World.size_alloc]; exact hat6)
        have H6 := Lib.hid hK6
        clear hown6 hgr6 hat6 hK6 hown q0 q1 q2 q3 q4 q5
        go_wp2_with fail
        go_roundw
        case rel => exact ⟨k + 1, i + 1, by go_num, HJ.out.2.2.2, H6.out⟩
        case measure => have := HJ.out.2.2.2; simp [intOf]; omega
      · rw [decide_eq_false hck] at hRt
        clear hck
        go_wp2_with fail
        refine hRt.mono ?_
        rintro e w3 ⟨rfl, hb3⟩
        have H3 := Lib.hid ((HJ.out.1.turn C hb3).mono (Nat.le_succ i))
        clear hRt hb3 e0 e1 e2 e3 e4 e5
        go_wp2_with fail
        go_roundw
        case rel => exact ⟨k, i + 1, by go_num, HJ.out.2.2.2, H3.out⟩
        case measure => have := HJ.out.2.2.2; simp [intOf]; omega
    · have t1 : ¬ (i : Int) < (n : Int) := by omega
      have hDr := hF.drops C D (by omega) s hs
      have hki : k ≤ 60 := by
        obtain ⟨_, _, _, _, _, _, _, _, _, _, _, _, _, h, _⟩ := hF
        simp at h
        omega
      clear hF hlt hi
      go_wp2_with fail
      refine hDr.mono ?_
      rintro e w3 ⟨rfl, put, d, hDp⟩
      obtain ⟨Av, cv, rfl, hRp, hkc, hcv, hfi, hpl, hdk, hsd, hb3⟩ := hDp.row
      have hk61 : k ≤ 61 := by omega
      have hOp := hDp.opens_ C (by omega)
      obtain ⟨k1, hk1⟩ : ∃ x, k + 1 = x := ⟨_, rfl⟩
      rw [hk1] at hOp
      have m1 : IntKind.u64.wrap (k : Int) = (k : Int) := by rw [IntKind.wrap_u64]; omega
      have m2 : IntKind.u64.wrap ((k : Int) + 1) = (k1 : Int) := by rw [IntKind.wrap_u64]; omega
      obtain ⟨z, hz⟩ : ∃ z, k - d = z := ⟨_, rfl⟩
      rw [hz] at hOp
      have HP := Lib.hid (And.intro hRp (And.intro hfi (And.intro hpl (And.intro hsd hb3))))
      clear hDr hDp hRp hfi hpl hsd hb3
      go_wp2_with fail
      refine hOp.mono ?_
      rintro e w4 ⟨p4, A4, c4, rfl, hR4, hzc, hcm4, hb4, hNx, hI4⟩
      have hNu := refNumbered_any Av k cv put 1 w4 (Sls.less (Rcs.below HP.out.1 hb4) (fun x hx => Nat.le_trans hb4.size hx)) (by omega) (by decide)
      have H4 := Lib.hid (And.intro hR4 (And.intro hNx (And.intro hI4 hb4)))
      clear hOp hR4 hNx hI4 hb4
      go_wp2_with fail
      refine hNu.mono ?_
      rintro e w5 ⟨A5, c5, rfl, hR5, hkc5, hb5⟩
      have hR45 := H4.out.1.below hb5
      have hNx5 := fun kk => H4.out.2.1 (w5.drewN kk) (below_drewN hb5 kk)
      have hI5 := fun kk => H4.out.2.2.1 (w5.drewN kk) (below_drewN hb5 kk)
      have hB5 := fun kk => below_drewN (bthen (bthen HP.out.2.2.2.2 H4.out.2.2.2) hb5) kk
      have hA5 := fun kk => awake14_any C (w5.drewN kk) (hI5 kk) (by have := (hB5 kk).size; have := HR.out.2.2.2.2.2.1; omega)
      have HB := Lib.hid hB5
      clear hNu hb5 hI5 hB5
      by_cases hd0 : d = 0
      · subst hd0
        obtain rfl : k = z := by omega
        rw [List.drop_zero] at hR45
        have hfn := fine_num1 (k := 0) HP.out.2.1
        rw [List.drop_zero] at hfn
        have hSm := sameRcs_any A4 A5 k c4 c5 _ _ _ w5 hR45 hR5 (by omega) hfn
        have g1 : (k : Int) - (k : Int) = 0 := by omega
        have g2 : ¬ (k : Int) < (k : Int) := by omega
        have g3 : ¬ (k : Int) > (k : Int) := by omega
        have g4 : ((k : Int) == (k : Int)) = true := by simp
        clear hR45 hR5 hz hdk HP H4 hfn
        go_wp2_with fail
        refine hSm.mono ?_
        rintro e w6 ⟨rfl, kk, rfl⟩
        have hNx6 := hNx5 kk
        have hA6 := hA5 kk
        clear hSm hNx5 hA5
        go_wp2_with fail
        refine hNx6.mono ?_
        rintro e w7 ⟨rfl, rfl⟩
        clear hNx6
        go_wp2_with fail
        refine hA6.mono ?_
        rintro e w8 ⟨rfl, hb8⟩
        have HB8 := Lib.hid (bthen (HB.out kk) hb8)
        clear hA6 hb8
        go_wp2_with fail
        go_ret
        exact ⟨rfl, HB8.out⟩
      · rcases hR5.nonempty (by omega) with ⟨g5, o5, rfl⟩
        obtain ⟨r, hr, hrs⟩ := HP.out.2.2.2.1.resolve_left hd0
        obtain ⟨b1, hb1⟩ : ∃ x, d - 1 = x := ⟨_, rfl⟩
        rw [hb1] at hr
        obtain ⟨g6, o6, e6, _, hgl6, f0, _⟩ := Rcs.at_ hR5 hr
        injection e6 with e6
        injection e6 with e61 e62 _
        subst e61 e62
        have f0k : ∀ kk, (w5.drewN kk).cell? ⟨g5, o5 + b1 * 6, none⟩ = some (.int .u64 (r.seq : Nat)) := fun kk => f0
        obtain ⟨y, hy⟩ : ∃ y, r.seq = y := ⟨_, rfl⟩
        rw [hy] at f0k hrs
        have hdr := rcs_drop hR5 hdk
        rw [hz] at hdr
        have hdl : ((numR put 1).drop d).length = z := hdr.len
        have hSm : ∀ (A9 : Option Addr) (c9 : Nat), A9 = some ⟨g5, o5 + d * 6, none⟩ ∨ z = 0 → Calls Tryz.prog 26 #[.slice A4 z c4, .slice A9 z c9] w5 fun e W' => e = .returned (.bool true) ∧ ∃ k, W' = w5.drewN k := by
          intro A9 c9 h9
          rcases h9 with rfl | h9
          · exact sameRcs_any A4 _ z c4 c9 _ _ _ w5 hR45 hdr (by omega) (fine_num1 HP.out.2.1)
          · refine sameRcs_any A4 A9 z c4 c9 _ _ (fun _ => False) w5 hR45 ?_ (by omega) (fine_num1 HP.out.2.1)
            rw [h9] at hdl ⊢
            rw [List.eq_nil_of_length_eq_zero hdl]
            exact Sls.nil
        have g1 : (k : Int) - (z : Int) = (d : Int) := by omega
        have g2 : ¬ (k : Int) < (z : Int) := by omega
        have g3 : ((z : Int) == (k : Int)) = false := by simp; omega
        have g4 : (d : Int) - 1 = (b1 : Int) := by omega
        have g5' : (y : Int) ≤ (s : Int) := by omega
        have g6' : (d : Int) ≤ (k : Int) := by omega
        have g7 : d ≤ c5 := by omega
        have g8 : b1 < k := by omega
        have g9 : (b1 : Int) < (k : Int) := by omega
        have HZ := Lib.hid (And.intro hz hdk)
        clear hR45 hR5 hdr hdl HP H4 hb1 hr hy f0 hdk
        go_wp2_with fail
        all_goals
          refine (hSm _ _ (by first | exact .inl rfl | (right; have := HZ.out; omega))).mono ?_
          rintro e w6 ⟨rfl, kk, rfl⟩
          have hNx6 := hNx5 kk
          have hA6 := hA5 kk
          have f06 := f0k kk
          clear hSm hNx5 hA5 f0k hz
          go_wp2_with fail
          refine hNx6.mono ?_
          rintro e w7 ⟨rfl, rfl⟩
          clear hNx6
          go_wp2_with fail
          refine hA6.mono ?_
          rintro e w8 ⟨rfl, hb8⟩
          have HB8 := Lib.hid (bthen (HB.out kk) hb8)
          clear hA6 hb8
          go_wp2_with fail
          go_ret
          exact ⟨rfl, HB8.out⟩

end Go.Proofs.YthjikbhjciphiaaGreatDoor

/-
  Law 14: WalDrops, for any arguments.
-/
namespace Go.Proofs.YthjikbhjciphiaaGreatDoor
open Go.RowKit
set_option linter.unusedVariables false
set_option linter.unusedSimpArgs false

set_option maxRecDepth 100000 in
set_option maxHeartbeats 2000000 in
theorem walDrops_law {N : Nat} {I : World → Prop} {PD : World → (Nat → Prop) → Nat → Dk → Prop} {LA : World → (Nat → Prop) → Nat → Nat → Jn → Prop} (C : WalC N I PD LA) (D : WalDp N I PD LA) (A : Option Addr) (n c : Nat) (l : List Rc) (s : Nat) (W : World) (hI : I W) (hN : N ≤ W.heap.size)
    (hR : Rcs W (fun k => W.heap.size ≤ k) A n l) (hf : Fine l) (hnc : n ≤ c) (hcm : c ≤ maxLen) (hs : s < 18446744073709551616) :
    Calls Tryz.prog 5 #[.slice A n c, .int .u64 ((s : Nat) : Int)] W fun e W' => e = .returned (.bool true) ∧ Below W.heap.size W W' := by
  cases hl : largeR l with
  | false => exact walDrops_small C D A n c l s W hI hN hR hf hnc hcm hl hs
  | true =>
    have hLg := refLargeR_any A n c l _ W hR (Nat.le_trans hnc hcm) hf
    rw [hl] at hLg
    have hA := awake14_any C W hI hN
    clear hl hR hf hnc hcm hI hN
    go_enter Tryz.func5, Tryz.ntmps5
    go_wp2_with fail
    refine hLg.mono ?_
    rintro e w0 ⟨rfl, rfl⟩
    go_wp2_with fail
    refine hA.mono ?_
    rintro e w1 ⟨rfl, hb1⟩
    have HB := Lib.hid hb1
    clear hb1
    go_wp2_with fail
    go_ret
    exact ⟨rfl, HB.out⟩

end Go.Proofs.YthjikbhjciphiaaGreatDoor
