/-
  Law 14: what WalKeeps keeps between two steps, and how each call carries it on.
-/
import Derived.Test.YthjikbhjciphiaaGreatDoorZz31
import Derived.Test.YthjikbhjciphiaaGreatDoorZz29
import Derived.Test.YthjikbhjciphiaaGreatDoorZz28
import Derived.Test.YthjikbhjciphiaaGreatDoorZz22
import Derived.Test.YthjikbhjciphiaaGreatDoorZz30
namespace Go.Proofs.YthjikbhjciphiaaGreatDoor
open Go.RowKit
set_option linter.unusedVariables false
set_option linter.unusedSimpArgs false

/-- The records that were put, in a row of the statement's own, off U. -/
def PutV (W : World) (U : Nat → Prop) (v : Value) (put : List Rc) (w : World) : Prop := w.ownsRow W.heap.size 35 6 v put.length (rcCells put) ∧ (∀ k, v.ownBlock = some k → ¬ U k) ∧ Fine put
/-- Between two steps: the journal stands; none of its blocks, nor of the disk's, is of F; xs: a record that the journal has, the row not yet. -/
def KeepR (N : Nat) (I : World → Prop) (PD : World → (Nat → Prop) → Nat → Dk → Prop) (LA : World → (Nat → Prop) → Nat → Nat → Jn → Prop) (W : World) (F : Nat → Prop) (q f i n sure : Nat) (xs : List Rc) (p : Nat) (v : Value) (w : World) : Prop :=
  ∃ S T m j put, PD w S q m ∧ LA w T p q j ∧ (∀ k, S k → ¬ T k) ∧ (∀ k, S k ∨ T k → W.heap.size ≤ k ∧ ¬ F k) ∧ JS m j f (put ++ xs) sure ∧ put.length = n ∧ n + xs.length ≤ i ∧ j.own ≤ i + 1 ∧ Meas m (segB j.buf).length i ∧ PutV W (fun k => S k ∨ T k ∨ F k) v put w ∧ Below W.heap.size W w ∧ I w
/-- .. the disk crashed, or is to crash. -/
def LeftR (N : Nat) (I : World → Prop) (PD : World → (Nat → Prop) → Nat → Dk → Prop) (W : World) (F : Nat → Prop) (q f i n sure : Nat) (d : Bool) (v : Value) (w : World) : Prop :=
  ∃ S m put b, PD w S q m ∧ (∀ k, S k → W.heap.size ≤ k ∧ ¬ F k) ∧ Left m f put sure b ∧ m.down = d ∧ b ≤ i + 1 ∧ put.length = n ∧ n ≤ i ∧ Meas m 0 i ∧ (∀ r ∈ numR put f, okRc r) ∧ sure ≤ n ∧ PutV W (fun k => S k ∨ F k) v put w ∧ Below W.heap.size W w ∧ I w

theorem own_takeK {w : World} {base size : Nat} {e : TypeId} {A : Option Addr} {n c : Nat} {xs : List Value} (h : w.ownsRow base e size (.slice A n c) n xs) (m : Nat) (hm : m ≤ n) : w.ownsRow base e size (.slice A m c) m (xs.take (m * size)) := by
  have hms : m * size ≤ n * size := Nat.mul_le_mul_right _ hm
  refine ⟨by rw [List.length_take, h.1]; omega, ?_⟩
  rcases h.2 with ⟨h1, h2⟩ | ⟨g, cap, cur, hv, hg, hh, hn, hc, hs, ht⟩
  · injection h1 with e1 e2 e3
    subst e1 e3 h2
    have hm0 : m = 0 := by omega
    subst hm0
    exact .inl ⟨rfl, rfl⟩
  · injection hv with e1 e2 e3
    subst e1 e3
    refine .inr ⟨g, c, cur, rfl, hg, hh, by omega, hc, hs, ?_⟩
    rw [← ht, List.take_take, Nat.min_eq_left hms]
theorem rcCells_take (l : List Rc) (k : Nat) (hk : k ≤ l.length) : rcCells (l.take k) = (rcCells l).take (k * 6) := by
  induction l generalizing k with
  | nil => simp [rcCells]
  | cons r t ih =>
    cases k with
    | zero => simp [rcCells]
    | succ k =>
      have e1 : rcCells (r :: t) = r.cells ++ rcCells t := by unfold rcCells; simp
      have e2 : rcCells ((r :: t).take (k + 1)) = r.cells ++ rcCells (t.take k) := by unfold rcCells; simp
      have h6 : r.cells.length = 6 := rfl
      rw [e1, e2, ih k (by simpa using hk), List.take_append, List.take_of_length_le (l := r.cells) (by rw [h6]; omega), h6, show (k + 1) * 6 - 6 = k * 6 by omega]

theorem fine_num {l : List Rc} {f k : Nat} (h : Fine l) : Fine ((numR l f).take k) := by
  intro r hr
  have hr2 := List.mem_of_mem_take hr
  unfold numR at hr2
  obtain ⟨i, hi, rfl⟩ := List.mem_mapIdx.1 hr2
  obtain ⟨h1, h2⟩ := h l[i] (List.getElem_mem hi)
  obtain ⟨q0, q1, q2, q3, q4, q5⟩ := h1
  exact ⟨⟨Nat.mod_lt _ (by decide), q1, q2, q3, q4, q5⟩, h2⟩

section
variable {N : Nat} {I : World → Prop} {PD : World → (Nat → Prop) → Nat → Dk → Prop} {LA : World → (Nat → Prop) → Nat → Nat → Jn → Prop} {W w w' : World} {F G U U' : Nat → Prop} {q f i i' n sure p : Nat} {xs : List Rc} {v : Value} {put : List Rc}
theorem PutV.turn (h : PutV W U v put w) (ht : Turn G w w') (hG : ∀ k, v.ownBlock = some k → ¬ G k) : PutV W U v put w' := by
  refine ⟨?_, h.2.1, h.2.2⟩
  obtain ⟨A, c, rfl, _⟩ := own_formk h.1
  refine own_turn h.1 ht fun a ha => ?_
  exact hG _ (by rw [ha]; rfl)
theorem PutV.less (h : PutV W U v put w) (hu : ∀ k, k < w.heap.size → U' k → U k) : PutV W U' v put w := by
  refine ⟨h.1, fun k hk hk2 => h.2.1 k hk (hu k ?_ hk2), h.2.2⟩
  obtain ⟨A, c, rfl, _⟩ := own_formk h.1
  exact (h.1.lt k hk).2
theorem PutV.less' (h : PutV W U v put w) (hu : ∀ k, v.ownBlock = some k → U' k → U k) : PutV W U' v put w := ⟨h.1, fun k hk hk2 => h.2.1 k hk (hu k hk hk2), h.2.2⟩
theorem KeepR.below (h : KeepR N I PD LA W F q f i n sure xs p v w) : Below W.heap.size W w ∧ I w := by obtain ⟨_, _, _, _, _, _, _, _, _, _, _, _, _, _, _, h, hi⟩ := h; exact ⟨h, hi⟩
theorem LeftR.below {d : Bool} (h : LeftR N I PD W F q f i n sure d v w) : Below W.heap.size W w ∧ I w := by obtain ⟨_, _, _, _, _, _, _, _, _, _, _, _, _, _, _, h, hi⟩ := h; exact ⟨h, hi⟩
theorem KeepR.mono (h : KeepR N I PD LA W F q f i n sure xs p v w) (hi : i ≤ i') : KeepR N I PD LA W F q f i' n sure xs p v w := by
  obtain ⟨S, T, m, j, put, hP, hL, hd, hST, hJ, hpn, hni, how, hM, hV, hb, hI⟩ := h
  exact ⟨S, T, m, j, put, hP, hL, hd, hST, hJ, hpn, by omega, by omega, hM.mono hi, hV, hb, hI⟩
theorem KeepR.turn (h : KeepR N I PD LA W F q f i n sure xs p v w) (C : WalC N I PD LA) (hb2 : Below w.heap.size w w') : KeepR N I PD LA W F q f i n sure xs p v w' := by
  obtain ⟨S, T, m, j, put, hP, hL, hd, hST, hJ, hpn, hni, how, hM, hV, hb, hI⟩ := h
  have ht : Turn (fun _ => False) w w' := Turn.of_below hb2
  exact ⟨S, T, m, j, put, C.dturn hP ht (fun _ h => h.elim), C.lturn hL ht (fun _ h => h.elim), hd, hST, hJ, hpn, hni, how, hM, hV.turn ht (fun _ _ h => h), bthen hb hb2, C.iturn hI ht (fun _ h => h.elim)⟩
theorem LeftR.turn {d : Bool} (h : LeftR N I PD W F q f i n sure d v w) (C : WalC N I PD LA) (hb2 : Below w.heap.size w w') : LeftR N I PD W F q f i n sure d v w' := by
  obtain ⟨S, m, put, b, hP, hS, hL, hdn, hbi, hpn, hni, hM, hok, hsn, hV, hb, hI⟩ := h
  have ht : Turn (fun _ => False) w w' := Turn.of_below hb2
  exact ⟨S, m, put, b, C.dturn hP ht (fun _ h => h.elim), hS, hL, hdn, hbi, hpn, hni, hM, hok, hsn, hV.turn ht (fun _ _ h => h), bthen hb hb2, C.iturn hI ht (fun _ h => h.elim)⟩
/-- A new block is none of theirs. -/
theorem KeepR.fence (h : KeepR N I PD LA W (fun _ => False) q f i n sure xs p v w) (C : WalC N I PD LA) : KeepR N I PD LA W (fun k => k = w.heap.size) q f i n sure xs p v w := by
  obtain ⟨S, T, m, j, put, hP, hL, hd, hST, hJ, hpn, hni, how, hM, hV, hb, hI⟩ := h
  refine ⟨S, T, m, j, put, hP, hL, hd, fun k hk => ⟨(hST k hk).1, fun e => ?_⟩, hJ, hpn, hni, how, hM, hV.less fun k hlt hk => ?_, hb, hI⟩
  · rcases hk with hk | hk
    · have := ((C.dhere hP).2 k hk).2; omega
    · have := ((C.lhere hL).2 k hk).2; omega
  · rcases hk with hk | hk | hk
    · exact .inl hk
    · exact .inr (.inl hk)
    · omega
theorem KeepR.free (h : KeepR N I PD LA W F q f i n sure xs p v w) : KeepR N I PD LA W (fun _ => False) q f i n sure xs p v w := by
  obtain ⟨S, T, m, j, put, hP, hL, hd, hST, hJ, hpn, hni, how, hM, hV, hb, hI⟩ := h
  exact ⟨S, T, m, j, put, hP, hL, hd, fun k hk => ⟨(hST k hk).1, fun h => h⟩, hJ, hpn, hni, how, hM, hV.less fun k _ hk => by
    rcases hk with hk | hk | hk
    · exact .inl hk
    · exact .inr (.inl hk)
    · exact hk.elim, hb, hI⟩
/-- The disk is to crash. -/
theorem KeepR.left (h : KeepR N I PD LA W F q f i n sure [] p v w) (hi : i ≤ 90) : LeftR N I PD W F q f (i + 1) n sure false v w := by
  obtain ⟨S, T, m, j, put, hP, hL, hd, hST, hJ, hpn, hni, how, hM, hV, hb, hI⟩ := h
  rw [List.append_nil] at hJ
  simp at hni
  exact ⟨S, m, put, j.own + 1, hP, fun k hk => hST k (.inl hk), hJ.left (by omega), hJ.up, by omega, hpn, by omega, (hM.mono (by omega)).less (Nat.zero_le _), hJ.ok, by have := hJ.le; omega, hV.less (fun k _ hk => by
    rcases hk with hk | hk
    · exact .inl hk
    · exact .inr (.inr hk)), hb, hI⟩
/-- Put: a record that may be. -/
theorem KeepR.puts (h : KeepR N I PD LA W F q f i n sure [] p v w) (C : WalC N I PD LA) (hi : i ≤ 80) (hff : f ≤ 4611686018427387904) (r : Rc) (X : ByteArray) (hX : X.data.toList = r.ten) (ho : r.okay) (ht : r.ten.length ≤ 100) (hc : checkC (r.at_ 1) = 0) (hF : ∀ k, F k → k < w.heap.size) :
    Calls Tryz.prog 12 #[.pointer (some ⟨p, 0, none⟩), rcV r.seq r.kind X r.lease r.n r.bits] w fun e w' => e = .returned (.tuple #[.int .u64 ((f + n : Nat) : Int), .int .i64 0]) ∧ KeepR N I PD LA W F q f (i + 1) n sure [r] p v w' ∧ Turn (fun k => ¬ F k ∧ W.heap.size ≤ k) w w' := by
  obtain ⟨S, T, m, j, put, hP, hL, hd, hST, hJ, hpn, hni, how, hM, hV, hb, hI⟩ := h
  rw [List.append_nil] at hJ
  simp at hni
  have hnx := hJ.next
  have hsm := hJ.small
  have hokn : okRc (r.at_ j.next) := ⟨by rw [check_at r j.next (by have := hJ.from1; omega)]; exact hc, by
    obtain ⟨q0, q1, q2, q3, q4, q5⟩ := ho
    exact ⟨by show j.next < _; omega, q1, q2, q3, q4, q5⟩⟩
  have hsm2 : f + put.length + 1 < 9223372036854775808 := by omega
  obtain ⟨hpj, hJ4⟩ := hJ.puts r hokn hsm2
  have hXs : X.size ≤ 10000 := by
    have : X.size = X.data.toList.length := rfl
    rw [hX] at this
    omega
  have hU := C.put w T p q j r.seq r.kind X r.lease r.n r.bits hI hL (by omega) (by rw [hJ.blen]; omega) (by rw [hX]; exact ho) hXs
  rw [show (⟨r.seq, r.kind, X.data.toList, r.lease, r.n, r.bits⟩ : Rc) = r by rw [hX], hpj] at hU
  refine hU.mono ?_
  rintro e w4 ⟨T4, rfl, hL4, hT4, ht4⟩
  have hSl := (C.dhere hP).2
  have hTl := (C.lhere hL).2
  have hN := (C.dhere hP)
  have hTk : ∀ k, T k → N ≤ k ∧ ¬ S k := fun x hx => ⟨(hTl x hx).1, fun h => hd x h hx⟩
  refine ⟨by rw [hnx, hpn], ⟨S, T4, m, _, put, C.dturn hP ht4 hTk, hL4, fun k hk h => ?_, fun k hk => ?_, hJ4, hpn, by simp; omega, by show j.own ≤ _; omega, ⟨hM.cap, ?_, ⟨by have := hM.x.1; omega, hM.x.2⟩⟩, ?_, hb.trans (ht4.below hb.size fun k hk => (hST k (.inr hk)).1), C.iturn hI ht4 fun k hk => (hTl k hk).1⟩, ht4.mono fun k hk => ⟨(hST k (.inr hk)).2, (hST k (.inr hk)).1⟩⟩
  · rcases hT4 k h with h1 | h1
    · exact hd k hk h1
    · have := (hSl k hk).2; omega
  · rcases hk with hk | hk
    · exact hST k (.inl hk)
    · rcases hT4 k hk with h1 | h1
      · exact hST k (.inr h1)
      · exact ⟨by have := hb.size; omega, fun h2 => by have := hF k h2; omega⟩
  · have hse := (lenB_le [r.at_ j.next] (fun q hq => by rw [List.mem_singleton.1 hq]; exact hokn)).1
    have := hM.size
    show sizeF m.files + (segB (j.buf ++ [r.at_ j.next])).length ≤ _
    rw [segB_app, List.length_append]
    simp at hse
    omega
  · refine (hV.turn ht4 fun k hk h => hV.2.1 k hk (.inr (.inl h))).less' fun k hk h => ?_
    have hlt : k < w.heap.size := (hV.1.lt k hk).2
    rcases h with h | h | h
    · exact .inl h
    · rcases hT4 k h with h1 | h1
      · exact .inr (.inl h1)
      · omega
    · exact .inr (.inr h)
/-- Put: a record that may not be. -/
theorem KeepR.refuses (h : KeepR N I PD LA W F q f i n sure [] p v w) (C : WalC N I PD LA) (hi : i ≤ 80) (r : Rc) (X : ByteArray) (hX : X.data.toList = r.ten) (ho : r.okay) (ht : r.ten.length ≤ 100) (hc : ¬ checkC (r.at_ 1) = 0) (hF : ∀ k, F k → k < w.heap.size) :
    Calls Tryz.prog 12 #[.pointer (some ⟨p, 0, none⟩), rcV r.seq r.kind X r.lease r.n r.bits] w fun e w' => e = .returned (.tuple #[.int .u64 ((0 : Nat) : Int), .int .i64 (checkC (r.at_ 1))]) ∧ KeepR N I PD LA W F q f (i + 1) n sure [] p v w' ∧ Turn (fun k => ¬ F k ∧ W.heap.size ≤ k) w w' := by
  obtain ⟨S, T, m, j, put, hP, hL, hd, hST, hJ, hpn, hni, how, hM, hV, hb, hI⟩ := h
  rw [List.append_nil] at hJ
  simp at hni
  have hnx := hJ.next
  have hsm := hJ.small
  have hca := check_at r j.next (by have := hJ.from1; omega)
  have hpj : putJ j r = ((0, checkC (r.at_ 1)), j) := by
    unfold putJ
    rw [hca, if_neg hc]
  have hXs : X.size ≤ 10000 := by
    have : X.size = X.data.toList.length := rfl
    rw [hX] at this
    omega
  have hU := C.put w T p q j r.seq r.kind X r.lease r.n r.bits hI hL (by omega) (by rw [hJ.blen]; omega) (by rw [hX]; exact ho) hXs
  rw [show (⟨r.seq, r.kind, X.data.toList, r.lease, r.n, r.bits⟩ : Rc) = r by rw [hX], hpj] at hU
  refine hU.mono ?_
  rintro e w4 ⟨T4, rfl, hL4, hT4, ht4⟩
  have hSl := (C.dhere hP).2
  have hTl := (C.lhere hL).2
  have hTk : ∀ k, T k → N ≤ k ∧ ¬ S k := fun x hx => ⟨(hTl x hx).1, fun h => hd x h hx⟩
  refine ⟨rfl, ⟨S, T4, m, j, put, C.dturn hP ht4 hTk, hL4, fun k hk h => ?_, fun k hk => ?_, by rw [List.append_nil]; exact hJ, hpn, by simp; omega, by omega, hM.mono (by omega), ?_, hb.trans (ht4.below hb.size fun k hk => (hST k (.inr hk)).1), C.iturn hI ht4 fun k hk => (hTl k hk).1⟩, ht4.mono fun k hk => ⟨(hST k (.inr hk)).2, (hST k (.inr hk)).1⟩⟩
  · rcases hT4 k h with h1 | h1
    · exact hd k hk h1
    · have := (hSl k hk).2; omega
  · rcases hk with hk | hk
    · exact hST k (.inl hk)
    · rcases hT4 k hk with h1 | h1
      · exact hST k (.inr h1)
      · exact ⟨by have := hb.size; omega, fun h2 => by have := hF k h2; omega⟩
  · refine (hV.turn ht4 fun k hk h => hV.2.1 k hk (.inr (.inl h))).less' fun k hk h => ?_
    have hlt : k < w.heap.size := (hV.1.lt k hk).2
    rcases h with h | h | h
    · exact .inl h
    · rcases hT4 k h with h1 | h1
      · exact .inr (.inl h1)
      · omega
    · exact .inr (.inr h)
/-- Commit. -/
theorem KeepR.commits (h : KeepR N I PD LA W F q f i n sure [] p v w) (C : WalC N I PD LA) (hi : i ≤ 80) (hF : ∀ k, F k → k < w.heap.size) :
    Calls Tryz.prog 14 #[.pointer (some ⟨p, 0, none⟩)] w fun e w' => ((e = .returned (.int .i64 0) ∧ KeepR N I PD LA W F q f (i + 1) n n [] p v w') ∨ (e = .returned (.int .i64 19) ∧ LeftR N I PD W F q f (i + 1) n sure true v w')) ∧ Turn (fun k => ¬ F k ∧ W.heap.size ≤ k) w w' := by
  obtain ⟨S, T, m, j, put, hP, hL, hd, hST, hJ, hpn, hni, how, hM, hV, hb, hI⟩ := h
  rw [List.append_nil] at hJ
  simp at hni
  have hO := hM.okJ hJ (by omega) (by omega)
  obtain ⟨pre, R0, cur, hH, _⟩ := hJ.held
  have hCm := C.commit w S T p q m j hI hP hL hd hO (by rw [hJ.blen]; omega) (fun y hy => hJ.ok y (List.mem_of_mem_drop (by rw [← hJ.buf]; exact hy))) ⟨pre, R0, cur, hH⟩ hJ.size hJ.up (by omega)
  refine hCm.mono ?_
  rintro e w5 ⟨S5, T5, rfl, hP5, hL5, hd5, hS5, hT5, ht5⟩
  have hST5 : ∀ k, S k ∨ T k → W.heap.size ≤ k := fun k hk => (hST k hk).1
  have hNw : N ≤ w.heap.size := by have := (C.dhere hP).2 q (C.dhere hP).1; omega
  have hb5 : Below W.heap.size W w5 := hb.trans (ht5.below hb.size hST5)
  have hI5 := C.iturn hI ht5 fun k hk => by
    rcases hk with hk | hk
    · exact ((C.dhere hP).2 k hk).1
    · exact ((C.lhere hL).2 k hk).1
  have hV5 : PutV W (fun k => S5 k ∨ T5 k ∨ F k) v put w5 := (hV.turn ht5 fun k hk h => hV.2.1 k hk (by
    rcases h with h | h
    · exact .inl h
    · exact .inr (.inl h))).less' fun k hk h => by
      have hlt : k < w.heap.size := (hV.1.lt k hk).2
      rcases h with h | h | h
      · rcases hS5 k h with h1 | h1
        · exact .inl h1
        · omega
      · rcases hT5 k h with h1 | h1
        · exact .inr (.inl h1)
        · omega
      · exact .inr (.inr h)
  have hSS : ∀ k, S5 k ∨ T5 k → W.heap.size ≤ k ∧ ¬ F k := fun k hk => by
    have hbs := hb.size
    rcases hk with h | h
    · rcases hS5 k h with h1 | h1
      · exact hST k (.inl h1)
      · exact ⟨by omega, fun h2 => by have := hF k h2; omega⟩
    · rcases hT5 k h with h1 | h1
      · exact hST k (.inr h1)
      · exact ⟨by omega, fun h2 => by have := hF k h2; omega⟩
  refine ⟨?_, ht5.mono fun k hk => ⟨(hST k hk).2, (hST k hk).1⟩⟩
  rcases keep_commit hJ hM hi (by omega) with ⟨c0, hJ6, hM6, ho6⟩ | ⟨c19, hdn, hL6, hM6⟩
  · left
    rw [c0]
    exact ⟨rfl, S5, T5, _, _, put, hP5, hL5, hd5, hSS, by rw [List.append_nil, ← hpn]; exact hJ6, hpn, by simp; omega, by omega, hM6, hV5, hb5, hI5⟩
  · right
    rw [c19]
    exact ⟨rfl, S5, _, put, j.own + 1, hP5, fun k hk => hSS k (.inl hk), hL6, hdn, by omega, hpn, by omega, hM6, hJ.ok, by have := hJ.le; omega, hV5.less fun k _ hk => by
      rcases hk with hk | hk
      · exact .inl hk
      · exact .inr (.inr hk), hb5, hI5⟩
/-- Armed. -/
theorem KeepR.arms (h : KeepR N I PD LA W F q f i n sure [] p v w) (C : WalC N I PD LA) (hi : i ≤ 80) (hF : ∀ k, F k → k < w.heap.size) (a : Nat) (keep : Int) (ha : a < 18446744073709551616) :
    Calls Tryz.prog 16 #[.pointer (some ⟨q, 0, none⟩), .int .u64 ((a : Nat) : Int), .int .i64 keep] w fun e w' => e = .returned (.tuple #[]) ∧ KeepR N I PD LA W F q f i n sure [] p v w' ∧ Turn (fun k => ¬ F k ∧ W.heap.size ≤ k) w w' := by
  obtain ⟨S, T, m, j, put, hP, hL, hd, hST, hJ, hpn, hni, how, hM, hV, hb, hI⟩ := h
  have hO := hM.okJ hJ (by omega) (by omega)
  refine (C.arm w S q m a keep hP hO ha).mono ?_
  rintro e w3 ⟨S3, rfl, hP3, hS3, ht3⟩
  have hSk : ∀ k, S k → N ≤ k ∧ ¬ T k := fun k hk => ⟨((C.dhere hP).2 k hk).1, hd k hk⟩
  have hNw : N ≤ w.heap.size := by have := (C.dhere hP).2 q (C.dhere hP).1; omega
  refine ⟨rfl, ⟨S3, T, _, j, put, hP3, C.lturn hL ht3 hSk, fun k hk h => ?_, fun k hk => ?_, ⟨hJ.held, hJ.buf, hJ.next, hJ.last, hJ.le, hJ.ok, hJ.from1, hJ.small, hJ.own1, hJ.up, hJ.size⟩, hpn, hni, how, ⟨hM.cap, hM.size, hM.x.1, ha, hM.x.2.2⟩, ?_, hb.trans (ht3.below hb.size fun k hk => (hST k (.inl hk)).1), C.iturn hI ht3 fun k hk => (hSk k hk).1⟩, ht3.mono fun k hk => ⟨(hST k (.inl hk)).2, (hST k (.inl hk)).1⟩⟩
  · rcases hS3 k hk with h1 | h1
    · exact hd k h1 h
    · have := ((C.lhere hL).2 k h).2; omega
  · rcases hk with hk | hk
    · rcases hS3 k hk with h1 | h1
      · exact hST k (.inl h1)
      · exact ⟨by have := hb.size; omega, fun h2 => by have := hF k h2; omega⟩
    · exact hST k (.inr hk)
  · refine (hV.turn ht3 fun k hk h => hV.2.1 k hk (.inl h)).less' fun k hk h => ?_
    have hlt : k < w.heap.size := (hV.1.lt k hk).2
    rcases h with h | h | h
    · rcases hS3 k h with h1 | h1
      · exact .inl h1
      · omega
    · exact .inr (.inl h)
    · exact .inr (.inr h)
theorem KeepR.isUp (h : KeepR N I PD LA W F q f i n sure [] p v w) (C : WalC N I PD LA) (hi : i ≤ 90) :
    Calls Tryz.prog 15 #[.pointer (some ⟨q, 0, none⟩)] w fun e w' => e = .returned (.bool false) ∧ w' = w := by
  obtain ⟨S, T, m, j, put, hP, hL, hd, hST, hJ, hpn, hni, how, hM, hV, hb, hI⟩ := h
  have h1 := C.down w S q m hP (hM.okJ hJ hi (by omega))
  rwa [hJ.up] at h1
theorem LeftR.okJ {d : Bool} {m : Dk} {put : List Rc} {b : Nat} (hL : Left m f put sure b) (hM : Meas m 0 i) (hb : b ≤ i + 1) (hi : i ≤ 90) : OkJ m := hL.okJ (by omega) (hM.okx hi) (by have := hM.size; omega)
theorem LeftR.isDown {d : Bool} (h : LeftR N I PD W F q f i n sure d v w) (C : WalC N I PD LA) (hi : i ≤ 90) :
    Calls Tryz.prog 15 #[.pointer (some ⟨q, 0, none⟩)] w fun e w' => e = .returned (.bool d) ∧ w' = w := by
  obtain ⟨S, m, put, b, hP, hS, hL, hdn, hbi, hpn, hni, hM, hok, hsn, hV, hb, hI⟩ := h
  have h1 := C.down w S q m hP (LeftR.okJ (d := d) hL hM hbi hi)
  rwa [hdn] at h1
theorem LeftR.crashes {d : Bool} (h : LeftR N I PD W F q f i n sure d v w) (C : WalC N I PD LA) (hi : i ≤ 90) (hF : ∀ k, F k → k < w.heap.size) (keep : Int) :
    Calls Tryz.prog 17 #[.pointer (some ⟨q, 0, none⟩), .int .i64 keep] w fun e w' => e = .returned (.tuple #[]) ∧ LeftR N I PD W F q f i n sure true v w' ∧ Turn (fun k => ¬ F k ∧ W.heap.size ≤ k) w w' := by
  obtain ⟨S, m, put, b, hP, hS, hL, hdn, hbi, hpn, hni, hM, hok, hsn, hV, hb, hI⟩ := h
  refine (C.crash w S q m keep hP (LeftR.okJ (d := d) hL hM hbi hi)).mono ?_
  rintro e w3 ⟨S3, rfl, hP3, hS3, ht3⟩
  refine ⟨rfl, ⟨S3, _, put, b, hP3, fun k hk => ?_, hL.crash keep, rfl, hbi, hpn, hni, hM.crash keep, hok, hsn, ?_, hb.trans (ht3.below hb.size fun k hk => (hS k hk).1), C.iturn hI ht3 fun k hk => ((C.dhere hP).2 k hk).1⟩, ht3.mono fun k hk => ⟨(hS k hk).2, (hS k hk).1⟩⟩
  · rcases hS3 k hk with h1 | h1
    · exact hS k h1
    · exact ⟨by have := hb.size; omega, fun h2 => by have := hF k h2; omega⟩
  · refine (hV.turn ht3 fun k hk h => hV.2.1 k hk (.inl h)).less' fun k hk h => ?_
    have hlt : k < w.heap.size := (hV.1.lt k hk).2
    rcases h with h | h
    · rcases hS3 k h with h1 | h1
      · exact .inl h1
      · omega
    · exact .inr h
theorem LeftR.ups {d : Bool} (h : LeftR N I PD W F q f i n sure d v w) (C : WalC N I PD LA) (hi : i ≤ 90) (hF : ∀ k, F k → k < w.heap.size) :
    Calls Tryz.prog 18 #[.pointer (some ⟨q, 0, none⟩)] w fun e w' => e = .returned (.tuple #[]) ∧ LeftR N I PD W F q f i n sure false v w' ∧ Turn (fun k => ¬ F k ∧ W.heap.size ≤ k) w w' := by
  obtain ⟨S, m, put, b, hP, hS, hL, hdn, hbi, hpn, hni, hM, hok, hsn, hV, hb, hI⟩ := h
  refine (C.up w S q m hP (LeftR.okJ (d := d) hL hM hbi hi)).mono ?_
  rintro e w3 ⟨S3, rfl, hP3, hS3, ht3⟩
  refine ⟨rfl, ⟨S3, _, put, b, hP3, fun k hk => ?_, hL, rfl, hbi, hpn, hni, ⟨hM.cap, hM.size, hM.x⟩, hok, hsn, ?_, hb.trans (ht3.below hb.size fun k hk => (hS k hk).1), C.iturn hI ht3 fun k hk => ((C.dhere hP).2 k hk).1⟩, ht3.mono fun k hk => ⟨(hS k hk).2, (hS k hk).1⟩⟩
  · rcases hS3 k hk with h1 | h1
    · exact hS k h1
    · exact ⟨by have := hb.size; omega, fun h2 => by have := hF k h2; omega⟩
  · refine (hV.turn ht3 fun k hk h => hV.2.1 k hk (.inl h)).less' fun k hk h => ?_
    have hlt : k < w.heap.size := (hV.1.lt k hk).2
    rcases h with h | h
    · rcases hS3 k h with h1 | h1
      · exact .inl h1
      · omega
    · exact .inr h
/-- Opened again: the journal has the first k of the records, the row all of them yet. -/
def TakeR (N : Nat) (I : World → Prop) (PD : World → (Nat → Prop) → Nat → Dk → Prop) (LA : World → (Nat → Prop) → Nat → Nat → Jn → Prop) (W : World) (q f i n k : Nat) (put : List Rc) (p : Nat) (v : Value) (w : World) : Prop :=
  ∃ S T m j, PD w S q m ∧ LA w T p q j ∧ (∀ k, S k → ¬ T k) ∧ (∀ k, S k ∨ T k → W.heap.size ≤ k) ∧ JS m j f (put.take k) k ∧ put.length = n ∧ k ≤ n ∧ n ≤ i ∧ j.own ≤ i + 1 ∧ Meas m (segB j.buf).length i ∧ PutV W (fun k => S k ∨ T k) v put w ∧ Below W.heap.size W w ∧ I w
theorem TakeR.turn {k : Nat} (h : TakeR N I PD LA W q f i n k put p v w) (C : WalC N I PD LA) (hb2 : Below w.heap.size w w') : TakeR N I PD LA W q f i n k put p v w' := by
  obtain ⟨S, T, m, j, hP, hL, hd, hST, hJ, hpn, hkn, hni, how, hM, hV, hb, hI⟩ := h
  have ht : Turn (fun _ => False) w w' := Turn.of_below hb2
  exact ⟨S, T, m, j, C.dturn hP ht (fun _ h => h.elim), C.lturn hL ht (fun _ h => h.elim), hd, hST, hJ, hpn, hkn, hni, how, hM, hV.turn ht (fun _ _ h => h), bthen hb hb2, C.iturn hI ht (fun _ h => h.elim)⟩
theorem TakeR.cut {k c : Nat} {A : Option Addr} (h : TakeR N I PD LA W q f i n k put p (.slice A n c) w) : KeepR N I PD LA W (fun _ => False) q f i k k [] p (.slice A k c) w := by
  obtain ⟨S, T, m, j, hP, hL, hd, hST, hJ, hpn, hkn, hni, how, hM, hV, hb, hI⟩ := h
  have hlt : (put.take k).length = k := by rw [List.length_take]; omega
  refine ⟨S, T, m, j, put.take k, hP, hL, hd, fun x hx => ⟨hST x hx, fun h => h⟩, by rw [List.append_nil]; exact hJ, hlt, by simp; omega, how, hM, ⟨?_, fun x hx h => ?_, fun r hr => hV.2.2 r (List.mem_of_mem_take hr)⟩, hb, hI⟩
  · rw [hlt, rcCells_take _ _ (by omega)]
    have h1 := hV.1
    rw [hpn] at h1
    exact own_takeK h1 k hkn
  · have hx2 : (Value.slice A n c).ownBlock = some x := by
      cases A with
      | none => simp [Value.ownBlock] at hx
      | some a => simpa [Value.ownBlock] using hx
    refine hV.2.1 x hx2 ?_
    rcases h with h | h | h
    · exact .inl h
    · exact .inr h
    · exact h.elim
theorem TakeR.row {k : Nat} (h : TakeR N I PD LA W q f i n k put p v w) : ∃ A c, v = .slice A n c ∧ Rcs w (fun k => w.heap.size ≤ k) A n put ∧ n ≤ c ∧ c ≤ maxLen ∧ Fine put ∧ put.length = n ∧ (A = none → n = 0 ∧ c = 0) := by
  obtain ⟨S, T, m, j, hP, hL, hd, hST, hJ, hpn, hkn, hni, how, hM, hV, hb, hI⟩ := h
  obtain ⟨A, c, hv, h1, h2, h3⟩ := own_formk hV.1
  obtain ⟨A2, c2, hv2, hR⟩ := Rcs.of_own (S := fun k => w.heap.size ≤ k) hV.1 (fun k hk => .inr hk)
  rw [hv] at hv2
  injection hv2 with e1 e2 e3
  subst e1 e3
  rw [hpn] at hv hR h1 h2
  exact ⟨A, c, hv, hR, h2, h3, hV.2.2, hpn, h1⟩
theorem LeftR.opens_ (h : LeftR N I PD W F q f i n sure false v w) (C : WalC N I PD LA) (hi : i ≤ 90) (next : Nat) (hf : f = max next 1) (hf2 : f ≤ 4611686018427387904) :
    Calls Tryz.prog 10 #[.pointer (some ⟨q, 0, none⟩), .int .u64 ((next : Nat) : Int)] w fun e w' => ∃ put p k A c, e = .returned (.tuple #[.pointer (some ⟨p, 0, none⟩), .slice A k c, .int .i64 0]) ∧ TakeR N I PD LA W q f i n k put p v w' ∧ sure ≤ k ∧ k ≤ n ∧ Rcs w' (fun _ => False) A k ((numR put f).take k) ∧ k ≤ c ∧ c ≤ maxLen ∧ Below w.heap.size w w' := by
  obtain ⟨S, m, put, b, hP, hS, hL, hdn, hbi, hpn, hni, hM, hok, hsn, hV, hb, hI⟩ := h
  obtain ⟨k, q1, q2, q3, q4, q5⟩ := hL.opens (next := next) hdn hf (by omega) hok
  have hlen : (put.take k).length = k := by rw [List.length_take]; omega
  have hO := C.opens w S q m next hI hP (LeftR.okJ (d := false) hL hM hbi hi) hdn (by omega) (by rw [q4.next, hlen]; omega)
  refine hO.mono ?_
  rintro e w2 ⟨p, T, A, n2, c, rfl, hL2, hT, hR, hnc, hcm, hb2⟩
  have hn2 : n2 = k := by rw [← hR.len, q3, numR_len, hlen]
  subst hn2
  have ht2 : Turn (fun _ => False) w w2 := Turn.of_below hb2
  have hSl := (C.dhere hP).2
  refine ⟨put, p, n2, A, c, rfl, ⟨S, T, m, _, C.dturn hP ht2 (fun _ h => h.elim), hL2, fun x hx h => by have := (hSl x hx).2; have := hT x h; omega, fun x hx => ?_, q4, hpn, by omega, hni, by omega, ?_, ?_, bthen hb hb2, C.iturn hI ht2 (fun _ h => h.elim)⟩, q1, by omega, ?_, hnc, hcm, hb2⟩
  · rcases hx with h | h
    · exact (hS x h).1
    · have := hT x h; have := hb.size; omega
  · show Meas m (segB []).length i
    rw [segB_nil]
    exact hM
  · refine (hV.turn ht2 (fun _ _ h => h)).less' fun x hx h => ?_
    have hlt : x < w.heap.size := (hV.1.lt x hx).2
    rcases h with h | h
    · exact .inl h
    · have := hT x h; omega
  · rw [q3, numR_take] at hR
    exact Sls.less hR (fun _ h => h.elim)
theorem KeepR.next_ (h : KeepR N I PD LA W F q f i n sure [] p v w) (C : WalC N I PD LA) : Calls Tryz.prog 11 #[.pointer (some ⟨p, 0, none⟩)] w fun e w' => e = .returned (.int .u64 ((f + n : Nat) : Int)) ∧ w' = w := by
  obtain ⟨S, T, m, j, put, hP, hL, hd, hST, hJ, hpn, hni, how, hM, hV, hb, hI⟩ := h
  rw [List.append_nil] at hJ
  have h1 := C.next w T p q j hL
  rwa [hJ.next, hpn] at h1
theorem KeepR.sure_ (h : KeepR N I PD LA W F q f i n sure [] p v w) (C : WalC N I PD LA) : Calls Tryz.prog 21 #[.pointer (some ⟨p, 0, none⟩)] w fun e w' => e = .returned (.int .u64 ((f + sure - 1 : Nat) : Int)) ∧ ∃ k, w' = w.drewN k := by
  obtain ⟨S, T, m, j, put, hP, hL, hd, hST, hJ, hpn, hni, how, hM, hV, hb, hI⟩ := h
  have h1 := C.sure w T p q j hL
  rwa [hJ.last] at h1
theorem KeepR.waits_ (h : KeepR N I PD LA W F q f i n sure [] p v w) (C : WalC N I PD LA) : Calls Tryz.prog 22 #[.pointer (some ⟨p, 0, none⟩)] w fun e w' => e = .returned (.int .i64 ((n - sure : Nat) : Int)) ∧ w' = w := by
  obtain ⟨S, T, m, j, put, hP, hL, hd, hST, hJ, hpn, hni, how, hM, hV, hb, hI⟩ := h
  rw [List.append_nil] at hJ
  have h1 := C.waits w T p q j hL
  rwa [hJ.blen, hpn] at h1
theorem KeepR.le (h : KeepR N I PD LA W F q f i n sure [] p v w) : sure ≤ n ∧ n ≤ i ∧ 1 ≤ f ∧ ∃ A c, v = .slice A n c ∧ n ≤ c ∧ c ≤ maxLen ∧ (A = none → n = 0 ∧ c = 0) := by
  obtain ⟨S, T, m, j, put, hP, hL, hd, hST, hJ, hpn, hni, how, hM, hV, hb, hI⟩ := h
  rw [List.append_nil] at hJ
  obtain ⟨A, c, hv, h1, h2, h3⟩ := own_formk hV.1
  rw [hpn] at hv h1 h2
  exact ⟨by have := hJ.le; omega, by simp at hni; omega, hJ.from1, A, c, hv, h2, h3, h1⟩
/-- The row grows by the record that the journal has already. -/
theorem KeepR.row {r : Rc} (h : KeepR N I PD LA W F q f i n sure [r] p v w) (C : WalC N I PD LA) (ho : r.okay) (ht : r.ten.length ≤ 100) (hF : ∀ k, F k → k < w.heap.size) (hNW : N ≤ W.heap.size) : ∃ put A c, v = .slice A n c ∧ w.ownsRow W.heap.size 35 6 v n (rcCells put) ∧ n + 1 ≤ i ∧ W.heap.size ≤ w.heap.size ∧
    ∀ (o : Obj) (v' : Value) (w' : World), w'.ownsRow W.heap.size 35 6 v' (n + 1) (rcCells put ++ r.cells) → (w.alloc o).grownBy w' v.ownBlock → (v'.ownBlock = v.ownBlock ∨ v'.ownBlock = some (w.alloc o).heap.size) → KeepR N I PD LA W F q f i (n + 1) sure [] p v' w' ∧ Turn (fun k => ¬ F k) w w' := by
  obtain ⟨S, T, m, j, put, hP, hL, hd, hST, hJ, hpn, hni, how, hM, hV, hb, hI⟩ := h
  obtain ⟨A, c, hv, h1, h2, h3⟩ := own_formk hV.1
  have hV1 := hV.1
  rw [hpn] at hV1 hv
  refine ⟨put, A, c, hv, hV1, by simpa using hni, hb.size, fun o v' w' hown hgr hat => ?_⟩
  have hsz : (w.alloc o).heap.size = w.heap.size + 1 := by simp
  have ht1 : Turn (fun k => v.ownBlock = some k) w w' := (Turn.refl _ w).alloc o |>.trans ⟨hgr.os, hgr.tape, hgr.output, hgr.size, fun k hk hn => hgr.block k hk fun e => hn e.symm⟩
  have hoff : ∀ k, v.ownBlock = some k → ¬ (S k ∨ T k ∨ F k) := hV.2.1
  have hlen : (put ++ [r]).length = n + 1 := by rw [List.length_append, hpn]; rfl
  have hvW : ∀ k, v.ownBlock = some k → W.heap.size ≤ k := fun k hk => (hV1.lt k hk).1
  have hNw : N ≤ w.heap.size := by have := (C.dhere hP).2 q (C.dhere hP).1; omega
  refine ⟨⟨S, T, m, j, put ++ [r], C.dturn hP ht1 fun k hk => ⟨?_, fun h => hoff k hk (.inl h)⟩, C.lturn hL ht1 fun k hk => ⟨?_, fun h => hoff k hk (.inr (.inl h))⟩, hd, hST, by rw [List.append_nil]; exact hJ, hlen, by simpa using hni, how, hM, ⟨?_, fun k hk h => ?_, fun q hq => ?_⟩, hb.trans (ht1.below hb.size hvW), C.iturn hI ht1 fun k hk => ?_⟩, ht1.mono fun k hk h => hoff k hk (.inr (.inr h))⟩
  · have := hvW k hk; have := hST q (.inl (C.dhere hP).1); have := hNW; omega
  · have := hvW k hk; have := hNW; omega
  · rw [hlen, rcCells_snoc]; exact hown
  · rcases hat with e | e
    · exact hoff k (e.symm.trans hk) h
    · rw [e] at hk
      have hk2 : (w.alloc o).heap.size = k := Option.some.inj hk
      rcases h with h | h | h
      · have := ((C.dhere hP).2 k h).2; omega
      · have := ((C.lhere hL).2 k h).2; omega
      · have := hF k h; omega
  · rcases List.mem_append.1 hq with hq | hq
    · exact hV.2.2 q hq
    · rw [List.mem_singleton.1 hq]
      exact ⟨ho, by unfold maxLen; omega⟩
  · have := hvW k hk; have := hNW; omega
end

end Go.Proofs.YthjikbhjciphiaaGreatDoor
