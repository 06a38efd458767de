/-
  Lists of records in memory; the reference's records of segments.
-/
import Derived.Test.YthjikbhjciphiaaGreatDoorZz24
import Derived.Test.YthjikbhjciphiaaGreatDoorZz15
import Derived.Test.YthjikbhjciphiaaGreatDoorZz3
import Derived.BigQuiet
import Derived.Test.YthjikbhjciphiaaGreatDoorZz22
namespace Go.Proofs.YthjikbhjciphiaaGreatDoor
open Go.RowKit
set_option linter.unusedVariables false
set_option linter.unusedSimpArgs false

theorem Tryz.infoRc : (Tryz.prog.info? 35).map (fun i => (i.zero, i.size, i.bytes)) = some (some (.agg #[.int .u64 0, .int .i64 0, .string ⟨#[]⟩, .int .u64 0, .int .u64 0, .int .u64 0]), 6, 56) := by kernel_rfl

/-- A record's parts. -/
def rcP (r : Rc) : List Prt := [.num .u64 (r.seq : Nat), .num .i64 r.kind, .txt r.ten, .num .u64 (r.lease : Nat), .num .u64 (r.n : Nat), .num .u64 (r.bits : Nat)]
def rcPs (l : List Rc) : List (List Prt) := l.map rcP
def rcCells (l : List Rc) : List Value := (l.map Rc.cells).flatten
theorem rcPs_len (l : List Rc) : (rcPs l).length = l.length := List.length_map ..
theorem rcPs_six (l : List Rc) : ∀ f ∈ rcPs l, f.length = 6 := by
  intro f hf
  obtain ⟨r, _, rfl⟩ := List.mem_map.1 hf
  rfl
theorem rcP_cells (w : World) (S : Nat → Prop) (r : Rc) : PrtsV w S r.cells (rcP r) := ⟨_, _, rfl, rfl, _, _, rfl, rfl, _, _, rfl, rfl, _, _, rfl, rfl, _, _, rfl, rfl, _, _, rfl, rfl, rfl⟩
theorem rcPs_cells (w : World) (S : Nat → Prop) (l : List Rc) : PrtsV w S (rcCells l) (rcPs l).flatten := by
  induction l with
  | nil => exact rfl
  | cons r l ih =>
    show PrtsV w S (r.cells ++ rcCells l) (rcP r ++ (rcPs l).flatten)
    exact PrtsV.append _ _ _ _ (rcP_cells w S r) ih
theorem rcCells_snoc (l : List Rc) (r : Rc) : rcCells (l ++ [r]) = rcCells l ++ r.cells := by unfold rcCells; simp
/-- The slice value '.slice A n c' reads as these records. -/
def Rcs (w : World) (S : Nat → Prop) (A : Option Addr) (n : Nat) (l : List Rc) : Prop := Sls w S 6 A n (rcPs l)
theorem Rcs.len {w : World} {S : Nat → Prop} {A : Option Addr} {n : Nat} {l : List Rc} (h : Rcs w S A n l) : l.length = n := by have := h.1; rwa [rcPs_len] at this
theorem Rcs.below {w w' : World} {S : Nat → Prop} {A : Option Addr} {n : Nat} {l : List Rc} (h : Rcs w S A n l) (hb : Below w.heap.size w w') : Rcs w' S A n l :=
  Sls.turn h ⟨hb.os, hb.tape, hb.output, hb.size, fun k hk hn => hb.block k hk⟩
theorem Rcs.at_ {w : World} {S : Nat → Prop} {A : Option Addr} {n : Nat} {l : List Rc} (h : Rcs w S A n l) {j : Nat} {r : Rc} (hj : l[j]? = some r) :
    ∃ g o, A = some ⟨g, o, none⟩ ∧ ¬ S g ∧ g < w.heap.size ∧ w.cell? ⟨g, o + j * 6, none⟩ = some (.int .u64 (r.seq : Nat)) ∧ w.cell? ⟨g, o + j * 6 + 1, none⟩ = some (.int .i64 r.kind) ∧ w.cell? ⟨g, o + j * 6 + 2, none⟩ = some (.string ⟨r.ten.toArray⟩) ∧
      w.cell? ⟨g, o + j * 6 + 3, none⟩ = some (.int .u64 (r.lease : Nat)) ∧ w.cell? ⟨g, o + j * 6 + 4, none⟩ = some (.int .u64 (r.n : Nat)) ∧ w.cell? ⟨g, o + j * 6 + 5, none⟩ = some (.int .u64 (r.bits : Nat)) := by
  have hj' : (rcPs l)[j]? = some (rcP r) := by unfold rcPs; rw [List.getElem?_map, hj]; rfl
  obtain ⟨g, o, ys, e, hs, hl, hp, _, hc⟩ := Sls.at_ h hj'
  obtain ⟨v0, r0, rfl, rfl, v1, r1, rfl, rfl, v2, r2, rfl, rfl, v3, r3, rfl, rfl, v4, r4, rfl, rfl, v5, r5, rfl, rfl, hr⟩ := hp
  refine ⟨g, o, e, hs, hl, hc 0 _ rfl, hc 1 _ rfl, hc 2 _ rfl, hc 3 _ rfl, hc 4 _ rfl, hc 5 _ rfl⟩
theorem Rcs.of_own {w : World} {S : Nat → Prop} {base : Nat} {v : Value} {l : List Rc} (h : w.ownsRow base 35 6 v l.length (rcCells l)) (hS : ∀ k, S k → k < base ∨ w.heap.size ≤ k) : ∃ A c, v = .slice A l.length c ∧ Rcs w S A l.length l := by
  rcases h.2 with ⟨rfl, h0⟩ | ⟨g, cap, cur, rfl, _⟩
  · refine ⟨none, 0, by rw [h0], ?_⟩
    rw [List.eq_nil_of_length_eq_zero h0]
    exact Sls.nil
  · exact ⟨_, cap, rfl, Sls.of_own h (rcPs_cells w S l) (rcPs_six l) (rcPs_len l) hS⟩

/-- What is kept while records are taken. -/
def RcsI (W : World) (v : Value) (out : List Rc) (wr : World) : Prop := wr.ownsRow W.heap.size 35 6 v out.length (rcCells out) ∧ Below W.heap.size W wr
theorem takeR_len : ∀ (bs : List (List UInt8)) (out : List Rc), (takeR out bs).length ≤ out.length + bs.length := by
  intro bs
  induction bs with
  | nil => intro out; exact Nat.le_refl _
  | cons b bs ih =>
    intro out
    unfold takeR
    split
    · have := ih (out ++ [recP b])
      rw [List.length_append, List.length_singleton] at this
      rw [List.length_cons]
      omega
    · rw [List.length_cons]; omega
theorem take_snoc13 {α : Type} (L : List α) (k : Nat) (b : α) (h : L[k]? = some b) : L.take (k + 1) = L.take k ++ [b] := by rw [List.take_add_one, h]; rfl
theorem segsR_snoc (out : List Rc) (l : List (List UInt8)) (s : List UInt8) : segsR out (l ++ [s]) = takeR (segsR out l) (validC s).1 := by unfold segsR; rw [List.foldl_append]; rfl

end Go.Proofs.YthjikbhjciphiaaGreatDoor

/-
  The reference's records of segments.
-/
namespace Go.Proofs.YthjikbhjciphiaaGreatDoor
open Go.RowKit
set_option linter.unusedVariables false
set_option linter.unusedSimpArgs false

theorem valid_sizes (l : List UInt8) : ∀ b ∈ (validC l).1, b.length ≤ 4096 := by
  suffices h : ∀ n (r : List UInt8), r.length = n → ∀ b ∈ (validC r).1, b.length ≤ 4096 from h l.length l rfl
  intro n
  induction n using Nat.strongRecOn with
  | ind n ih =>
    intro r hr b hb
    by_cases h0 : (headC r).2.2 = 0
    · obtain ⟨h1, h2, h3, h4⟩ := head_size r h0
      have hd : (r.drop (headC r).2.1).length = r.length - (headC r).2.1 := List.length_drop
      rw [valid_go r h0] at hb
      rcases List.mem_cons.1 hb with rfl | hb
      · omega
      · exact ih _ (by omega) (r.drop (headC r).2.1) hd b hb
    · rw [valid_stop r h0] at hb
      cases hb
theorem BytS.low {w : World} {B : Nat} {A : Option Addr} {n : Nat} {l : List UInt8} (h : BytS w (fun k => B ≤ k) A n l) : Byt w B A n l :=
  ⟨h.1, fun hn => by
    obtain ⟨b, o, e, hb, hc⟩ := h.2 hn
    exact ⟨b, o, e, by omega, hc⟩⟩
theorem awaits_nil (r : Rc) : awaits [] r = true := rfl
theorem awaits_snoc (l : List Rc) (q r : Rc) : awaits (l ++ [q]) r = decide (r.seq = (q.seq + 1) % 18446744073709551616) := by unfold awaits; simp
theorem takeR_yes (out : List Rc) (b : List UInt8) (bs : List (List UInt8)) (h1 : recOk b = true) (h2 : awaits out (recP b) = true) : takeR out (b :: bs) = takeR (out ++ [recP b]) bs := by
  show (if recOk b = true ∧ awaits out (recP b) = true then _ else _) = _
  rw [if_pos ⟨h1, h2⟩]
theorem takeR_no (out : List Rc) (b : List UInt8) (bs : List (List UInt8)) (h : recOk b = false ∨ awaits out (recP b) = false) : takeR out (b :: bs) = out := by
  show (if recOk b = true ∧ awaits out (recP b) = true then _ else _) = _
  rw [if_neg]
  rintro ⟨h1, h2⟩
  rcases h with h | h
  · rw [h1] at h; cases h
  · rw [h2] at h; cases h
/-- All bytes of lists. -/
def sumL (l : List (List UInt8)) : Nat := (l.map List.length).sum
theorem segsR_len : ∀ (l : List (List UInt8)) (out : List Rc), (segsR out l).length ≤ out.length + sumL l := by
  intro l
  induction l with
  | nil => intro out; exact Nat.le_refl _
  | cons s l ih =>
    intro out
    show (segsR (takeR out (validC s).1) l).length ≤ _
    have h1 := ih (takeR out (validC s).1)
    have h2 := takeR_len (validC s).1 out
    have h3 := (valid_end s).2
    show _ ≤ out.length + (s.length + sumL l)
    omega
theorem sumL_take (l : List (List UInt8)) (k : Nat) : sumL (l.take k) ≤ sumL l := by
  unfold sumL
  induction l generalizing k with
  | nil => simp
  | cons s l ih =>
    cases k with
    | zero => simp
    | succ k =>
      simp only [List.take_succ_cons, List.map_cons, List.sum_cons]
      have := ih k
      omega
theorem sumL_at (l : List (List UInt8)) (k : Nat) (s : List UInt8) (h : l[k]? = some s) : s.length ≤ sumL l := by
  unfold sumL
  induction l generalizing k with
  | nil => cases h
  | cons t l ih =>
    cases k with
    | zero =>
      simp at h
      subst h
      simp only [List.map_cons, List.sum_cons]
      omega
    | succ k =>
      have := ih k (by simpa using h)
      simp only [List.map_cons, List.sum_cons]
      omega

/-- A list off a row of one's own stays so where the row is appended to. -/
theorem lst_step {w w' : World} {o : Obj} {v v' : Value} {A : Option Addr} {n : Nat} {l : List (List UInt8)} (h : Lst w (fun x => v.ownBlock = some x) A n l) (hg : (w.alloc o).grownBy w' v.ownBlock) (hv : v'.ownBlock = v.ownBlock ∨ v'.ownBlock = some (w.alloc o).heap.size) :
    Lst w' (fun x => v'.ownBlock = some x) A n l := by
  have hsz := hg.size
  simp at hsz
  have h1 : Lst w (fun x => v.ownBlock = some x ∨ w.heap.size ≤ x) A n l := Sls.more h (fun k hk hlt => hk.resolve_right (by omega))
  have h2 : Turn (fun x => v.ownBlock = some x ∨ w.heap.size ≤ x) w w' := by
    refine ⟨hg.os, hg.tape, hg.output, by omega, fun k hk hn => ?_⟩
    exact (hg.block k (by simp; omega) (fun e => hn (.inl e.symm))).trans (Below.heap_alloc _ _ _ hk)
  refine Sls.less (Sls.turn h1 h2) (fun k hk => ?_)
  rcases hv with e | e
  · rw [e] at hk; exact .inl hk
  · rw [e] at hk
    simp at hk
    exact .inr (by omega)

end Go.Proofs.YthjikbhjciphiaaGreatDoor

/-
  Segments of records whose numbers go on, the last one torn. No program stands here.
-/
namespace Go.Proofs.YthjikbhjciphiaaGreatDoor
open Go.RowKit
set_option linter.unusedVariables false
set_option linter.unusedSimpArgs false

/-- A record that may be. -/
def okRc (r : Rc) : Prop := checkC r = 0 ∧ r.okay
/-- Numbers that go on. -/
def Chain (l : List Rc) : Prop := ∀ (i : Nat) (a b : Rc), l[i]? = some a → l[i + 1]? = some b → a.seq + 1 < 18446744073709551616 ∧ b.seq = a.seq + 1
/-- The bytes of a segment. -/
def segB (c : List Rc) : List UInt8 := boxesC (c.map encC)

theorem okRc_rec (r : Rc) (h : okRc r) : recOk (encC r) = true ∧ recP (encC r) = r := by
  obtain ⟨h1, h2, h3⟩ := recP_enc r h.2 h.1
  refine ⟨?_, h1⟩
  unfold recOk
  rw [h1, h2]
  exact decide_eq_true ⟨by omega, h3, h.1, rfl⟩
theorem okRc_len (r : Rc) (h : okRc r) : 10 ≤ (encC r).length ∧ (encC r).length ≤ 50 := by
  have h1 := (recP_enc r h.2 h.1).2.2
  have h2 := enc_len r
  have h3 := (ten_len _ (check_parts r h.1).2.1).2
  omega
theorem chain_tail {a : Rc} {l : List Rc} (h : Chain (a :: l)) : Chain l := fun i x y hx hy => h (i + 1) x y (by simpa using hx) (by simpa using hy)
theorem take_chain : ∀ (c out : List Rc), (∀ r ∈ c, okRc r) → Chain (out ++ c) → takeR out (c.map encC) = out ++ c := by
  intro c
  induction c with
  | nil => intro out _ _; rw [List.append_nil]; rfl
  | cons r c ih =>
    intro out hok hch
    obtain ⟨h1, h2⟩ := okRc_rec r (hok r List.mem_cons_self)
    rw [List.map_cons, takeR_yes _ _ _ h1 ?_, h2, ih (out ++ [r]) (fun q hq => hok q (List.mem_cons_of_mem _ hq)) (by simpa using hch)]
    · simp
    · rw [h2]
      unfold awaits
      cases hl : out.getLast? with
      | none => rfl
      | some q =>
        obtain ⟨l', rfl⟩ : ∃ l', out = l' ++ [q] := by
          have hne : out ≠ [] := by rintro rfl; cases hl
          rw [List.getLast?_eq_some_getLast hne] at hl
          exact ⟨out.dropLast, by rw [← Option.some.inj hl]; exact (List.dropLast_concat_getLast hne).symm⟩
        have := hch l'.length q r (by simp) (by simp)
        exact decide_eq_true (by omega)

theorem lenB_take_succ (bs : List (List UInt8)) (m : Nat) (b : List UInt8) (h : bs[m]? = some b) : lenB (bs.take (m + 1)) = lenB (bs.take m) + (b.length + 6) := by
  rw [List.take_add_one, h]
  exact lenB_snoc _ _
/-- Those of boxes that are whole. -/
theorem cutB_take : ∀ (bs : List (List UInt8)) (n m : Nat), m ≤ bs.length → lenB (bs.take m) ≤ n → (m = bs.length ∨ n < lenB (bs.take (m + 1))) → (cutB bs n).1 = bs.take m := by
  intro bs
  induction bs with
  | nil => intro n m _ _ _; simp [cutB]
  | cons b t ih =>
    intro n m hm h1 h2
    cases m with
    | zero =>
      rcases h2 with h2 | h2
      · cases h2
      · have e : lenB ((b :: t).take (0 + 1)) = b.length + 6 := by
          show lenB [b] = _
          rw [lenB_cons]
          rfl
        rw [e] at h2
        unfold cutB
        rw [if_neg (by omega)]
        rfl
    | succ m =>
      rw [List.take_succ_cons, lenB_cons] at h1
      have hm' : m ≤ t.length := by simpa using hm
      unfold cutB
      rw [if_pos (by omega)]
      simp only [List.take_succ_cons]
      rw [ih (n - (b.length + 6)) m hm' (by omega) ?_]
      rcases h2 with h2 | h2
      · exact .inl (by simpa using h2)
      · rw [List.take_succ_cons, lenB_cons] at h2
        exact .inr (by omega)

theorem segs_whole : ∀ (cs : List (List Rc)) (out : List Rc), (∀ r ∈ cs.flatten, okRc r) → Chain (out ++ cs.flatten) → segsR out (cs.map segB) = out ++ cs.flatten := by
  intro cs
  induction cs with
  | nil => intro out _ _; simp [segsR]
  | cons c cs ih =>
    intro out hok hch
    have hc : ∀ r ∈ c, okRc r := fun r hr => hok r (by simp [hr])
    have hv : (validC (segB c)).1 = c.map encC := by
      have h1 := valid_cut (c.map encC) (lenB (c.map encC)) (fun b hb => by
        obtain ⟨r, hr, rfl⟩ := List.mem_map.1 hb
        have := okRc_len r (hc r hr)
        omega)
      rw [show (boxesC (c.map encC)).take (lenB (c.map encC)) = boxesC (c.map encC) from List.take_of_length_le (Nat.le_refl _)] at h1
      unfold segB
      rw [h1, cutB_all _ _ (Nat.le_refl _)]
    show segsR (takeR out (validC (segB c)).1) (cs.map segB) = _
    have hch1 : Chain (out ++ c) := fun i a b ha hb => hch i a b (by
      rw [List.flatten_cons, ← List.append_assoc, List.getElem?_append_left (List.getElem?_eq_some_iff.1 ha).1]; exact ha) (by
      rw [List.flatten_cons, ← List.append_assoc, List.getElem?_append_left (List.getElem?_eq_some_iff.1 hb).1]; exact hb)
    rw [hv, take_chain c out hc hch1, ih (out ++ c) (fun r hr => hok r (by simp at hr ⊢; exact .inr hr)) (by simpa using hch)]
    simp
/-- The last segment torn: a beginning comes back, with all that are whole. -/
theorem torn_math (l : List Rc) (cs : List (List Rc)) (cur : List Rc) (n m : Nat) (hl : l = cs.flatten ++ cur) (hok : ∀ r ∈ l, okRc r) (hch : Chain l) (hm : m ≤ cur.length) (h1 : lenB ((cur.map encC).take m) ≤ n) (h2 : m = cur.length ∨ n < lenB ((cur.map encC).take (m + 1))) :
    segsR [] (cs.map segB ++ [(segB cur).take n]) = l.take (cs.flatten.length + m) := by
  subst hl
  have hokc : ∀ r ∈ cs.flatten, okRc r := fun r hr => hok r (List.mem_append_left _ hr)
  have hoku : ∀ r ∈ cur, okRc r := fun r hr => hok r (List.mem_append_right _ hr)
  have hch0 : Chain cs.flatten := fun i a b ha hb => hch i a b (by rw [List.getElem?_append_left (List.getElem?_eq_some_iff.1 ha).1]; exact ha) (by rw [List.getElem?_append_left (List.getElem?_eq_some_iff.1 hb).1]; exact hb)
  have hch1 : Chain ([] ++ cs.flatten) := by rw [List.nil_append]; exact hch0
  rw [segsR_snoc, segs_whole cs [] hokc hch1]
  have hv := valid_cut (cur.map encC) n (fun b hb => by
    obtain ⟨r, hr, rfl⟩ := List.mem_map.1 hb
    have := okRc_len r (hoku r hr)
    omega)
  unfold segB
  rw [hv, cutB_take _ n m (by simpa using hm) h1 (by simpa using h2), ← List.map_take, List.nil_append, take_chain (cur.take m) cs.flatten (fun r hr => hoku r (List.mem_of_mem_take hr)) ?_, List.take_length_add_append]
  have e : cs.flatten ++ cur.take m = (cs.flatten ++ cur).take (cs.flatten.length + m) := by rw [List.take_length_add_append]
  rw [e]
  intro i a b ha hb
  rw [List.getElem?_take] at ha hb
  split at ha
  · split at hb
    · exact hch i a b ha hb
    · cases hb
  · cases ha

end Go.Proofs.YthjikbhjciphiaaGreatDoor

/-
  A journal's segments on a disk: what a commit leaves, what a crash does. No program stands here.
-/
namespace Go.Proofs.YthjikbhjciphiaaGreatDoor
open Go.RowKit
set_option linter.unusedVariables false
set_option linter.unusedSimpArgs false

/-- A file of a segment, all of it sure. -/
def sgF (p : Nat × List UInt8) : Fl := ⟨nameL p.1, p.2, p.2.length⟩
/-- The disk's files are a journal's segments: those ahead of its own hold R0, its own cur. -/
structure HeldJ (fs : List Fl) (own : Nat) (pre : List (Nat × List UInt8)) (R0 cur : List Rc) : Prop where
  files : fs = pre.map sgF ++ (if cur = [] then [] else [sgF (own, segB cur)])
  rise : (pre.map Prod.fst).Pairwise (· < ·)
  less : ∀ p ∈ pre, 1 ≤ p.1 ∧ p.1 < own
  small : own < 9223372036854775808
  recs : segsR [] (pre.map Prod.snd) = R0
  ok : ∀ r ∈ R0 ++ cur, okRc r
  chain : Chain (R0 ++ cur)

theorem hd_ten : ∀ d : Fin 16, tenR (hd16 d.val).toNat = true ∧ tarR (hd16 d.val).toNat = true := by decide +kernel

theorem valid_seg (c : List Rc) (n : Nat) (h : ∀ r ∈ c, okRc r) : validC ((segB c).take n) = cutB (c.map encC) n :=
  valid_cut (c.map encC) n (fun b hb => by
    obtain ⟨r, hr, rfl⟩ := List.mem_map.1 hb
    have := okRc_len r (h r hr)
    omega)
theorem segB_app (a b : List Rc) : segB (a ++ b) = segB a ++ segB b := by unfold segB boxesC; simp
theorem segB_nil : segB [] = [] := rfl
theorem lenB_seg (c : List Rc) : lenB (c.map encC) = (segB c).length := rfl
theorem lenB_le (c : List Rc) (h : ∀ r ∈ c, okRc r) : (segB c).length ≤ 56 * c.length ∧ 16 * c.length ≤ (segB c).length := by
  induction c with
  | nil => exact ⟨Nat.le_refl _, Nat.le_refl _⟩
  | cons r c ih =>
    have h1 := ih fun q hq => h q (List.mem_cons_of_mem _ hq)
    have h2 := okRc_len r (h r List.mem_cons_self)
    have h3 : (segB (r :: c)).length = (encC r).length + 6 + (segB c).length := lenB_cons _ _
    rw [h3, List.length_cons]
    omega
theorem chain_left {a b : List Rc} (h : Chain (a ++ b)) : Chain a := fun i x y hx hy => h i x y (by rw [List.getElem?_append_left (List.getElem?_eq_some_iff.1 hx).1]; exact hx) (by rw [List.getElem?_append_left (List.getElem?_eq_some_iff.1 hy).1]; exact hy)
theorem chain_take {l : List Rc} (h : Chain l) (k : Nat) : Chain (l.take k) := by
  have := List.take_append_drop k l
  rw [← this] at h
  exact chain_left h

/-- How many boxes are whole within n bytes. -/
theorem cut_find : ∀ (bs : List (List UInt8)) (n : Nat), ∃ m, m ≤ bs.length ∧ lenB (bs.take m) ≤ n ∧ (m = bs.length ∨ n < lenB (bs.take (m + 1))) := by
  intro bs
  induction bs with
  | nil => intro n; exact ⟨0, Nat.le_refl _, Nat.zero_le _, .inl rfl⟩
  | cons b t ih =>
    intro n
    by_cases h : b.length + 6 ≤ n
    · obtain ⟨m, h1, h2, h3⟩ := ih (n - (b.length + 6))
      refine ⟨m + 1, by rw [List.length_cons]; omega, by rw [List.take_succ_cons, lenB_cons]; omega, ?_⟩
      rcases h3 with h3 | h3
      · exact .inl (by rw [List.length_cons, h3])
      · exact .inr (by rw [List.take_succ_cons, lenB_cons]; omega)
    · refine ⟨0, Nat.zero_le _, Nat.zero_le _, .inr ?_⟩
      rw [List.take_succ_cons, lenB_cons, List.take_zero]
      have : lenB [] = 0 := rfl
      omega
theorem lenB_mono (bs : List (List UInt8)) (i j : Nat) (h : i ≤ j) : lenB (bs.take i) ≤ lenB (bs.take j) := by
  have e : bs.take j = bs.take i ++ (bs.take j).drop i := by
    have := List.take_append_drop i (bs.take j)
    rw [List.take_take, Nat.min_eq_left h] at this
    exact this.symm
  rw [e]
  unfold lenB boxesC
  simp
/-- A segment cut off behind j records at least: a beginning of them with those. -/
theorem torn_seg (R0 c : List Rc) (n j : Nat) (hok : ∀ r ∈ c, okRc r) (hch : Chain (R0 ++ c)) (hj : j ≤ c.length) (h : (segB (c.take j)).length ≤ n) : ∃ k, j ≤ k ∧ k ≤ c.length ∧ takeR R0 (validC ((segB c).take n)).1 = R0 ++ c.take k := by
  obtain ⟨m, h1, h2, h3⟩ := cut_find (c.map encC) n
  rw [List.length_map] at h1 h3
  refine ⟨m, ?_, h1, ?_⟩
  · rcases Nat.lt_or_ge m j with hl | hl
    · rcases h3 with h3 | h3
      · omega
      · have h4 := lenB_mono (c.map encC) (m + 1) j hl
        have h5 : lenB ((c.map encC).take j) = (segB (c.take j)).length := by rw [← List.map_take]; rfl
        omega
    · exact hl
  · rw [valid_seg c n hok, cutB_take _ n m (by rw [List.length_map]; exact h1) h2 (by rw [List.length_map]; exact h3), ← List.map_take]
    exact take_chain (c.take m) R0 (fun r hr => hok r (List.mem_of_mem_take hr)) (by
      have e : R0 ++ c.take m = (R0 ++ c).take (R0.length + m) := by rw [List.take_length_add_append]
      rw [e]
      exact chain_take hch _)

/-! The disk's list of files, with a segment's at its end. -/
theorem withF_one (f : Fl) (d : Bool) (g : Fl) (r : List Fl) : withF f d (g :: r) = (if !d && !Op.bytesLess g.name f.name then [f] else []) ++ (if g.name = f.name then [] else [g]) ++ withF f (d || !Op.bytesLess g.name f.name) r := rfl
theorem withF_behind (f : Fl) (t : List Fl) : ∀ (l : List Fl), (∀ g ∈ l, Op.bytesLess g.name f.name = true ∧ g.name ≠ f.name) → withF f false (l ++ t) = l ++ withF f false t := by
  intro l
  induction l with
  | nil => intro _; rfl
  | cons g l ih =>
    intro h
    obtain ⟨h1, h2⟩ := h g List.mem_cons_self
    rw [List.cons_append, withF_one, h1, if_neg h2]
    show ([] ++ [g]) ++ withF f false (l ++ t) = _
    rw [ih fun q hq => h q (List.mem_cons_of_mem _ hq)]
    rfl
theorem withF_last (f g : Fl) (h : g.name = f.name) (hl : Op.bytesLess f.name f.name = false) : withF f false [g] = [f] := by
  rw [withF_one, h, hl, if_pos rfl]
  rfl
theorem lookF_behind (s : List UInt8) (t : List Fl) : ∀ (l : List Fl), (∀ g ∈ l, g.name ≠ s) → lookF s (l ++ t) = lookF s t := by
  intro l
  induction l with
  | nil => intro _; rfl
  | cons g l ih =>
    intro h
    have h1 := h g List.mem_cons_self
    have h2 := ih fun q hq => h q (List.mem_cons_of_mem _ hq)
    unfold lookF at h2 ⊢
    rw [List.cons_append, List.find?_cons, decide_eq_false h1]
    exact h2
theorem less_self (n : Nat) (h : n < 18446744073709551616) : Op.bytesLess (nameL n) (nameL n) = false := by rw [name_less n n h h]; exact decide_eq_false (Nat.lt_irrefl _)
theorem less_ne (a b : Nat) (ha : a < 18446744073709551616) (hb : b < 18446744073709551616) (h : a < b) : Op.bytesLess (nameL a) (nameL b) = true ∧ nameL a ≠ nameL b := by
  have h1 : Op.bytesLess (nameL a) (nameL b) = true := by rw [name_less a b ha hb]; exact decide_eq_true h
  refine ⟨h1, fun e => ?_⟩
  rw [e, less_self b hb] at h1
  cases h1
section
variable {fs : List Fl} {own : Nat} {pre : List (Nat × List UInt8)} {R0 cur : List Rc}
theorem HeldJ.ahead (h : HeldJ fs own pre R0 cur) : ∀ g ∈ pre.map sgF, Op.bytesLess g.name (nameL own) = true ∧ g.name ≠ nameL own := by
  intro g hg
  obtain ⟨p, hp, rfl⟩ := List.mem_map.1 hg
  have h1 := h.less p hp
  have h2 := h.small
  exact less_ne p.1 own (by omega) (by omega) h1.2
/-- Records appended to its own segment, not sure yet. -/
theorem HeldJ.append (h : HeldJ fs own pre R0 cur) (new : List Rc) (s : Nat) : withF ⟨nameL own, (fileF (nameL own) fs).data ++ segB new, s⟩ false fs = pre.map sgF ++ [⟨nameL own, segB (cur ++ new), s⟩] := by
  have hl := less_self own (by have := h.small; omega)
  have h1 := h.ahead
  have h2 : lookF (nameL own) fs = lookF (nameL own) (if cur = [] then [] else [sgF (own, segB cur)]) := by rw [h.files]; exact lookF_behind _ _ _ fun g hg => (h1 g hg).2
  by_cases hc : cur = []
  · rw [if_pos hc] at h2
    have h3 : (fileF (nameL own) fs).data = [] := by unfold fileF; rw [h2]; rfl
    rw [h3, h.files, if_pos hc, withF_behind _ _ _ h1, hc]
    rfl
  · rw [if_neg hc] at h2
    have h3 : (fileF (nameL own) fs).data = segB cur := by
      unfold fileF
      rw [h2]
      unfold lookF
      rw [List.find?_cons, decide_eq_true (show (sgF (own, segB cur)).name = nameL own from rfl)]
      rfl
    rw [h3, h.files, if_neg hc, withF_behind _ _ _ h1, withF_last ⟨nameL own, segB cur ++ segB new, s⟩ (sgF (own, segB cur)) rfl hl, segB_app]
/-- Its own segment's file. -/
theorem HeldJ.own_file (h : HeldJ fs own pre R0 cur) : (fileF (nameL own) fs).data = segB cur := by
  have h1 := h.ahead
  have h2 : lookF (nameL own) fs = lookF (nameL own) (if cur = [] then [] else [sgF (own, segB cur)]) := by rw [h.files]; exact lookF_behind _ _ _ fun g hg => (h1 g hg).2
  unfold fileF
  rw [h2]
  by_cases hc : cur = []
  · rw [if_pos hc, hc]
    rfl
  · rw [if_neg hc]
    unfold lookF
    rw [List.find?_cons, decide_eq_true (show (sgF (own, segB cur)).name = nameL own from rfl)]
    rfl
/-- .. and sure. -/
theorem HeldJ.done (h : HeldJ fs own pre R0 cur) (new : List Rc) (hn : new ≠ []) (hok : ∀ r ∈ new, okRc r) (hch : Chain (R0 ++ (cur ++ new))) : HeldJ (pre.map sgF ++ [sgF (own, segB (cur ++ new))]) own pre R0 (cur ++ new) :=
  ⟨by rw [if_neg (by simp [hn])], h.rise, h.less, h.small, h.recs, fun r hr => by
    rw [← List.append_assoc, List.mem_append] at hr
    rcases hr with hr | hr
    · exact h.ok r hr
    · exact hok r hr, hch⟩
theorem cutF_sg (keep : Int) (p : Nat × List UInt8) : cutF keep (sgF p) = sgF p := by
  have h : leftF keep (sgF p) = p.2.length := by unfold leftF sgF; simp only; omega
  unfold cutF
  rw [h]
  unfold sgF
  simp
theorem cut_pre (keep : Int) (l : List (Nat × List UInt8)) : (l.map sgF).map (cutF keep) = l.map sgF := by
  rw [List.map_map]
  exact List.map_congr_left fun p _ => cutF_sg keep p
/-- A crash touches nothing of what is sure. -/
theorem HeldJ.crash (h : HeldJ fs own pre R0 cur) (keep : Int) : fs.map (cutF keep) = fs := by
  rw [h.files, List.map_append, cut_pre]
  split
  · rfl
  · rw [List.map_singleton, cutF_sg]
/-- Its own segment left for the next one. -/
theorem HeldJ.left (h : HeldJ fs own pre R0 cur) (hc : cur ≠ []) (hs : own + 1 < 9223372036854775808) (h1 : 1 ≤ own) : HeldJ fs (own + 1) (pre ++ [(own, segB cur)]) (R0 ++ cur) [] := by
  refine ⟨by rw [h.files, if_neg hc, if_pos rfl, List.map_append, List.append_nil]; rfl, ?_, fun p hp => ?_, hs, ?_, by rw [List.append_nil]; exact h.ok, by rw [List.append_nil]; exact h.chain⟩
  · rw [List.map_append, List.map_singleton, List.pairwise_append]
    refine ⟨h.rise, List.pairwise_singleton _ _, fun a ha b hb => ?_⟩
    obtain ⟨p, hp, rfl⟩ := List.mem_map.1 ha
    rw [List.mem_singleton.1 hb]
    exact (h.less p hp).2
  · rcases List.mem_append.1 hp with hp | hp
    · have := h.less p hp
      exact ⟨this.1, by omega⟩
    · rw [List.mem_singleton.1 hp]
      exact ⟨h1, Nat.lt_succ_self _⟩
  · rw [List.map_append, List.map_singleton, segsR_snoc, h.recs]
    have hok : ∀ r ∈ cur, okRc r := fun r hr => h.ok r (List.mem_append_right _ hr)
    obtain ⟨k, k1, k2, k3⟩ := torn_seg R0 cur (segB cur).length cur.length hok h.chain (Nat.le_refl _) (by rw [List.take_length]; exact Nat.le_refl _)
    rw [List.take_length] at k3
    rw [k3, List.take_of_length_le (by omega)]
/-- Appended, then a crash ahead of the sync: a beginning of what was appended. -/
theorem HeldJ.torn (h : HeldJ fs own pre R0 cur) (new : List Rc) (hok : ∀ r ∈ new, okRc r) (hch : Chain (R0 ++ (cur ++ new))) (keep : Int) (hs : own + 1 < 9223372036854775808) (h1 : 1 ≤ own) :
    ∃ D k, k ≤ new.length ∧ (pre.map sgF ++ [(⟨nameL own, segB (cur ++ new), (segB cur).length⟩ : Fl)]).map (cutF keep) = (pre ++ [(own, D)]).map sgF ∧ HeldJ ((pre ++ [(own, D)]).map sgF) (own + 1) (pre ++ [(own, D)]) (R0 ++ (cur ++ new.take k)) [] := by
  obtain ⟨n, hn⟩ : ∃ n, leftF keep ⟨nameL own, segB (cur ++ new), (segB cur).length⟩ = n := ⟨_, rfl⟩
  have hle : (segB cur).length ≤ n ∧ n ≤ (segB (cur ++ new)).length := by
    have : (segB cur).length ≤ (segB (cur ++ new)).length := by rw [segB_app, List.length_append]; omega
    unfold leftF at hn
    simp only at hn
    omega
  have hoka : ∀ r ∈ cur ++ new, okRc r := fun r hr => by
    rcases List.mem_append.1 hr with hr | hr
    · exact h.ok r (List.mem_append_right _ hr)
    · exact hok r hr
  obtain ⟨k, k1, k2, k3⟩ := torn_seg R0 (cur ++ new) n cur.length hoka hch (by simp) (by rw [List.take_left]; exact hle.1)
  have e : (cur ++ new).take k = cur ++ new.take (k - cur.length) := by rw [List.take_append, List.take_of_length_le k1]
  rw [e] at k3
  have hlen : ((segB (cur ++ new)).take n).length = n := by rw [List.length_take]; omega
  refine ⟨(segB (cur ++ new)).take n, k - cur.length, by rw [List.length_append] at k2; omega, ?_, ⟨by rw [if_pos rfl, List.append_nil], ?_, fun p hp => ?_, hs, ?_, ?_, ?_⟩⟩
  · rw [List.map_append, cut_pre, List.map_append, List.map_singleton, List.map_singleton]
    unfold cutF
    rw [hn]
    unfold sgF
    simp only
    rw [hlen]
  · rw [List.map_append, List.map_singleton, List.pairwise_append]
    refine ⟨h.rise, List.pairwise_singleton _ _, fun a ha b hb => ?_⟩
    obtain ⟨p, hp, rfl⟩ := List.mem_map.1 ha
    rw [List.mem_singleton.1 hb]
    exact (h.less p hp).2
  · rcases List.mem_append.1 hp with hp | hp
    · have := h.less p hp
      exact ⟨this.1, by omega⟩
    · rw [List.mem_singleton.1 hp]
      exact ⟨h1, Nat.lt_succ_self _⟩
  · rw [List.map_append, List.map_singleton, segsR_snoc, h.recs, k3]
  · rw [List.append_nil]
    intro r hr
    rcases List.mem_append.1 hr with hr | hr
    · exact h.ok r (List.mem_append_left _ hr)
    · rcases List.mem_append.1 hr with hr | hr
      · exact h.ok r (List.mem_append_right _ hr)
      · exact hok r (List.mem_of_mem_take hr)
  · rw [List.append_nil]
    have e2 : R0 ++ (cur ++ new.take (k - cur.length)) = (R0 ++ (cur ++ new)).take (R0.length + k) := by rw [List.take_length_add_append, e]
    rw [e2]
    exact chain_take hch _
/-- The segments' bytes, by rising numbers. -/
def segsD (fs : List Fl) : List (Nat × List UInt8) := fs.filterMap fun f => if (numC f.name).2 then some ((numC f.name).1, f.data) else none
theorem segsD_sg (l : List (Nat × List UInt8)) (h : ∀ p ∈ l, p.1 < 18446744073709551616) : segsD (l.map sgF) = l := by
  induction l with
  | nil => rfl
  | cons p l ih =>
    have h1 := num_name p.1 (h p List.mem_cons_self)
    have h2 := ih fun q hq => h q (List.mem_cons_of_mem _ hq)
    unfold segsD at h2 ⊢
    rw [List.map_cons, List.filterMap_cons, h2]
    have e : (sgF p).name = nameL p.1 := rfl
    rw [e, h1]
    rfl
/-- All its segments. -/
def allJ (own : Nat) (pre : List (Nat × List UInt8)) (cur : List Rc) : List (Nat × List UInt8) := pre ++ (if cur = [] then [] else [(own, segB cur)])
theorem HeldJ.all (h : HeldJ fs own pre R0 cur) : fs = (allJ own pre cur).map sgF ∧ segsD fs = allJ own pre cur ∧ segsR [] ((segsD fs).map Prod.snd) = R0 ++ cur := by
  have e : fs = (allJ own pre cur).map sgF := by
    rw [h.files]
    unfold allJ
    rw [List.map_append]
    split <;> rfl
  have e2 : segsD fs = allJ own pre cur := by
    rw [e]
    refine segsD_sg _ fun p hp => ?_
    have hs := h.small
    unfold allJ at hp
    rcases List.mem_append.1 hp with hp | hp
    · have := h.less p hp; omega
    · split at hp
      · cases hp
      · rw [List.mem_singleton.1 hp]; show own < _; omega
  refine ⟨e, e2, ?_⟩
  rw [e2]
  unfold allJ
  rw [List.map_append, ]
  by_cases hc : cur = []
  · rw [if_pos hc, List.map_nil, List.append_nil, h.recs, hc, List.append_nil]
  · rw [if_neg hc, List.map_singleton, segsR_snoc, h.recs]
    have hok : ∀ r ∈ cur, okRc r := fun r hr => h.ok r (List.mem_append_right _ hr)
    obtain ⟨k, k1, k2, k3⟩ := torn_seg R0 cur (segB cur).length cur.length hok h.chain (Nat.le_refl _) (by rw [List.take_length]; exact Nat.le_refl _)
    rw [List.take_length] at k3
    rw [k3, List.take_of_length_le (by omega)]
end

end Go.Proofs.YthjikbhjciphiaaGreatDoor
