/-
  An append onto a row of one's own, which tells where the new row lies. No program stands here.
-/
import Derived.Test.YtgococpbhbcpmaaGreatDoorZz1
import Derived.Maps.AppendAt
import Derived.Test.YtgococpbhbcpmaaGreatDoorZz24
import Derived.Test.YtgococpbhbcpmaaGreatDoorZz6
import Derived.BigQuiet
namespace Go.Proofs.YtgococpbhbcpmaaGreatDoor
open Go.RowKit
set_option linter.unusedVariables false

theorem wpList_append_own_at {P : Program} (w : World) {ops : Array Oper} {rest : List Oper} {o : Oper} {a : Act} {Q : Exit → Act → World → Prop} (hgd : Region.wanted o (yielded ops a.tmps) = true) (s x : Operand) (t : TypeId)
    (ho : o.op = .call { callee := .builtin .append, args := #[s, x], argTypes := #[t, t] })
    (base : Nat) (e : TypeId) (i : TypeInfo) (z : Value) (size bytes : Nat) (ht : P.underlying t = some (.slice e)) (hi : P.info? e = some i) (hz : i.zero = some z)
    (hsize : i.size = size) (hby : i.bytes = bytes) (hzs : z.cells.size = size) (hsz : 0 < size)
    (v : Value) (n : Nat) (xs : List Value) (hs : a.eval s = v) (hown : w.ownsRow base e size v n xs)
    (ad : Addr) (m c : Nat) (news : List Value) (hx : a.eval x = .slice (some ad) m c) (hl : news.length = m * size) (hnews : ∀ j u, news[j]? = some u → w.cell? (ad.add j) = some u) (h1 : ∀ u ∈ news, u.oneCell' = true)
    (h63 : n + m ≤ maxLen) (hbytes : (n + m) * bytes ≤ 140737488355328) (hbase : base ≤ w.heap.size)
    (h : ∀ v' w', w'.ownsRow base e size v' (n + m) (xs ++ news) → w.grownBy w' v.ownBlock → (v'.ownBlock = v.ownBlock ∨ v'.ownBlock = some w.heap.size) → wpList P ops Q rest (a.put o.dst v') w') : wpList P ops Q (o :: rest) a w := by
  refine BigFrame.wpList_want hgd fun K hK => ?_
  obtain ⟨v', w', hr, h2, h3, _, h4⟩ := run_append_own_at (P := P) w base t o.type e i z size bytes ht hi hz hsize hby hzs hsz v n xs hown ad m c news hl hnews h1 h63 hbytes hbase
  unfold Oper.wp execOp
  simp only [ho, resolve, invoke, builtin, Sem.run_bind, Sem.run_pure, Result.andThen_ok, List.map_toArray, List.map_cons, List.map_nil, hs, hx, hr]
  exact hK _ _ (h v' w' h2 h3 h4)

end Go.Proofs.YtgococpbhbcpmaaGreatDoor

/-
  Lists of records in memory; the reference's records of segments.
-/
namespace Go.Proofs.YtgococpbhbcpmaaGreatDoor
open Go.RowKit
set_option linter.unusedVariables false
set_option linter.unusedSimpArgs false

theorem Tryz.infoRc : (Tryz.prog.info? 25).map (fun i => (i.zero, i.size, i.bytes)) = some (some (.agg #[.int .u64 0, .int .i64 0, .string ⟨#[]⟩, .int .u64 0, .int .u64 0, .int .u64 0]), 6, 56) := by kernel_rfl

/-- A record's parts. -/
def rcP (r : Rc) : List Prt := [.num .u64 (r.seq : Nat), .num .i64 r.kind, .txt r.ten, .num .u64 (r.lease : Nat), .num .u64 (r.n : Nat), .num .u64 (r.bits : Nat)]
def rcPs (l : List Rc) : List (List Prt) := l.map rcP
def rcCells (l : List Rc) : List Value := (l.map Rc.cells).flatten
theorem rcPs_len (l : List Rc) : (rcPs l).length = l.length := List.length_map ..
theorem rcPs_six (l : List Rc) : ∀ f ∈ rcPs l, f.length = 6 := by
  intro f hf
  obtain ⟨r, _, rfl⟩ := List.mem_map.1 hf
  rfl
theorem rcP_cells (w : World) (S : Nat → Prop) (r : Rc) : PrtsV w S r.cells (rcP r) := ⟨_, _, rfl, rfl, _, _, rfl, rfl, _, _, rfl, rfl, _, _, rfl, rfl, _, _, rfl, rfl, _, _, rfl, rfl, rfl⟩
theorem rcPs_cells (w : World) (S : Nat → Prop) (l : List Rc) : PrtsV w S (rcCells l) (rcPs l).flatten := by
  induction l with
  | nil => exact rfl
  | cons r l ih =>
    show PrtsV w S (r.cells ++ rcCells l) (rcP r ++ (rcPs l).flatten)
    exact PrtsV.append _ _ _ _ (rcP_cells w S r) ih
theorem rcCells_snoc (l : List Rc) (r : Rc) : rcCells (l ++ [r]) = rcCells l ++ r.cells := by unfold rcCells; simp
/-- The slice value '.slice A n c' reads as these records. -/
def Rcs (w : World) (S : Nat → Prop) (A : Option Addr) (n : Nat) (l : List Rc) : Prop := Sls w S 6 A n (rcPs l)
theorem Rcs.len {w : World} {S : Nat → Prop} {A : Option Addr} {n : Nat} {l : List Rc} (h : Rcs w S A n l) : l.length = n := by have := h.1; rwa [rcPs_len] at this
theorem Rcs.below {w w' : World} {S : Nat → Prop} {A : Option Addr} {n : Nat} {l : List Rc} (h : Rcs w S A n l) (hb : Below w.heap.size w w') : Rcs w' S A n l :=
  Sls.turn h ⟨hb.os, hb.tape, hb.output, hb.size, fun k hk hn => hb.block k hk⟩
theorem Rcs.at_ {w : World} {S : Nat → Prop} {A : Option Addr} {n : Nat} {l : List Rc} (h : Rcs w S A n l) {j : Nat} {r : Rc} (hj : l[j]? = some r) :
    ∃ g o, A = some ⟨g, o, none⟩ ∧ ¬ S g ∧ g < w.heap.size ∧ w.cell? ⟨g, o + j * 6, none⟩ = some (.int .u64 (r.seq : Nat)) ∧ w.cell? ⟨g, o + j * 6 + 1, none⟩ = some (.int .i64 r.kind) ∧ w.cell? ⟨g, o + j * 6 + 2, none⟩ = some (.string ⟨r.ten.toArray⟩) ∧
      w.cell? ⟨g, o + j * 6 + 3, none⟩ = some (.int .u64 (r.lease : Nat)) ∧ w.cell? ⟨g, o + j * 6 + 4, none⟩ = some (.int .u64 (r.n : Nat)) ∧ w.cell? ⟨g, o + j * 6 + 5, none⟩ = some (.int .u64 (r.bits : Nat)) := by
  have hj' : (rcPs l)[j]? = some (rcP r) := by unfold rcPs; rw [List.getElem?_map, hj]; rfl
  obtain ⟨g, o, ys, e, hs, hl, hp, _, hc⟩ := Sls.at_ h hj'
  obtain ⟨v0, r0, rfl, rfl, v1, r1, rfl, rfl, v2, r2, rfl, rfl, v3, r3, rfl, rfl, v4, r4, rfl, rfl, v5, r5, rfl, rfl, hr⟩ := hp
  refine ⟨g, o, e, hs, hl, hc 0 _ rfl, hc 1 _ rfl, hc 2 _ rfl, hc 3 _ rfl, hc 4 _ rfl, hc 5 _ rfl⟩
theorem Rcs.of_own {w : World} {S : Nat → Prop} {base : Nat} {v : Value} {l : List Rc} (h : w.ownsRow base 25 6 v l.length (rcCells l)) (hS : ∀ k, S k → k < base ∨ w.heap.size ≤ k) : ∃ A c, v = .slice A l.length c ∧ Rcs w S A l.length l := by
  rcases h.2 with ⟨rfl, h0⟩ | ⟨g, cap, cur, rfl, _⟩
  · refine ⟨none, 0, by rw [h0], ?_⟩
    rw [List.eq_nil_of_length_eq_zero h0]
    exact Sls.nil
  · exact ⟨_, cap, rfl, Sls.of_own h (rcPs_cells w S l) (rcPs_six l) (rcPs_len l) hS⟩

theorem refRecord_any (B : Nat) (A : Option Addr) (n c : Nat) (l : List UInt8) (W : World) (hl : Byt W B A n l) (hB : B ≤ W.heap.size) (hnil : A = none → c = 0) (hnc : n ≤ c) (hcm : c ≤ maxLen) (hn : n ≤ 5000) :
    Calls Tryz.prog 26 #[.slice A n c] W (RecQ W (recR l)) := by
  by_cases h : n < 10
  · exact refRecord_short A n c l W hl.1 h
  · exact refRecord_long B A n c l W hl hB hnil hnc hcm hn (by omega)

/-- What is kept while records are taken. -/
def RcsI (W : World) (v : Value) (out : List Rc) (wr : World) : Prop := wr.ownsRow W.heap.size 25 6 v out.length (rcCells out) ∧ Below W.heap.size W wr
theorem takeR_len : ∀ (bs : List (List UInt8)) (out : List Rc), (takeR out bs).length ≤ out.length + bs.length := by
  intro bs
  induction bs with
  | nil => intro out; exact Nat.le_refl _
  | cons b bs ih =>
    intro out
    unfold takeR
    split
    · have := ih (out ++ [recP b])
      rw [List.length_append, List.length_singleton] at this
      rw [List.length_cons]
      omega
    · rw [List.length_cons]; omega
theorem take_snoc13 {α : Type} (L : List α) (k : Nat) (b : α) (h : L[k]? = some b) : L.take (k + 1) = L.take k ++ [b] := by rw [List.take_add_one, h]; rfl
theorem segsR_snoc (out : List Rc) (l : List (List UInt8)) (s : List UInt8) : segsR out (l ++ [s]) = takeR (segsR out l) (validC s).1 := by unfold segsR; rw [List.foldl_append]; rfl

end Go.Proofs.YtgococpbhbcpmaaGreatDoor
