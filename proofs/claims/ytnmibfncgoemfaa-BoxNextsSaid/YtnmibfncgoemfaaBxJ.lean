/-
  Package box: Valid; the program's contracts together.
-/
import Derived.Test.YtnmibfncgoemfaaBxI
import Derived.RangeFuncBox
import Derived.Maps.AppendAt
namespace Go.Proofs.Ytnmibfncgoemfaa
open Go.RowKit Go.Shelf
set_option linter.unusedVariables false
set_option linter.unusedSimpArgs false

attribute [local go_sem] Oper.semAt_some

theorem KeepU.other {w w' : World} {row : Option Nat} (hg : w.grownBy w' row) (hr : ∀ r, row = some r → ∃ o : Obj, w.heap[r]? = some o ∧ o.isCells = false) : KeepU w w' :=
  KeepU.grown hg fun r e => by
    obtain ⟨o, ho, hc⟩ := hr r e
    exact ⟨o, ho, fun cs fr h => by subst h; cases hc⟩
theorem toldB_own (bs : List UInt8) (B : Nat) : OwnFrom B fun (s : List Bx × Bx) W => toldB bs s.1 s.2 W := fun s X Y row ⟨b, h1, h2⟩ hg hr =>
  ⟨b, h1, h2.keep (KeepU.other hg fun r e => (hr r e).2)⟩
theorem allB_own (bs : List UInt8) (B : Nat) : OwnFrom B fun (s : List Bx) W => allB bs s W := fun s X Y row h hg hr =>
  ⟨h.1.keep (KeepU.other hg fun r e => (hr r e).2), h.2⟩
theorem boxed_from {β : Type} (B k : Nat) (t : TypeId) (v : β → Value) : OwnFrom B fun (s : β) W => Boxed W k t (v s) := fun s X Y row h hg hr =>
  h.kept hg fun e => by
    obtain ⟨_, o, ho, hc⟩ := hr k e.symm
    rw [show X.heap[k]? = _ from h] at ho
    cases ho
    cases hc
theorem KeepB.put {n₀ Bs : Nat} {w : World} {l : Nat} {o : Obj} (o' : Obj) (hl : w.heap[l]? = some o) (ho : o.isCells = false) (hn : n₀ ≤ l) (hB : Bs < l) : KeepB n₀ Bs w (w.putObj l o') :=
  ⟨(Below.refl n₀ w).grown (grownBy_putObj' w l o') (by have := (Array.getElem?_eq_some_iff.1 hl).1; omega) (fun k e => by cases e; exact hn), World.putObj_heap_other (by omega), KeepU.put o' hl ho⟩

theorem own_block {w : World} {base size k r : Nat} {e : TypeId} {v : Value} {xs : List Value} (h : w.ownsRow base e size v k xs) (hr : v.ownBlock = some r) : base ≤ r ∧ ∃ cs fr, w.heap[r]? = some (.cells cs e fr) := by
  rcases h.2 with ⟨rfl, _⟩ | ⟨g, cap, cur, rfl, hb, hg, _⟩
  · simp [Value.ownBlock] at hr
  · obtain rfl : g = r := by simpa [Value.ownBlock] using hr
    exact ⟨hb, _, _, hg⟩

/-- What holds between two rounds of Valid. -/
def ValJ (W : World) (pre : List Bx) (X : World) : Prop :=
  (∃ v, Boxed X W.heap.size 32 v ∧ X.ownsRow (W.heap.size + 3) 22 1 v pre.length (pre.map Prod.fst) ∧ True) ∧ Boxed X (W.heap.size + 1) 3 (.int .i64 (endB pre : Nat)) ∧ Below W.heap.size W X ∧ W.heap.size + 3 ≤ X.heap.size
theorem valJ_own (W : World) {B : Nat} (hB : W.heap.size ≤ B) : OwnFrom B (ValJ W) :=
  OwnFrom.and (Own.from (holdsRow_own (W.heap.size + 3) W.heap.size 32 22 1 (fun pre : List Bx => pre.length) (fun pre => pre.map Prod.fst) (fun _ _ => True)) _)
    (OwnFrom.and (boxed_from B (W.heap.size + 1) 3 fun pre => .int .i64 (endB pre : Nat)) (OwnFrom.and (ownFrom_below (Nat.le_refl _) hB) fun _ _ _ _ h hg _ => Nat.le_trans h hg.size))

set_option maxRecDepth 100000 in
set_option maxHeartbeats 2000000 in
theorem valid_any (A : Option Addr) (n c : Nat) (l : List UInt8) (W : World) (hl : Byt W W.heap.size A n l) (hnil : A = none → c = 0) (hnc : n ≤ c) (hcm : c ≤ maxLen) (hn : n ≤ 1000000) :
    Calls Try.prog 14 #[.slice A n c] W (ValidQ W (validC l)) := by
  obtain ⟨i0, hi, hz0, hz1, hz2⟩ := info_parts Try.infoBs
  refine (callsIn_wide (n := 3)).1 ?_
  refine callsIn_of_wp_marks Try.func14 rfl trivial ?_ rfl
  simp only [Try.ntmps14, List.size_toArray, List.length_cons, List.length_nil, Nat.reduceAdd, Nat.reduceSub, Array.replicate_succ, Array.replicate_zero, List.push_toArray, List.append_toArray, List.nil_append, List.cons_append]
  refine wpIn_wide.2 ?_
  go_wp2_with (go_at_call 25; refine (boxes_any _ _ _ _).mono ?_; rintro e w' ⟨rfl, rfl⟩)
  have b1 := ((Boxed.new W 32 (.slice none 0 0)).alloc (.cells #[.int .i64 0] 3)).alloc (.cells #[.slice A n c] 22)
  have b2 := (Boxed.new (W.alloc (.cells #[.slice none 0 0] 32)) 3 (.int .i64 0)).alloc (.cells #[.slice A n c] 22)
  have b3 := Boxed.new ((W.alloc (.cells #[.slice none 0 0] 32)).alloc (.cells #[.int .i64 0] 3)) 22 (.slice A n c)
  have hB0 : Below W.heap.size W (((W.alloc (.cells #[.slice none 0 0] 32)).alloc (.cells #[.int .i64 0] 3)).alloc (.cells #[.slice A n c] 22)) :=
    (((Below.refl _ W).alloc (Nat.le_refl _) _).alloc (by simp) _).alloc (by simp; omega) _
  have hsz : (((W.alloc (.cells #[.slice none 0 0] 32)).alloc (.cells #[.int .i64 0] 3)).alloc (.cells #[.slice A n c] 22)).heap.size = W.heap.size + 3 := by simp
  rw [World.size_alloc] at b2
  rw [World.size_alloc, World.size_alloc] at b3
  generalize (((W.alloc (.cells #[.slice none 0 0] 32)).alloc (.cells #[.int .i64 0] 3)).alloc (.cells #[.slice A n c] 22)) = w0 at b1 b2 b3 hB0 hsz ⊢
  have hlen := (valid_end l).2
  have hl0 := hl.1
  refine (wpIn_wide (n := 3)).1 ?_
  refine range_told rfl (by omega) (gf := 35) (lb := #[.pointer (some ⟨W.heap.size + 1 + 1, 0, none⟩)]) rfl trivial (enters_of Try.func35 (by kernel_rfl) rfl)
    (boxes_stops (3 - 1) (by omega) (W.heap.size + 1 + 1) W.heap.size n c A l w0 (hl.below hB0) (by omega) (by omega) hnil hnc hcm hn b3.cell)
    (fun h k => h.trans k) (fun X q o o' hq ho hc _ => KeepB.put o' ho hc (by omega) (by omega))
    (toldB_own l _) (allB_own l _) (fun _ _ _ _ _ _ _ => trivial) (Below.refl _ _) (fun _ => rfl)
    (ValJ W) (fun _ _ _ => False) (valJ_own W (by omega)) (fun _ _ _ _ _ hs _ _ => hs)
    ⟨⟨_, b1, World.ownsRow_nil _ _ _ _, trivial⟩, b2, hB0, by omega⟩
    (fun x => { tmps := #[.slice A n c, undef, .slice none 0 0, .int .i64 0, .pointer (some ⟨W.heap.size, 0, none⟩), .pointer (some ⟨W.heap.size + 1, 0, none⟩), x.1, .int .i64 (x.2 : Nat), .slice A n c,
      .func (.func 35) #[] #[.pointer (some ⟨W.heap.size + 1 + 1, 0, none⟩)], x.1, .int .i64 (x.2 : Nat), undef, undef, undef, undef, undef, undef, undef], defers := [] }) ?assign ?body ?done ?stop
  case assign =>
    intro q x X K hK
    gi_wp2
    exact hK
  case body =>
    rintro lr pre ⟨x1, x2⟩ X ⟨⟨v, hv, hrow, _⟩, he, hB, hXs⟩ ⟨b, hb, hx⟩
    have hxx := hx
    obtain ⟨A1, m1, c1, rfl, _⟩ := hxx
    have hpl : pre.length < (validC l).1.length := (List.getElem?_eq_some_iff.1 hb).1
    have HW := Lib.hid (show n ≤ 1000000 from hn)
    have hc := hv.cell
    gi_wp2_with (gi_at_builtin; refine wpListIn_append_own _ rfl _ _ 32 rfl (W.heap.size + 3) 22 i0 _ 1 24 Try.underlying32 hi hz0 hz1 hz2 rfl (by decide) _ _ _ rfl (hrow.alloc _) ⟨X.heap.size, 0, none⟩ 1 1 [.slice A1 m1 c1] rfl rfl (cell_one_new _ _ _) (by simp [Value.oneCell']) (by unfold maxLen; omega) (by omega) (by simp; omega) ?_; intro v' w1 hown' hgrow _; obtain ⟨g', cap', rfl⟩ := ownsRow_succ hown'; obtain ⟨hv1, hv2, hr2, hk2, hb2⟩ := hv.appended (by decide) (own_mono hrow (by omega)) hB.size (Nat.le_refl _) (own_mono hown' (by omega)) hgrow; have he1 := (he.alloc (.cells #[.slice A1 m1 c1] 22)).kept hgrow (he.not_row (by decide) hrow); have he2 := he1.kept (grownBy_setCell' w1 W.heap.size (.slice (some ⟨g', 0, none⟩) (pre.length + 1) cap')) (by simp); have hc1 := hv1.cell; have hf1 := hv1.frozen; have hc2 := he2.cell; have hf2 := he2.frozen)
    have u1 : KeepU X (X.alloc (.cells #[.slice A1 m1 c1] 22)) := KeepU.grown (World.grownBy_alloc X _ none) (fun r e => by cases e)
    have hg2 : (X.alloc (.cells #[.slice A1 m1 c1] 22)).grownBy w1 v.ownBlock := hgrow
    have u2 : KeepU (X.alloc (.cells #[.slice A1 m1 c1] 22)) w1 := KeepU.grown hg2 fun r e => by
      obtain ⟨_, cs, fr, h⟩ := own_block (hrow.alloc (.cells #[.slice A1 m1 c1] 22)) e
      exact ⟨_, h, fun cs fr h => by cases h⟩
    have u3 : KeepU w1 (w1.setCell ⟨W.heap.size, 0, none⟩ (.slice (some ⟨g', 0, none⟩) (pre.length + 1) cap')) := KeepU.grown (grownBy_setCell' w1 _ _) fun r e => by cases e; exact ⟨_, hv1, fun cs fr h => by cases h⟩
    have u4 : KeepU (w1.setCell ⟨W.heap.size, 0, none⟩ (.slice (some ⟨g', 0, none⟩) (pre.length + 1) cap')) ((w1.setCell ⟨W.heap.size, 0, none⟩ (.slice (some ⟨g', 0, none⟩) (pre.length + 1) cap')).setCell ⟨W.heap.size + 1, 0, none⟩ (.int .i64 (x2 : Nat))) :=
      KeepU.grown (grownBy_setCell' _ _ _) fun r e => by cases e; exact ⟨_, he2, fun cs fr h => by cases h⟩
    have hBs : ((w1.setCell ⟨W.heap.size, 0, none⟩ (.slice (some ⟨g', 0, none⟩) (pre.length + 1) cap')).setCell ⟨W.heap.size + 1, 0, none⟩ (.int .i64 (x2 : Nat))).heap[W.heap.size + 1 + 1]? = X.heap[W.heap.size + 1 + 1]? := by
      rw [Below.heap_setCell _ _ _ _ (by simp), Below.heap_setCell _ _ _ _ (by simp; omega), hg2.block _ (by simp; omega) (fun e => by have := (own_block hrow e.symm).1; omega)]
      exact Below.heap_alloc _ _ _ (by omega)
    have hbl := hb2.setCell (p := ⟨W.heap.size + 1, 0, none⟩) (by simp) (.int .i64 (x2 : Nat))
    refine ⟨(hk2.trans (KeepsOthers.setCell _ _ _)).from _, ⟨hbl, hBs, ((u1.trans u2).trans u3).trans u4⟩, ⟨_, hv2.kept (grownBy_setCell' _ _ _) (by simp), ?_, trivial⟩, ?_, hB.trans hbl, Nat.le_trans hXs (((u1.trans u2).trans u3).trans u4).1⟩
    · have h5 := (hown'.kept (grownBy_setCell' w1 W.heap.size (.slice (some ⟨g', 0, none⟩) (pre.length + 1) cap')) (.inr (hv1.not_row (by decide) hown').symm)).kept (grownBy_setCell' _ (W.heap.size + 1) (.int .i64 (x2 : Nat))) (.inr (he1.not_row (by decide) hown').symm)
      simpa using h5
    · rw [endB_snoc]
      exact he2.set _
  case done =>
    rintro D xs X hD ⟨hT, hE⟩ ⟨⟨v, hv, hrow, _⟩, he, hB, hXs⟩ hK
    have hc := hv.cell
    have hc2 := he.cell
    rw [hE] at hc2
    go_wp2_with fail
    go_region
    go_wp2_with fail
    refine ⟨by simp, .inl ⟨_, _, rfl, run_takeDeferred (w := X.drew) hK, ?_⟩⟩
    refine ⟨_, results_tmp2 rfl _ _ _, ?_⟩
    have hKD : X.drew.heap[D]? = some (.deferred (some [])) := hK
    have hrd : X.drew.ownsRow (W.heap.size + 3) 22 1 v xs.length (xs.map Prod.fst) := hrow
    have hr2 := ownsRow_putObj hrd (.deferred none) hKD rfl
    have hTd : Tybs X.drew (xs.map Prod.fst) (validC l).1 := Tybs.keep (w' := X.drew) (show KeepU X X.drew from ⟨Nat.le_refl _, fun _ _ _ h => h⟩) hT
    have hT2 := hTd.keep (KeepU.put (.deferred none) hKD rfl)
    have hBf : Below W.heap.size W (X.drew.putObj D (.deferred none)) := (below_drew hB).trans (belowK_b (w := W) (Nat.le_refl _) X.drew D _ _ (by omega) hKD rfl rfl)
    have hlx : (bts (validC l).1).length = xs.length := by
      have := hT.len
      rw [List.length_map] at this
      rw [bts_len]
      exact this.symm
    rcases hr2.2 with ⟨rfl, h0⟩ | ⟨g, cap, cur, rfl, _⟩
    · refine ⟨none, 0, 0, rfl, ?_, hBf⟩
      rw [h0, bts_len] at hlx
      rw [List.eq_nil_of_length_eq_zero hlx]
      exact Sls.nil
    · exact ⟨_, xs.length, cap, rfl, Sls.of_own hr2 hT2.prts (bts_one _) hlx (fun k h => h.elim), hBf⟩
  case stop =>
    rintro D c pre X _ _ h _
    exact h.elim

theorem boxC_all : BoxC where
  put := put12_any
  size := size_any
  next := fun A n c l a W hl hnil hnc hcm hn => (next_any A n c l a W hl hnil hnc hcm hn).mono fun _ _ h => h.q
  valid := valid_any

end Go.Proofs.Ytnmibfncgoemfaa
