/-
  Package box: Valid; the program's contracts together.
-/
import Derived.Test.YtgococpbhbcpmaaGreatDoorZz9
import Derived.RangeFuncBox
import Derived.Maps.AppendAt
import Derived.Test.YtgococpbhbcpmaaGreatDoorZz1
import Derived.Lib.OthersKept
import Derived.Laws.RangeString
import Derived.Laws.RangeAny
import Derived.BigCall
import Derived.Shelf.Abstract
import Derived.BigGuard
namespace Go.Proofs.YtgococpbhbcpmaaGreatDoor
open Go.RowKit Go.Shelf
set_option linter.unusedVariables false
set_option linter.unusedSimpArgs false

attribute [local go_sem] Oper.semAt_some

theorem KeepU.other {w w' : World} {row : Option Nat} (hg : w.grownBy w' row) (hr : ∀ r, row = some r → ∃ o : Obj, w.heap[r]? = some o ∧ o.isCells = false) : KeepU w w' :=
  KeepU.grown hg fun r e => by
    obtain ⟨o, ho, hc⟩ := hr r e
    exact ⟨o, ho, fun cs fr h => by subst h; cases hc⟩
theorem toldB_own (bs : List UInt8) (B : Nat) : OwnFrom B fun (s : List Bx × Bx) W => toldB bs s.1 s.2 W := fun s X Y row ⟨b, h1, h2⟩ hg hr =>
  ⟨b, h1, h2.keep (KeepU.other hg fun r e => (hr r e).2)⟩
theorem allB_own (bs : List UInt8) (B : Nat) : OwnFrom B fun (s : List Bx) W => allB bs s W := fun s X Y row h hg hr =>
  ⟨h.1.keep (KeepU.other hg fun r e => (hr r e).2), h.2⟩
theorem boxed_from {β : Type} (B k : Nat) (t : TypeId) (v : β → Value) : OwnFrom B fun (s : β) W => Boxed W k t (v s) := fun s X Y row h hg hr =>
  h.kept hg fun e => by
    obtain ⟨_, o, ho, hc⟩ := hr k e.symm
    rw [show X.heap[k]? = _ from h] at ho
    cases ho
    cases hc
theorem KeepB.put {n₀ Bs : Nat} {w : World} {l : Nat} {o : Obj} (o' : Obj) (hl : w.heap[l]? = some o) (ho : o.isCells = false) (hn : n₀ ≤ l) (hB : Bs < l) : KeepB n₀ Bs w (w.putObj l o') :=
  ⟨(Below.refl n₀ w).grown (grownBy_putObj' w l o') (by have := (Array.getElem?_eq_some_iff.1 hl).1; omega) (fun k e => by cases e; exact hn), World.putObj_heap_other (by omega), KeepU.put o' hl ho⟩

theorem own_block {w : World} {base size k r : Nat} {e : TypeId} {v : Value} {xs : List Value} (h : w.ownsRow base e size v k xs) (hr : v.ownBlock = some r) : base ≤ r ∧ ∃ cs fr, w.heap[r]? = some (.cells cs e fr) := by
  rcases h.2 with ⟨rfl, _⟩ | ⟨g, cap, cur, rfl, hb, hg, _⟩
  · simp [Value.ownBlock] at hr
  · obtain rfl : g = r := by simpa [Value.ownBlock] using hr
    exact ⟨hb, _, _, hg⟩

/-- What holds between two rounds of Valid. -/
def ValJ (W : World) (pre : List Bx) (X : World) : Prop :=
  (∃ v, Boxed X W.heap.size 22 v ∧ X.ownsRow (W.heap.size + 3) 26 1 v pre.length (pre.map Prod.fst) ∧ True) ∧ Boxed X (W.heap.size + 1) 3 (.int .i64 (endB pre : Nat)) ∧ Below W.heap.size W X ∧ W.heap.size + 3 ≤ X.heap.size
theorem valJ_own (W : World) {B : Nat} (hB : W.heap.size ≤ B) : OwnFrom B (ValJ W) :=
  OwnFrom.and (Own.from (holdsRow_own (W.heap.size + 3) W.heap.size 22 26 1 (fun pre : List Bx => pre.length) (fun pre => pre.map Prod.fst) (fun _ _ => True)) _)
    (OwnFrom.and (boxed_from B (W.heap.size + 1) 3 fun pre => .int .i64 (endB pre : Nat)) (OwnFrom.and (ownFrom_below (Nat.le_refl _) hB) fun _ _ _ _ h hg _ => Nat.le_trans h hg.size))

set_option maxRecDepth 100000 in
set_option maxHeartbeats 2000000 in
theorem valid_own (A : Option Addr) (n c : Nat) (l : List UInt8) (W : World) (hl : Byt W W.heap.size A n l) (hnil : A = none → c = 0) (hnc : n ≤ c) (hcm : c ≤ maxLen) (hn : n ≤ 1000000) :
    Calls Tryz.prog 24 #[.slice A n c] W fun e W' => ∃ v vs, e = .returned (.tuple #[v, .int .i64 ((validC l).2 : Nat)]) ∧ W'.ownsRow W.heap.size 26 1 v vs.length vs ∧ Tybs W' vs (validC l).1 ∧ Below W.heap.size W W' := by
  obtain ⟨i0, hi, hz0, hz1, hz2⟩ := info_parts Tryz.infoBs
  refine (callsIn_wide (n := 3)).1 ?_
  refine callsIn_of_wp_marks Tryz.func24 rfl trivial ?_ rfl
  simp only [Tryz.ntmps24, List.size_toArray, List.length_cons, List.length_nil, Nat.reduceAdd, Nat.reduceSub, Array.replicate_succ, Array.replicate_zero, List.push_toArray, List.append_toArray, List.nil_append, List.cons_append]
  refine wpIn_wide.2 ?_
  go_wp2_with (go_at_call 46; refine (boxes_any _ _ _ _).mono ?_; rintro e w' ⟨rfl, rfl⟩)
  have b1 := ((Boxed.new W 22 (.slice none 0 0)).alloc (.cells #[.int .i64 0] 3)).alloc (.cells #[.slice A n c] 26)
  have b2 := (Boxed.new (W.alloc (.cells #[.slice none 0 0] 22)) 3 (.int .i64 0)).alloc (.cells #[.slice A n c] 26)
  have b3 := Boxed.new ((W.alloc (.cells #[.slice none 0 0] 22)).alloc (.cells #[.int .i64 0] 3)) 26 (.slice A n c)
  have hB0 : Below W.heap.size W (((W.alloc (.cells #[.slice none 0 0] 22)).alloc (.cells #[.int .i64 0] 3)).alloc (.cells #[.slice A n c] 26)) :=
    (((Below.refl _ W).alloc (Nat.le_refl _) _).alloc (by simp) _).alloc (by simp; omega) _
  have hsz : (((W.alloc (.cells #[.slice none 0 0] 22)).alloc (.cells #[.int .i64 0] 3)).alloc (.cells #[.slice A n c] 26)).heap.size = W.heap.size + 3 := by simp
  rw [World.size_alloc] at b2
  rw [World.size_alloc, World.size_alloc] at b3
  generalize (((W.alloc (.cells #[.slice none 0 0] 22)).alloc (.cells #[.int .i64 0] 3)).alloc (.cells #[.slice A n c] 26)) = w0 at b1 b2 b3 hB0 hsz ⊢
  have hlen := (valid_end l).2
  have hl0 := hl.1
  refine (wpIn_wide (n := 3)).1 ?_
  refine range_told rfl (by omega) (gf := 77) (lb := #[.pointer (some ⟨W.heap.size + 1 + 1, 0, none⟩)]) rfl trivial (enters_of Tryz.func77 (by kernel_rfl) rfl)
    (boxes_stops (3 - 1) (by omega) (W.heap.size + 1 + 1) W.heap.size n c A l w0 (hl.below hB0) (by omega) (by omega) hnil hnc hcm hn b3.cell)
    (fun h k => h.trans k) (fun X q o o' hq ho hc _ => KeepB.put o' ho hc (by omega) (by omega))
    (toldB_own l _) (allB_own l _) (fun _ _ _ _ _ _ _ => trivial) (Below.refl _ _) (fun _ => rfl)
    (ValJ W) (fun _ _ _ => False) (valJ_own W (by omega)) (fun _ _ _ _ _ hs _ _ => hs)
    ⟨⟨_, b1, World.ownsRow_nil _ _ _ _, trivial⟩, b2, hB0, by omega⟩
    (fun x => { tmps := #[.slice A n c, undef, .slice none 0 0, .int .i64 0, .pointer (some ⟨W.heap.size, 0, none⟩), .pointer (some ⟨W.heap.size + 1, 0, none⟩), x.1, .int .i64 (x.2 : Nat), .slice A n c,
      .func (.func 77) #[] #[.pointer (some ⟨W.heap.size + 1 + 1, 0, none⟩)], x.1, .int .i64 (x.2 : Nat), undef, undef, undef, undef, undef, undef, undef], defers := [] }) ?assign ?body ?done ?stop
  case assign =>
    intro q x X K hK
    gi_wp2
    exact hK
  case body =>
    rintro lr pre ⟨x1, x2⟩ X ⟨⟨v, hv, hrow, _⟩, he, hB, hXs⟩ ⟨b, hb, hx⟩
    have hxx := hx
    obtain ⟨A1, m1, c1, rfl, _⟩ := hxx
    have hpl : pre.length < (validC l).1.length := (List.getElem?_eq_some_iff.1 hb).1
    have HW := Lib.hid (show n ≤ 1000000 from hn)
    have hc := hv.cell
    gi_wp2_with (gi_at_builtin; refine wpListIn_append_own _ rfl _ _ 22 rfl (W.heap.size + 3) 26 i0 _ 1 24 Tryz.underlying22 hi hz0 hz1 hz2 rfl (by decide) _ _ _ rfl (hrow.alloc _) ⟨X.heap.size, 0, none⟩ 1 1 [.slice A1 m1 c1] rfl rfl (cell_one_new _ _ _) (by simp [Value.oneCell']) (by unfold maxLen; omega) (by omega) (by simp; omega) ?_; intro v' w1 hown' hgrow _; obtain ⟨g', cap', rfl⟩ := ownsRow_succ hown'; obtain ⟨hv1, hv2, hr2, hk2, hb2⟩ := hv.appended (by decide) (own_mono hrow (by omega)) hB.size (Nat.le_refl _) (own_mono hown' (by omega)) hgrow; have he1 := (he.alloc (.cells #[.slice A1 m1 c1] 26)).kept hgrow (he.not_row (by decide) hrow); have he2 := he1.kept (grownBy_setCell' w1 W.heap.size (.slice (some ⟨g', 0, none⟩) (pre.length + 1) cap')) (by simp); have hc1 := hv1.cell; have hf1 := hv1.frozen; have hc2 := he2.cell; have hf2 := he2.frozen)
    have u1 : KeepU X (X.alloc (.cells #[.slice A1 m1 c1] 26)) := KeepU.grown (World.grownBy_alloc X _ none) (fun r e => by cases e)
    have hg2 : (X.alloc (.cells #[.slice A1 m1 c1] 26)).grownBy w1 v.ownBlock := hgrow
    have u2 : KeepU (X.alloc (.cells #[.slice A1 m1 c1] 26)) w1 := KeepU.grown hg2 fun r e => by
      obtain ⟨_, cs, fr, h⟩ := own_block (hrow.alloc (.cells #[.slice A1 m1 c1] 26)) e
      exact ⟨_, h, fun cs fr h => by cases h⟩
    have u3 : KeepU w1 (w1.setCell ⟨W.heap.size, 0, none⟩ (.slice (some ⟨g', 0, none⟩) (pre.length + 1) cap')) := KeepU.grown (grownBy_setCell' w1 _ _) fun r e => by cases e; exact ⟨_, hv1, fun cs fr h => by cases h⟩
    have u4 : KeepU (w1.setCell ⟨W.heap.size, 0, none⟩ (.slice (some ⟨g', 0, none⟩) (pre.length + 1) cap')) ((w1.setCell ⟨W.heap.size, 0, none⟩ (.slice (some ⟨g', 0, none⟩) (pre.length + 1) cap')).setCell ⟨W.heap.size + 1, 0, none⟩ (.int .i64 (x2 : Nat))) :=
      KeepU.grown (grownBy_setCell' _ _ _) fun r e => by cases e; exact ⟨_, he2, fun cs fr h => by cases h⟩
    have hBs : ((w1.setCell ⟨W.heap.size, 0, none⟩ (.slice (some ⟨g', 0, none⟩) (pre.length + 1) cap')).setCell ⟨W.heap.size + 1, 0, none⟩ (.int .i64 (x2 : Nat))).heap[W.heap.size + 1 + 1]? = X.heap[W.heap.size + 1 + 1]? := by
      rw [Below.heap_setCell _ _ _ _ (by simp), Below.heap_setCell _ _ _ _ (by simp; omega), hg2.block _ (by simp; omega) (fun e => by have := (own_block hrow e.symm).1; omega)]
      exact Below.heap_alloc _ _ _ (by omega)
    have hbl := hb2.setCell (p := ⟨W.heap.size + 1, 0, none⟩) (by simp) (.int .i64 (x2 : Nat))
    refine ⟨(hk2.trans (KeepsOthers.setCell _ _ _)).from _, ⟨hbl, hBs, ((u1.trans u2).trans u3).trans u4⟩, ⟨_, hv2.kept (grownBy_setCell' _ _ _) (by simp), ?_, trivial⟩, ?_, hB.trans hbl, Nat.le_trans hXs (((u1.trans u2).trans u3).trans u4).1⟩
    · have h5 := (hown'.kept (grownBy_setCell' w1 W.heap.size (.slice (some ⟨g', 0, none⟩) (pre.length + 1) cap')) (.inr (hv1.not_row (by decide) hown').symm)).kept (grownBy_setCell' _ (W.heap.size + 1) (.int .i64 (x2 : Nat))) (.inr (he1.not_row (by decide) hown').symm)
      simpa using h5
    · rw [endB_snoc]
      exact he2.set _
  case done =>
    rintro D xs X hD ⟨hT, hE⟩ ⟨⟨v, hv, hrow, _⟩, he, hB, hXs⟩ hK
    have hc := hv.cell
    have hc2 := he.cell
    rw [hE] at hc2
    go_wp2_with fail
    go_region
    go_wp2_with fail
    refine ⟨by simp, .inl ⟨_, _, rfl, run_takeDeferred (w := X.drew) hK, ?_⟩⟩
    refine ⟨_, results_tmp2 rfl _ _ _, ?_⟩
    have hKD : X.drew.heap[D]? = some (.deferred (some [])) := hK
    have hrd : X.drew.ownsRow (W.heap.size + 3) 26 1 v xs.length (xs.map Prod.fst) := hrow
    have hr2 := ownsRow_putObj hrd (.deferred none) hKD rfl
    have hTd : Tybs X.drew (xs.map Prod.fst) (validC l).1 := Tybs.keep (w' := X.drew) (show KeepU X X.drew from ⟨Nat.le_refl _, fun _ _ _ h => h⟩) hT
    have hT2 := hTd.keep (KeepU.put (.deferred none) hKD rfl)
    have hBf : Below W.heap.size W (X.drew.putObj D (.deferred none)) := (below_drew hB).trans (belowK_b (w := W) (Nat.le_refl _) X.drew D _ _ (by omega) hKD rfl rfl)
    refine ⟨_, xs.map Prod.fst, rfl, ?_, hT2, hBf⟩
    rw [List.length_map]
    exact own_mono hr2 (by omega)
  case stop =>
    rintro D c pre X _ _ h _
    exact h.elim

theorem valid_any (A : Option Addr) (n c : Nat) (l : List UInt8) (W : World) (hl : Byt W W.heap.size A n l) (hnil : A = none → c = 0) (hnc : n ≤ c) (hcm : c ≤ maxLen) (hn : n ≤ 1000000) :
    Calls Tryz.prog 24 #[.slice A n c] W (ValidQ W (validC l)) := by
  refine (valid_own A n c l W hl hnil hnc hcm hn).mono ?_
  rintro e W' ⟨v, vs, rfl, hr, hT, hB⟩
  have hlx : (bts (validC l).1).length = vs.length := by rw [bts_len]; exact hT.len.symm
  rcases hr.2 with ⟨rfl, h0⟩ | ⟨g, cap, cur, rfl, _⟩
  · refine ⟨none, 0, 0, rfl, ?_, hB⟩
    rw [h0, bts_len] at hlx
    rw [List.eq_nil_of_length_eq_zero hlx]
    exact Sls.nil
  · exact ⟨_, vs.length, cap, rfl, Sls.of_own hr hT.prts (bts_one _) hlx (fun k h => h.elim), hB⟩

theorem boxC_all : BoxC where
  put := put12_any
  size := size_any
  next := fun A n c l a W hl hnil hnc hcm hn => (next_any A n c l a W hl hnil hnc hcm hn).mono fun _ _ h => h.q
  valid := valid_any

end Go.Proofs.YtgococpbhbcpmaaGreatDoor

/-
  Arithmetic of names: which runes a name, digits and a line have; a rune that is read of bytes. No program stands here.
-/
namespace Go.Proofs.YtgococpbhbcpmaaGreatDoor
open Go.RowKit
set_option linter.unusedVariables false
set_option linter.unusedSimpArgs false

def letR (r : Int) : Bool := decide (97 ≤ r) && decide (r ≤ 122)
def digR (r : Int) : Bool := decide (48 ≤ r) && decide (r ≤ 57)
def tenR (r : Int) : Bool := letR r || digR r || decide (r = 45)
def tarR (r : Int) : Bool := tenR r || decide (r = 46) || decide (r = 58)
def hexR (r : Int) : Bool := digR r || (decide (97 ≤ r) && decide (r ≤ 102))
/-- Whether each byte, taken as a rune, is one of p's. -/
def allR (p : Int → Bool) (l : List UInt8) : Bool := l.all fun b => p ((b.toNat : Nat) : Int)
theorem letR_high (r : Int) (h : 128 ≤ r) : letR r = false := by simp [letR]; omega
theorem digR_high (r : Int) (h : 128 ≤ r) : digR r = false := by simp [digR]; omega
theorem tenR_high (r : Int) (h : 128 ≤ r) : tenR r = false := by simp [tenR, letR, digR]; omega
theorem tarR_high (r : Int) (h : 128 ≤ r) : tarR r = false := by simp [tarR, tenR, letR, digR]; omega
theorem hexR_high (r : Int) (h : 128 ≤ r) : hexR r = false := by simp [hexR, digR]; omega

theorem allR_take (p : Int → Bool) (l : List UInt8) (k : Nat) (b : UInt8) (h : l[k]? = some b) : allR p (l.take (k + 1)) = (allR p (l.take k) && p ((b.toNat : Nat) : Int)) := by
  unfold allR
  rw [List.take_add_one, h]
  simp [List.all_append]

theorem allR_out (p : Int → Bool) (l : List UInt8) (k : Nat) (b : UInt8) (h : l[k]? = some b) (hp : p ((b.toNat : Nat) : Int) = false) : allR p l = false := by
  unfold allR
  rw [List.all_eq_false]
  exact ⟨b, List.mem_of_getElem? h, by simp [hp]⟩

theorem byte_at (s : ByteArray) (k : Nat) (h : k < s.size) : s.data.toList[k]? = some (s[k]'h) := by
  have : k < s.data.toList.length := by simpa using h
  rw [List.getElem?_eq_getElem this]
  rfl

/-- A rune that is read is no greater than the greatest one. -/
theorem decode_max (s : ByteArray) (pos : Nat) : (Utf8.decode s pos).1 ≤ 1114111 := by
  have hb : ∀ k, (s.get! (pos + k)).toNat < 256 := fun k => (s.get! (pos + k)).toNat_lt
  have h0 := hb 0; have h1 := hb 1; have h2 := hb 2; have h3 := hb 3
  simp only [Utf8.decode]
  repeat' split
  all_goals simp_all [Utf8.runeError, Utf8.valid]
  all_goals omega

end Go.Proofs.YtgococpbhbcpmaaGreatDoor

/-
  Package name: signs of names and digits, asked one by one; its reference's.
-/
namespace Go.Proofs.YtgococpbhbcpmaaGreatDoor
open Go.RowKit
set_option linter.unusedVariables false
set_option linter.unusedSimpArgs false

set_option maxRecDepth 100000 in
theorem within_any (s : ByteArray) (n : Nat) (hs : s.size ≤ maxLen) (W : World) :
    Calls Tryz.prog 94 #[.string s, .int .i64 n] W fun e W' => e = .returned (.bool (decide (1 ≤ s.size) && decide (s.size ≤ n))) ∧ W' = W := by
  unfold maxLen at hs
  go_enter Tryz.func94, Tryz.ntmps94
  by_cases h1 : 0 < s.size
  · have h2 : decide ((0 : Int) < (s.size : Int)) = true := decide_eq_true (by omega)
    go_wp2
    go_ret
    refine ⟨?_, rfl⟩
    congr 2
    simp
    omega
  · have h2 : decide ((0 : Int) < (s.size : Int)) = false := decide_eq_false (by omega)
    go_wp2
    go_ret
    refine ⟨?_, rfl⟩
    congr 2
    simp
    omega

set_option maxRecDepth 100000 in
theorem isLetter_any (r : Int) (W : World) :
    Calls Tryz.prog 96 #[.int .i32 r] W fun e W' => e = .returned (.bool (letR r)) ∧ W' = W := by
  go_enter Tryz.func96, Tryz.ntmps96
  by_cases h1 : (97 : Int) ≤ r
  · have h2 : decide ((97 : Int) ≤ r) = true := by simpa using h1
    go_wp2
    go_ret
    exact ⟨by simp [letR] <;> omega, rfl⟩
  · have h2 : decide ((97 : Int) ≤ r) = false := by simpa using h1
    go_wp2
    go_ret
    exact ⟨by simp [letR] <;> omega, rfl⟩

set_option maxRecDepth 100000 in
theorem isDigit_any (r : Int) (W : World) :
    Calls Tryz.prog 117 #[.int .i32 r] W fun e W' => e = .returned (.bool (digR r)) ∧ W' = W := by
  go_enter Tryz.func117, Tryz.ntmps117
  by_cases h1 : (48 : Int) ≤ r
  · have h2 : decide ((48 : Int) ≤ r) = true := by simpa using h1
    go_wp2
    go_ret
    exact ⟨by simp [digR] <;> omega, rfl⟩
  · have h2 : decide ((48 : Int) ≤ r) = false := by simpa using h1
    go_wp2
    go_ret
    exact ⟨by simp [digR] <;> omega, rfl⟩

set_option maxRecDepth 100000 in
theorem isOfTenant_any (r : Int) (W : World) :
    Calls Tryz.prog 97 #[.int .i32 r] W fun e W' => e = .returned (.bool (tenR r)) ∧ W' = W := by
  go_enter Tryz.func97, Tryz.ntmps97
  go_wp2_with fail
  refine (isLetter_any r W).mono ?_
  rintro e W1 ⟨rfl, rfl⟩
  cases h1 : letR r
  · go_wp2_with fail
    refine (isDigit_any r _).mono ?_
    rintro e W2 ⟨rfl, rfl⟩
    cases h2 : digR r
    · go_wp2
      go_ret
      refine ⟨?_, rfl⟩
      simp [tenR, h1, h2]
      rfl
    · go_wp2
      go_ret
      exact ⟨by simp [tenR, h1, h2], rfl⟩
  · go_wp2
    go_ret
    exact ⟨by simp [tenR, h1], rfl⟩

set_option maxRecDepth 100000 in
set_option maxHeartbeats 2000000 in
/-- Each rune of a text is asked, up to the first one that is none of p's: of p only what is below 128 may be. -/
theorem only_any (f : FuncId) (p : Int → Bool) (hh : ∀ r : Int, 128 ≤ r → p r = false)
    (he : ∀ args w, (callFunc f args).run Tryz.prog w = .ok (.enter f args) w)
    (hp : ∀ (r : Nat) (w : World), r ≤ 1114111 → Calls Tryz.prog f #[.int .i32 ((r : Nat) : Int)] w fun e w' => e = .returned (.bool (p ((r : Nat) : Int))) ∧ Below w.heap.size w w')
    (s : ByteArray) (W : World) :
    Calls Tryz.prog 95 #[.string s, .func (.func f) #[] #[]] W fun e W' => e = .returned (.bool (allR p s.data.toList)) ∧ Below W.heap.size W W' := by
  go_enter Tryz.func95, Tryz.ntmps95
  go_wp2
  go_loopw [] (fun wr => ∃ pos : Nat, wr.heap[W.heap.size]? = some (.stringIter s pos) ∧ Below W.heap.size W wr ∧ allR p (s.data.toList.take pos) = true) (fun wr => s.size - wr.iterPos W.heap.size)
  case atStart =>
    refine ⟨0, ?_, (Below.refl _ W).alloc (Nat.le_refl _) _, by simp [allR]⟩
    have := World.iter_heap W s 0
    simpa using this
  case round =>
    obtain ⟨pos, hit, hbw, hall⟩ := hrel
    have hsz : W.heap.size < wr.heap.size := (Array.getElem?_eq_some_iff.1 hit).1
    by_cases hp' : pos < s.size
    · have hnx : ∀ ty, (Instr.next (.pointer (some ⟨W.heap.size, 0, none⟩)) true ty).run Tryz.prog wr = _ := fun ty => Lib.run_next_any_at wr W.heap.size s pos ty hit hp'
      have hmx := decode_max s pos
      have hit2 := Lib.iterAt_heap wr W.heap.size s pos (pos + (Utf8.decode s pos).2) hit
      have hbw2 := Lib.below_iterAt hbw (k := W.heap.size) (Nat.le_refl _) s (pos + (Utf8.decode s pos).2)
      have hsz2 : W.heap.size < (wr.iterAt W.heap.size s (pos + (Utf8.decode s pos).2)).heap.size := by rw [Lib.iterAt_size]; exact hsz
      have hby := byte_at s pos hp'
      by_cases ha : (s[pos]'hp').toNat < 128
      · have hd := decode_ascii s pos hp' ha
        rw [hd] at hnx hmx hit2 hbw2 hsz2
        dsimp only at hnx hmx hit2 hbw2 hsz2
        obtain ⟨x, hx⟩ : ∃ x, s[pos]'hp' = x := ⟨_, rfl⟩
        rw [hx] at hnx hmx hby ha
        clear hd hx
        have HA := allR_take p _ _ _ hby
        rw [hall] at HA
        have hfin : ∀ W1 : World, Below (wr.iterAt W.heap.size s (pos + 1)).heap.size (wr.iterAt W.heap.size s (pos + 1)) W1 → W1.heap[W.heap.size]? = some (.stringIter s (pos + 1)) ∧ Below W.heap.size W W1 := fun W1 hb1 =>
          ⟨by rw [hb1.block _ hsz2]; exact hit2, hbw2.trans (hb1.mono (Nat.le_of_lt hsz2))⟩
        cases hpx : p ((x.toNat : Nat) : Int)
        · have HF := Lib.hid (allR_out p _ _ _ hby hpx)
          clear HA hall
          go_wp2_with (go_at_fn f; refine (hp x.toNat _ hmx).mono ?_; rintro e W1 ⟨rfl, hb1⟩)
          go_ret
          exact ⟨by rw [HF.out]; rfl, (hfin _ hb1).2⟩
        · rw [hpx] at HA
          have HT := Lib.hid HA
          clear HA hall
          go_wp2_with (go_at_fn f; refine (hp x.toNat _ hmx).mono ?_; rintro e W1 ⟨rfl, hb1⟩)
          go_roundw
          case rel => exact ⟨pos + 1, (hfin _ hb1).1, (hfin _ hb1).2, by rw [HT.out]; rfl⟩
          case measure =>
            rw [iterPos_of (hfin _ hb1).1, iterPos_of hit]
            omega
      · have hd := decode_high s pos hp' (by omega)
        obtain ⟨r, hr⟩ : ∃ r, (Utf8.decode s pos).1 = r := ⟨_, rfl⟩
        obtain ⟨k, hk⟩ : ∃ k, (Utf8.decode s pos).2 = k := ⟨_, rfl⟩
        rw [hr] at hnx hmx hd
        rw [hk] at hnx hit2 hbw2 hsz2 hd
        have HF := Lib.hid (allR_out p _ _ _ hby (hh _ (by omega)))
        have hpr : p ((r : Nat) : Int) = false := hh _ (by omega)
        clear hr hk hall
        go_wp2_with (go_at_fn f; refine (hp r _ hmx).mono ?_; rintro e W1 ⟨rfl, hb1⟩)
        have hb3 : Below W.heap.size W W1 := hbw2.trans (hb1.mono (Nat.le_of_lt hsz2))
        go_wp2
        go_ret
        exact ⟨by rw [HF.out]; rfl, hb3⟩
    · have hnx : ∀ ty, (Instr.next (.pointer (some ⟨W.heap.size, 0, none⟩)) true ty).run Tryz.prog wr = _ := fun ty => Lib.run_next_end_at wr W.heap.size s pos ty hit hp'
      have HT := Lib.hid hall
      clear hall
      go_wp2
      go_ret
      refine ⟨?_, hbw⟩
      have := HT.out
      rw [List.take_of_length_le (by simp; omega)] at this
      rw [this]
      rfl

end Go.Proofs.YtgococpbhbcpmaaGreatDoor
