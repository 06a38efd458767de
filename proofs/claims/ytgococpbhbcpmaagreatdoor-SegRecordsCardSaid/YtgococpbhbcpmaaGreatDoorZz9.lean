/-
  A range over a function whose iterator hands out what it has made: its contract tells the round, and the caller behind it, what stands in memory of the elements. No program stands here.
-/
import Derived.Test.YtgococpbhbcpmaaGreatDoorZz1
import Derived.RangeFuncNested
import Derived.RangeFuncBound
import Derived.RangeFuncCalls
import Derived.RangeFuncLeaves
import Derived.Test.YtgococpbhbcpmaaGreatDoorZz8
import Derived.Shelf.Abstract
import Derived.OwnWalkIn
import Derived.TacticsInMore
import Derived.LoopNIn
import Derived.LoopIn
namespace Go.Proofs.YtgococpbhbcpmaaGreatDoor
open Go.RowKit
set_option linter.unusedVariables false
set_option linter.unusedSimpArgs false

section
variable {F : Fence} {n : Nat} {P : Program} {α : Type}

/-- The iterator g: at each round T tells of the element, at the end S of all, Sp of those up to a round that has said 'no more'; Kp: what a round keeps. -/
def SeqT (F : Fence) (n : Nat) (P : Program) (g : Nat) (lb : Array Value) (encs : α → Array Value) (Kp : World → World → Prop) (T : List α → α → World → Prop) (S Sp : List α → World → Prop) (w : World) : Prop :=
  ∀ (l : Nat) (J Jx : List α → World → Prop) (W : World), Below w.heap.size w W → AbidesFrom W.heap.size J → AbidesFrom W.heap.size Jx →
    (∀ pre x W1, J pre W1 → T pre x W1 → YieldAt F (n - 1) P l (encs x) W1 fun e W' => Kp W1 W' ∧ ((e = .returned (.bool true) ∧ J (pre ++ [x]) W') ∨ (e = .returned (.bool false) ∧ Jx (pre ++ [x]) W'))) →
    J [] W →
    CallsIn F n P g (#[.func (.yield l) #[] #[]] ++ lb) W fun e W' => (∃ v, e = .returned v) ∧ ((∃ xs, S xs W' ∧ J xs W') ∨ (∃ pre, Sp pre W' ∧ Jx pre W'))

/-- The jump by which a round's body is left. -/
def jumpOf : Exit → Option (Option Code)
  | .normal => some none
  | .ret => some (some .ret)
  | .exit id => some (some (.exit id))
  | .goto t => some (some (.goto t))
  | .panic _ => none
  | .outgrown => none
/-- How a round may be left. -/
def toldPost (B : Nat) (Kp : World → World → Prop) (I : List α → World → Prop) (Ix : Code → List α → World → Prop) (xs : List α) (W : World) (e : Exit) (a : Act) (W' : World) : Prop :=
  match jumpOf e with
  | some none => KeepsFrom B W W' ∧ Kp W W' ∧ I xs W'
  | some (some c) => KeepsFrom B W W' ∧ Kp W W' ∧ Ix c xs W'
  | none => False
theorem round_of_jump {l : Nat} {R : Ending → World → Prop} {e : Exit} {a : Act} {w : World} {j : Option Code} (hj : jumpOf e = some j) (h : ∃ v w', (Instr.endRound l j).run P w = .ok v w' ∧ R (.returned v) w') : roundPost P l R e a w := by
  cases e <;> simp [jumpOf] at hj <;> subst hj <;> exact h

theorem range_told {g : Operand} {ps : Array Tmp} {assign body : Code} {Q : Exit → Act → World → Prop} {a : Act} {w : World}
    (hro : F.round = none) (h1 : 1 ≤ n) {gf : Nat} {lb : Array Value} (hg : a.eval g = .func (.func gf) #[] lb) (hFg : F.fn gf) (eg : ∀ args w, (callFunc gf args).run P w = .ok (.enter gf args) w)
    {encs : α → Array Value} {Kp : World → World → Prop} {T : List α → α → World → Prop} {S Sp : List α → World → Prop} {w0 : World} (hseq : SeqT F (n - 1) P gf lb encs Kp T S Sp w0)
    (hKt : ∀ {A B C : World}, Kp A B → Kp B C → Kp A C) (hKb : ∀ (W : World) (l : Nat) (o o' : Obj), w.heap.size ≤ l → W.heap[l]? = some o → o.isCells = false → o.isWalk = false → Kp W (W.putObj l o'))
    (hT : OwnFrom w.heap.size fun (s : List α × α) W => T s.1 s.2 W) (hS : OwnFrom w.heap.size S) (hSp : OwnFrom w.heap.size Sp)
    (hb0 : Below w0.heap.size w0 w) (hps : ∀ x, (encs x).size = ps.size)
    (I : List α → World → Prop) (Ix : Code → List α → World → Prop) (hI : OwnFrom w.heap.size I) (hIx : ∀ c, OwnFrom w.heap.size (Ix c)) (h0 : I [] w) (a₁ : α → Act)
    (hassign : ∀ (l : Nat) (x : α) (W : World) (K : Act → World → Prop), K (a₁ x) W →
      assign.wpIn (F.inRound l) (n - 1 - 1) P (Exit.then K (fun _ _ _ => False)) { tmps := (ps.zip (encs x)).foldl (fun t (p, v) => t.setIfInBounds p v) a.tmps, defers := [] } W)
    (hbody : ∀ (l : Nat) (pre : List α) (x : α) (W : World), I pre W → T pre x W → body.wpIn (F.inRound l) (n - 1 - 1) P (toldPost w.heap.size Kp I Ix (pre ++ [x]) W) (a₁ x) W)
    (hdone : ∀ (D : Nat) (xs : List α) (W : World), w.heap.size ≤ D → S xs W → I xs W → W.heap[D]? = some (.deferred (some [])) → Q .normal { a with defers := { target := .collected D, args := #[] } :: a.defers } W)
    (hstop : ∀ (D : Nat) (c : Code) (pre : List α) (W : World), w.heap.size ≤ D → Sp pre W → Ix c pre W → W.heap[D]? = some (.deferred (some [])) → c.wpIn F n P Q { a with defers := { target := .collected D, args := #[] } :: a.defers } W) :
    (Code.rangeFunc g ps assign body).wpIn F n P Q a w := by
  refine wpIn_rangeFunc fun fn hfn => ?_
  rw [hro]
  -- the loop's record in its states; the world in which the iterator is called
  let lp (s : LoopState) (j : Option Code) : Obj := .loop { state := s, pending := j, fn, tmps := a.tmps, params := ps, assign, body, defers := w.heap.size }
  let D := w.heap.size
  let L := w.heap.size + 1
  let Ready (W : World) : Prop := W.heap[L]? = some (lp .ready none) ∧ W.heap[D]? = some (.deferred (some []))
  let Over (c : Code) (W : World) : Prop := W.heap[L]? = some (lp .done (some c)) ∧ W.heap[D]? = some (.deferred (some []))
  have hw1 : Ready ((w.alloc (.deferred (some []))).alloc (lp .ready none)) := by
    refine ⟨?_, (Below.heap_alloc _ _ _ (by simp [D])).trans (World.alloc_heap_new w _)⟩
    have := World.alloc_heap_new (w.alloc (.deferred (some []))) (lp .ready none)
    rwa [World.size_alloc] at this
  have hbel : Below w0.heap.size w0 ((w.alloc (.deferred (some []))).alloc (lp .ready none)) :=
    hb0.trans ((((Below.refl _ w).alloc (Nat.le_refl _) _).alloc (by simp) _).mono hb0.size)
  have hI1 := hI.alloc (lp .ready none) (hI.alloc (.deferred (some [])) h0)
  have hsz1 : w.heap.size ≤ ((w.alloc (.deferred (some []))).alloc (lp .ready none)).heap.size := by simp; omega
  have hen : (Instr.enterLoop fn a.tmps ps assign body none).run P w = .ok (L, [{ target := .collected D, args := #[] }]) ((w.alloc (.deferred (some []))).alloc (lp .ready none)) :=
    run_enterLoop_outer fn a.tmps ps assign body
  generalize ((w.alloc (.deferred (some []))).alloc (lp .ready none)) = W1 at hw1 hbel hI1 hsz1 hen
  refine ⟨L, [{ target := .collected D, args := #[] }], W1, { target := .fn (.func gf) lb, args := #[.func (.yield L) #[] #[]] }, W1, gf, #[.func (.yield L) #[] #[]] ++ lb, W1, hen, ?_, ?_, ?_, fun _ => h1, ?_⟩
  · simp only [resolve, hg]
    simp [go_sem]
  · rintro f' h'
    simp [Target.leads] at h'
    exact h' ▸ hFg
  · simp [invoke, go_sem, eg]
  have other : ∀ {A B : World} {row : Option Nat} {k : Nat} {o : Obj}, A.grownBy B row → (∀ r, row = some r → W1.heap.size ≤ r ∧ ∃ o : Obj, A.heap[r]? = some o ∧ o.isWalk = true) → A.heap[k]? = some o → o.isWalk = false → B.heap[k]? = some o :=
    fun hgr hr hk ho => (grownBy_keeps hgr (fun r e => (hr r e).2) hk ho).trans hk
  have plain : ∀ {A : World} {row : Option Nat}, (∀ r, row = some r → W1.heap.size ≤ r ∧ ∃ o : Obj, A.heap[r]? = some o ∧ o.isWalk = true) → ∀ r, row = some r → w.heap.size ≤ r ∧ ∃ o : Obj, A.heap[r]? = some o ∧ o.isCells = false :=
    fun hr r e => let ⟨hB, o, ho, hwk⟩ := hr r e; ⟨Nat.le_trans hsz1 hB, o, ho, Obj.not_cells_of_walk hwk⟩
  have hDL : D ≠ L := by simp [D, L]
  have hBD : w.heap.size ≤ D := Nat.le_refl _
  have hBL : w.heap.size ≤ L := Nat.le_succ _
  refine (hseq L (fun pre W => I pre W ∧ Ready W) (fun pre W => ∃ c, Ix c pre W ∧ Over c W) W1 hbel
    (fun s A B row hs hgr hr => ⟨hI s A B row hs.1 hgr (plain hr), other hgr hr hs.2.1 rfl, other hgr hr hs.2.2 rfl⟩)
    (fun s A B row ⟨c, hc, hl, hk⟩ hgr hr => ⟨c, hIx c s A B row hc hgr (plain hr), other hgr hr hl rfl, other hgr hr hk rfl⟩) ?_ ⟨hI1, hw1⟩).mono ?_
  · -- a round
    rintro pre x W ⟨hi, hl, hk⟩ ht
    have hlt : L < W.heap.size := (Array.getElem?_eq_some_iff.1 hl).1
    refine ⟨fn, _, assign, body, run_yield hl (hps x), roundIn_of_wpIn hfn (hassign L x W _ ⟨_, run_beginRound hl rfl, ?_⟩)⟩
    change body.wpIn _ _ _ _ _ (W.putObj L (lp .busy none))
    have hl2 : (W.putObj L (lp .busy none)).heap[L]? = some (lp .busy none) := World.putObj_heap_same hlt
    have hk2 : (W.putObj L (lp .busy none)).heap[D]? = some (.deferred (some [])) := (World.putObj_heap_other hDL).trans hk
    have hkp := hKb W L _ (lp .busy none) hBL hl rfl rfl
    have hi2 := hI.putObj (lp .busy none) hi hBL hl rfl
    have ht2 := hT.putObj (s := (pre, x)) (lp .busy none) ht hBL hl rfl
    generalize W.putObj L (lp .busy none) = W2 at hl2 hk2 hkp hi2 ht2 ⊢
    refine wpIn_mono (hbody L pre x W2 hi2 ht2) fun e a3 W3 hp => ?_
    unfold toldPost at hp
    -- what a jump leaves
    have fin : ∀ j : Option Code, KeepsFrom w.heap.size W2 W3 → Kp W2 W3 → ∃ W4 : World, (Instr.endRound L j).run P W3 = .ok (.bool j.isNone) W4 ∧ W4 = W3.putObj L (lp (if j.isNone then .ready else .done) j) ∧
        W3.heap[L]? = some (lp .busy none) ∧ W4.heap[L]? = some (lp (if j.isNone then .ready else .done) j) ∧ W4.heap[D]? = some (.deferred (some [])) ∧ Kp W W4 := fun j hk3 hp3 => by
      have hl3 := hk3.same _ _ hBL hl2 rfl
      exact ⟨_, run_endRound j hl3, rfl, hl3, World.putObj_heap_same (Array.getElem?_eq_some_iff.1 hl3).1, (World.putObj_heap_other hDL).trans (hk3.same _ _ hBD hk2 rfl), hKt (hKt hkp hp3) (hKb _ _ _ _ hBL hl3 rfl rfl)⟩
    rcases hj : jumpOf e with _ | j
    · rw [hj] at hp; exact hp.elim
    · rw [hj] at hp
      refine round_of_jump hj ?_
      cases j with
      | none =>
        obtain ⟨h3, h4, h5⟩ := hp
        obtain ⟨W4, hr, rfl, hl3, hl4, hk4, hK4⟩ := fin none h3 h4
        exact ⟨_, _, hr, hK4, .inl ⟨rfl, hI.putObj _ h5 hBL hl3 rfl, hl4, hk4⟩⟩
      | some c =>
        obtain ⟨h3, h4, h5⟩ := hp
        obtain ⟨W4, hr, rfl, hl3, hl4, hk4, hK4⟩ := fin (some c) h3 h4
        exact ⟨_, _, hr, hK4, .inr ⟨rfl, c, (hIx c).putObj _ h5 hBL hl3 rfl, hl4, hk4⟩⟩
  · -- behind the iterator
    rintro e W2 ⟨⟨v, rfl⟩, (⟨xs, hs, hi, hl, hk⟩ | ⟨pre, hs, c, hi, hl, hk⟩)⟩
    · exact ⟨none, _, run_endLoop hl (by simp), hdone D xs _ hBD (hS.putObj _ hs hBL hl rfl) (hI.putObj _ hi hBL hl rfl) ((World.putObj_heap_other hDL).trans hk)⟩
    · exact ⟨some c, _, run_endLoop hl (by simp), hstop D c pre _ hBD (hSp.putObj _ hs hBL hl rfl) ((hIx c).putObj _ hi hBL hl rfl) ((World.putObj_heap_other hDL).trans hk)⟩
end
end Go.Proofs.YtgococpbhbcpmaaGreatDoor

/-
  The iterator over boxes.
-/
namespace Go.Proofs.YtgococpbhbcpmaaGreatDoor
open Go.RowKit Go.Shelf
set_option linter.unusedVariables false
set_option linter.unusedSimpArgs false

attribute [local go_sem] Oper.semAt_some

set_option maxHeartbeats 1000000 in
theorem boxes_any (A : Option Addr) (n c : Nat) (w : World) :
    Calls Tryz.prog 46 #[.slice A n c] w fun e w' =>
      e = .returned (.func (.func 77) #[] #[.pointer (some ⟨w.heap.size, 0, none⟩)]) ∧ w' = w.alloc (.cells #[.slice A n c] 26) := by
  have hmf : ∀ (fn : Fn) (first cap : Array Value) (w : World), (Instr.makeFunc fn first cap).run Tryz.prog w = .ok (.func fn first cap) w := fun _ _ _ _ => rfl
  go_enter Tryz.func46, Tryz.ntmps46
  go_wp2_with fail
  go_ret
  exact ⟨rfl, rfl⟩

/-- Bytes that a slice holds, in a block of bytes. -/
def Tyb (w : World) (v : Value) (b : List UInt8) : Prop :=
  ∃ A m c, v = .slice A m c ∧ Byt w w.heap.size A m b ∧ (A = none → c = 0) ∧ m ≤ c ∧ c ≤ maxLen ∧ (0 < m → ∃ g o cs fr, A = some ⟨g, o, none⟩ ∧ w.heap[g]? = some (.cells cs 5 fr))
/-- Blocks of bytes lie as they lay. -/
def KeepU (w w' : World) : Prop := w.heap.size ≤ w'.heap.size ∧ ∀ (k : Nat) cs fr, w.heap[k]? = some (.cells cs 5 fr) → w'.heap[k]? = some (.cells cs 5 fr)
theorem KeepU.refl (w : World) : KeepU w w := ⟨Nat.le_refl _, fun _ _ _ h => h⟩
theorem KeepU.trans {a b c : World} (h : KeepU a b) (k : KeepU b c) : KeepU a c := ⟨Nat.le_trans h.1 k.1, fun i cs fr hi => k.2 i cs fr (h.2 i cs fr hi)⟩
theorem KeepU.below {w w' : World} (h : Below w.heap.size w w') : KeepU w w' := ⟨h.size, fun k cs fr hk => (h.block k (Array.getElem?_eq_some_iff.1 hk).1).trans hk⟩
theorem KeepU.put {w : World} {l : Nat} {o : Obj} (o' : Obj) (hl : w.heap[l]? = some o) (ho : o.isCells = false) : KeepU w (w.putObj l o') := by
  refine ⟨by simp, fun k cs fr hk => (World.putObj_heap_other ?_).trans hk⟩
  rintro rfl
  rw [hl] at hk
  cases hk
  cases ho
theorem KeepU.grown {w w' : World} {row : Option Nat} (hg : w.grownBy w' row) (hr : ∀ r, row = some r → ∃ o : Obj, w.heap[r]? = some o ∧ ∀ cs fr, o ≠ .cells cs 5 fr) : KeepU w w' := by
  refine ⟨hg.size, fun k cs fr hk => (hg.block k (Array.getElem?_eq_some_iff.1 hk).1 ?_).trans hk⟩
  intro e
  obtain ⟨o, ho, hn⟩ := hr k e.symm
  rw [hk] at ho
  cases ho
  exact hn _ _ rfl
theorem Tyb.keep {w w' : World} {v : Value} {b : List UInt8} (h : Tyb w v b) (hk : KeepU w w') : Tyb w' v b := by
  obtain ⟨A, m, c, rfl, hb, h1, h2, h3, h4⟩ := h
  refine ⟨A, m, c, rfl, ⟨hb.1, fun h0 => ?_⟩, h1, h2, h3, fun h0 => ?_⟩
  · obtain ⟨g, o, rfl, hlt, hc⟩ := hb.2 h0
    obtain ⟨g', o', cs, fr, e, hg⟩ := h4 h0
    cases e
    refine ⟨g, o, rfl, Nat.lt_of_lt_of_le hlt hk.1, fun j x hx => ?_⟩
    rw [World.cell?_of_block (w := w) ((hk.2 _ _ _ hg).trans hg.symm)]
    exact hc j x hx
  · obtain ⟨g, o, cs, fr, e, hg⟩ := h4 h0
    exact ⟨g, o, cs, fr, e, hk.2 _ _ _ hg⟩
/-- Slices that hold bytes, one behind the other. -/
def Tybs (w : World) : List Value → List (List UInt8) → Prop
  | [], [] => True
  | v :: vs, b :: bs => Tyb w v b ∧ Tybs w vs bs
  | _, _ => False
theorem Tybs.keep {w w' : World} (hk : KeepU w w') : ∀ {vs : List Value} {bs : List (List UInt8)}, Tybs w vs bs → Tybs w' vs bs
  | [], [], _ => trivial
  | _ :: _, _ :: _, h => ⟨h.1.keep hk, h.2.keep hk⟩
theorem Tybs.snoc {w : World} {v : Value} {b : List UInt8} (h1 : Tyb w v b) : ∀ {vs : List Value} {bs : List (List UInt8)}, Tybs w vs bs → Tybs w (vs ++ [v]) (bs ++ [b])
  | [], [], _ => ⟨h1, trivial⟩
  | _ :: _, _ :: _, h => ⟨h.1, h.2.snoc h1⟩
theorem Tybs.len {w : World} : ∀ {vs : List Value} {bs : List (List UInt8)}, Tybs w vs bs → vs.length = bs.length
  | [], [], _ => rfl
  | _ :: _, _ :: _, h => by simp [h.2.len]
theorem Tybs.prts {w : World} : ∀ {vs : List Value} {bs : List (List UInt8)}, Tybs w vs bs → PrtsV w (fun _ => False) vs (bts bs).flatten
  | [], [], _ => rfl
  | _ :: _, b :: bs, ⟨⟨A, m, c, rfl, hb, h1, h2, h3, h4⟩, h⟩ => by
    show PrtsV w _ _ ([Prt.byt b] ++ (bts bs).flatten)
    refine ⟨_, _, rfl, ⟨A, m, c, rfl, hb.off (fun _ hk => hk.elim), fun e => ⟨?_, h1 e⟩, h2, h3⟩, h.prts⟩
    have := h1 e
    omega

/-- A box that was told: its bytes' slice, and where it ends. -/
abbrev Bx := Value × Nat
def endB (xs : List Bx) : Nat := (xs.getLast?.map Prod.snd).getD 0
theorem endB_snoc (xs : List Bx) (x : Bx) : endB (xs ++ [x]) = x.2 := by unfold endB; simp
/-- What a round keeps: bytes, the iterator's box, what lay below n₀. -/
def KeepB (n₀ Bs : Nat) (w w' : World) : Prop := Below n₀ w w' ∧ w'.heap[Bs]? = w.heap[Bs]? ∧ KeepU w w'
theorem KeepB.trans {n₀ Bs : Nat} {a b c : World} (h : KeepB n₀ Bs a b) (k : KeepB n₀ Bs b c) : KeepB n₀ Bs a c := ⟨h.1.trans k.1, k.2.1.trans h.2.1, h.2.2.trans k.2.2⟩
theorem KeepB.refl {n₀ Bs : Nat} (w : World) : KeepB n₀ Bs w w := ⟨Below.refl _ _, rfl, KeepU.refl _⟩
theorem KeepB.below {n₀ Bs : Nat} {w w' : World} (h : Below w.heap.size w w') (hB : Bs < w.heap.size) (hn : n₀ ≤ w.heap.size) : KeepB n₀ Bs w w' := ⟨h.mono hn, h.block _ hB, KeepU.below h⟩
/-- What is told of a box ahead of its round; of all. -/
def toldB (bs : List UInt8) (pre : List Bx) (x : Bx) (w : World) : Prop := ∃ b, (validC bs).1[pre.length]? = some b ∧ Tyb w x.1 b
def allB (bs : List UInt8) (xs : List Bx) (w : World) : Prop := Tybs w (xs.map Prod.fst) (validC bs).1 ∧ endB xs = (validC bs).2
theorem abides_below {β : Type} {J : β → World → Prop} {B : Nat} (h : AbidesFrom B J) {s : β} {w w' : World} (hs : J s w) (hb : Below w.heap.size w w') : J s w' :=
  h s w w' none hs ⟨hb.os, hb.tape, hb.output, hb.size, fun k hk _ => hb.block k hk⟩ (fun _ e => by cases e)

/-- What holds between two boxes. -/
def BxI (bs : List UInt8) (n₀ Bs : Nat) (J : List Bx → World → Prop) (W wr : World) (a : Nat) : Prop :=
  ∃ (pre : List Bx) (gs : List (List UInt8)), a ≤ bs.length ∧ J pre wr ∧ KeepB n₀ Bs W wr ∧ Tybs wr (pre.map Prod.fst) gs ∧ endB pre = a ∧ validC bs = (gs ++ (validC (bs.drop a)).1, a + (validC (bs.drop a)).2)

set_option maxRecDepth 100000 in
set_option maxHeartbeats 2000000 in
theorem boxes1_in (n : Nat) (hn : 1 ≤ n) (lr Bs n₀ k c : Nat) (A : Option Addr) (bs : List UInt8) (J Jx : List Bx → World → Prop) (W : World)
    (hl : Byt W n₀ A k bs) (hn0 : n₀ ≤ W.heap.size) (hBs : Bs < W.heap.size) (hnil : A = none → c = 0) (hkc : k ≤ c) (hcm : c ≤ maxLen) (hk : k ≤ 1000000)
    (hJ : AbidesFrom W.heap.size J)
    (hY : ∀ pre (x : Bx) W1, J pre W1 → toldB bs pre x W1 → YieldAt Fence.wide (n - 1) Tryz.prog lr #[x.1, .int .i64 (x.2 : Nat)] W1 fun e W' =>
      KeepB n₀ Bs W1 W' ∧ ((e = .returned (.bool true) ∧ J (pre ++ [x]) W') ∨ (e = .returned (.bool false) ∧ Jx (pre ++ [x]) W')))
    (hs : W.cell? ⟨Bs, 0, none⟩ = some (.slice A k c)) (h0 : J [] W) :
    CallsIn Fence.wide n Tryz.prog 77 #[.func (.yield lr) #[] #[], .pointer (some ⟨Bs, 0, none⟩)] W fun e W' => (∃ v, e = .returned v) ∧
      ((∃ xs, allB bs xs W' ∧ J xs W') ∨ (∃ pre, True ∧ Jx pre W')) := by
  refine callsIn_of_wp Tryz.func77 rfl trivial ?_ rfl
  simp only [Tryz.ntmps77, List.size_toArray, List.length_cons, List.length_nil, Nat.reduceAdd, Nat.reduceSub, Array.replicate_succ, Array.replicate_zero, List.push_toArray, List.append_toArray, List.nil_append, List.cons_append]
  gi_wp2
  gi_loopw [3] (fun i wr => ∃ a : Nat, i = .int .i64 a ∧ BxI bs n₀ Bs J W wr a) (fun i _ => k - (intOf i).toNat)
  case atStart => exact ⟨0, rfl, [], [], Nat.zero_le _, h0, KeepB.refl _, trivial, rfl, by simp⟩
  case round =>
    obtain ⟨a, rfl, pre, gs, ha, hJp, hK, hT, he, hV⟩ := hrel
    have hlen := hl.1
    have hsz := hK.1.size
    have hlb := (hl.below hK.1).more (Nat.le_trans hn0 hK.2.2.1)
    have hs' := (World.cell?_of_block (w := W) (a := ⟨Bs, 0, none⟩) hK.2.1).trans hs
    have hN := (callsIn_wide (n := n - 1)).2 (next_any A k c bs (a : Int) wr hlb hnil hkc hcm hk)
    by_cases e0 : (headC (bs.drop a)).2.2 = 0
    · obtain ⟨s1, s2, s3, s4⟩ := head_size _ e0
      rw [List.length_drop] at s2
      rw [next_go bs a ha e0] at hN
      have hV2 := valid_go _ e0
      rw [List.drop_drop] at hV2
      obtain ⟨sz, hsz2⟩ : ∃ z, (headC (bs.drop a)).2.1 = z := ⟨_, rfl⟩
      obtain ⟨bd, hbd⟩ : ∃ z, (headC (bs.drop a)).1 = z := ⟨_, rfl⟩
      rw [hsz2, hbd] at hN hV2
      rw [hsz2] at s1 s2
      rw [hV2] at hV
      have HV := Lib.hid (show validC bs = ((gs ++ [bd]) ++ (validC (bs.drop (a + sz))).1, a + sz + (validC (bs.drop (a + sz))).2) by rw [hV]; simp [Nat.add_assoc])
      obtain ⟨a2, ha2⟩ : ∃ z, a + sz = z := ⟨_, rfl⟩
      rw [ha2] at hN HV
      have HA := Lib.hid (show a < a2 ∧ a2 ≤ k by omega)
      clear hV hV2 e0 hsz2 hbd s1 s2 s3 s4 ha2
      unfold NextO at hN
      have hNQ := hN.mono (R' := fun e w1 => ∃ A1 m1 c1, e = .returned (.tuple #[.slice A1 m1 c1, .int .i64 ((a2 : Nat) : Int), .int .i64 0]) ∧ Tyb w1 (.slice A1 m1 c1) bd ∧ Tybs w1 (pre.map Prod.fst) gs ∧ KeepB n₀ Bs W w1 ∧ J pre w1) (by
        rintro e w1 ⟨A1, m1, c1, rfl, hb1, hn1, hm1, hc1, hbel, hty⟩
        exact ⟨A1, m1, c1, rfl, ⟨A1, m1, c1, rfl, hb1, hn1, hm1, hc1, fun h0 => by obtain ⟨g, o, cs, fr, e, _, hg⟩ := hty h0; exact ⟨g, o, cs, fr, e, hg⟩⟩, hT.keep (KeepU.below hbel), hK.trans (KeepB.below hbel (Nat.lt_of_lt_of_le hBs hsz) (Nat.le_trans hn0 hsz)), abides_below hJ hJp hbel⟩)
      have HL := Lib.hid (And.intro hlen he)
      clear hT hK hJp hN hlb hlen he ha
      gi_wp2_with (first
        | (refine ⟨trivial, ?_⟩; gi_at_call 78; refine hNQ.mono ?_; rintro e w1 ⟨A1, m1, c1, rfl, hx, hT1, hK1, hJ1⟩; obtain ⟨fn, tmps, assign, body, hy, hR⟩ := hY pre (.slice A1 m1 c1, a2) w1 hJ1 ⟨bd, by rw [HV.out]; simp [← hT1.len], hx⟩; dsimp only at hy))
      refine hR.mono ?_
      rintro e W3 ⟨hk3, ⟨rfl, hJ3⟩ | ⟨rfl, hJx3⟩⟩
      · have HI := Lib.hid (show BxI bs n₀ Bs J W W3 a2 from ⟨pre ++ [(.slice A1 m1 c1, a2)], gs ++ [bd], by have := HL.out; have := HA.out; omega, hJ3, hK1.trans hk3, by rw [List.map_append]; exact (hT1.keep hk3.2.2).snoc (hx.keep hk3.2.2), endB_snoc _ _, HV.out⟩)
        clear hJ3 hk3 hK1 hJ1 hT1 hx hR hy hs' hsz hY hNQ
        gi_wp2
        go_roundw
        case rel => exact ⟨a2, rfl, HI.out⟩
        case measure => have := HA.out; simp [intOf]; omega
      · clear hk3 hK1 hJ1 hT1 hx hR hy hs' hsz hY hNQ
        gi_wp2
        refine bodyPost_ret (results_none rfl _ _ _) rfl ?_
        exact ⟨⟨_, rfl⟩, .inr ⟨_, trivial, hJx3⟩⟩
    · rw [next_no bs a ha e0] at hN
      obtain ⟨q, hq⟩ : ∃ q, (headC (bs.drop a)).2.2 = q := ⟨_, rfl⟩
      have hV2 := valid_stop _ e0
      rw [hq] at hN e0
      have hqq : (q != 0) = true := by simpa using e0
      rw [hV2] at hV
      have HV := Lib.hid (show validC bs = (gs, a) by rw [hV]; simp)
      clear hV hV2 hq e0
      unfold NextO at hN
      gi_wp2_with (first
        | (refine ⟨trivial, ?_⟩; gi_at_call 78; refine hN.mono ?_; rintro e w1 ⟨A1, m1, c1, rfl, hb1, hn1, hm1, hc1, hbel, hty⟩))
      refine ⟨fun _ h => (by cases h), ?_⟩
      gi_wp2
      refine bodyPost_ret (results_none rfl _ _ _) rfl ?_
      refine ⟨⟨_, rfl⟩, .inl ⟨pre, ⟨?_, ?_⟩, abides_below hJ hJp hbel⟩⟩
      · rw [HV.out]
        exact hT.keep (KeepU.below hbel)
      · rw [HV.out]
        exact he

theorem boxes_stops (n : Nat) (hn : 1 ≤ n) (Bs n₀ k c : Nat) (A : Option Addr) (bs : List UInt8) (w : World)
    (hl : Byt w n₀ A k bs) (hn0 : n₀ ≤ w.heap.size) (hBs : Bs < w.heap.size) (hnil : A = none → c = 0) (hkc : k ≤ c) (hcm : c ≤ maxLen) (hk : k ≤ 1000000) (hs : w.cell? ⟨Bs, 0, none⟩ = some (.slice A k c)) :
    SeqT Fence.wide n Tryz.prog 77 #[.pointer (some ⟨Bs, 0, none⟩)] (fun x : Bx => #[x.1, .int .i64 (x.2 : Nat)]) (KeepB n₀ Bs) (toldB bs) (allB bs) (fun _ _ => True) w := fun l J Jx W hW hJ hJx hY h0 =>
  boxes1_in n hn l Bs n₀ k c A bs J Jx W (hl.below (hW.mono hn0)) (Nat.le_trans hn0 hW.size) (Nat.lt_of_lt_of_le hBs hW.size) hnil hkc hcm hk hJ hY ((hW.cell (p := ⟨Bs, 0, none⟩) hBs).trans hs) h0

end Go.Proofs.YtgococpbhbcpmaaGreatDoor
