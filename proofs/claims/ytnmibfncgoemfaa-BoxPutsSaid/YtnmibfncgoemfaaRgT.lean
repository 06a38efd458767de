/-
  A range over a function whose iterator hands out what it has made: its contract tells the round, and the caller behind it, what stands in memory of the elements. No program stands here.
-/
import Derived.Test.YtnmibfncgoemfaaBase
import Derived.RangeFuncNested
import Derived.RangeFuncBound
import Derived.RangeFuncCalls
import Derived.RangeFuncLeaves
namespace Go.Proofs.Ytnmibfncgoemfaa
open Go.RowKit
set_option linter.unusedVariables false
set_option linter.unusedSimpArgs false

section
variable {F : Fence} {n : Nat} {P : Program} {α : Type}

/-- The iterator g: at each round T tells of the element, at the end S of all, Sp of those up to a round that has said 'no more'; Kp: what a round keeps. -/
def SeqT (F : Fence) (n : Nat) (P : Program) (g : Nat) (lb : Array Value) (encs : α → Array Value) (Kp : World → World → Prop) (T : List α → α → World → Prop) (S Sp : List α → World → Prop) (w : World) : Prop :=
  ∀ (l : Nat) (J Jx : List α → World → Prop) (W : World), Below w.heap.size w W → AbidesFrom W.heap.size J → AbidesFrom W.heap.size Jx →
    (∀ pre x W1, J pre W1 → T pre x W1 → YieldAt F (n - 1) P l (encs x) W1 fun e W' => Kp W1 W' ∧ ((e = .returned (.bool true) ∧ J (pre ++ [x]) W') ∨ (e = .returned (.bool false) ∧ Jx (pre ++ [x]) W'))) →
    J [] W →
    CallsIn F n P g (#[.func (.yield l) #[] #[]] ++ lb) W fun e W' => (∃ v, e = .returned v) ∧ ((∃ xs, S xs W' ∧ J xs W') ∨ (∃ pre, Sp pre W' ∧ Jx pre W'))

/-- The jump by which a round's body is left. -/
def jumpOf : Exit → Option (Option Code)
  | .normal => some none
  | .ret => some (some .ret)
  | .exit id => some (some (.exit id))
  | .goto t => some (some (.goto t))
  | .panic _ => none
  | .outgrown => none
/-- How a round may be left. -/
def toldPost (B : Nat) (Kp : World → World → Prop) (I : List α → World → Prop) (Ix : Code → List α → World → Prop) (xs : List α) (W : World) (e : Exit) (a : Act) (W' : World) : Prop :=
  match jumpOf e with
  | some none => KeepsFrom B W W' ∧ Kp W W' ∧ I xs W'
  | some (some c) => KeepsFrom B W W' ∧ Kp W W' ∧ Ix c xs W'
  | none => False
theorem round_of_jump {l : Nat} {R : Ending → World → Prop} {e : Exit} {a : Act} {w : World} {j : Option Code} (hj : jumpOf e = some j) (h : ∃ v w', (Instr.endRound l j).run P w = .ok v w' ∧ R (.returned v) w') : roundPost P l R e a w := by
  cases e <;> simp [jumpOf] at hj <;> subst hj <;> exact h

theorem range_told {g : Operand} {ps : Array Tmp} {assign body : Code} {Q : Exit → Act → World → Prop} {a : Act} {w : World}
    (hro : F.round = none) (h1 : 1 ≤ n) {gf : Nat} {lb : Array Value} (hg : a.eval g = .func (.func gf) #[] lb) (hFg : F.fn gf) (eg : ∀ args w, (callFunc gf args).run P w = .ok (.enter gf args) w)
    {encs : α → Array Value} {Kp : World → World → Prop} {T : List α → α → World → Prop} {S Sp : List α → World → Prop} {w0 : World} (hseq : SeqT F (n - 1) P gf lb encs Kp T S Sp w0)
    (hKt : ∀ {A B C : World}, Kp A B → Kp B C → Kp A C) (hKb : ∀ (W : World) (l : Nat) (o o' : Obj), w.heap.size ≤ l → W.heap[l]? = some o → o.isCells = false → o.isWalk = false → Kp W (W.putObj l o'))
    (hT : OwnFrom w.heap.size fun (s : List α × α) W => T s.1 s.2 W) (hS : OwnFrom w.heap.size S) (hSp : OwnFrom w.heap.size Sp)
    (hb0 : Below w0.heap.size w0 w) (hps : ∀ x, (encs x).size = ps.size)
    (I : List α → World → Prop) (Ix : Code → List α → World → Prop) (hI : OwnFrom w.heap.size I) (hIx : ∀ c, OwnFrom w.heap.size (Ix c)) (h0 : I [] w) (a₁ : α → Act)
    (hassign : ∀ (l : Nat) (x : α) (W : World) (K : Act → World → Prop), K (a₁ x) W →
      assign.wpIn (F.inRound l) (n - 1 - 1) P (Exit.then K (fun _ _ _ => False)) { tmps := (ps.zip (encs x)).foldl (fun t (p, v) => t.setIfInBounds p v) a.tmps, defers := [] } W)
    (hbody : ∀ (l : Nat) (pre : List α) (x : α) (W : World), I pre W → T pre x W → body.wpIn (F.inRound l) (n - 1 - 1) P (toldPost w.heap.size Kp I Ix (pre ++ [x]) W) (a₁ x) W)
    (hdone : ∀ (D : Nat) (xs : List α) (W : World), w.heap.size ≤ D → S xs W → I xs W → W.heap[D]? = some (.deferred (some [])) → Q .normal { a with defers := { target := .collected D, args := #[] } :: a.defers } W)
    (hstop : ∀ (D : Nat) (c : Code) (pre : List α) (W : World), w.heap.size ≤ D → Sp pre W → Ix c pre W → W.heap[D]? = some (.deferred (some [])) → c.wpIn F n P Q { a with defers := { target := .collected D, args := #[] } :: a.defers } W) :
    (Code.rangeFunc g ps assign body).wpIn F n P Q a w := by
  refine wpIn_rangeFunc fun fn hfn => ?_
  rw [hro]
  -- the loop's record in its states; the world in which the iterator is called
  let lp (s : LoopState) (j : Option Code) : Obj := .loop { state := s, pending := j, fn, tmps := a.tmps, params := ps, assign, body, defers := w.heap.size }
  let D := w.heap.size
  let L := w.heap.size + 1
  let Ready (W : World) : Prop := W.heap[L]? = some (lp .ready none) ∧ W.heap[D]? = some (.deferred (some []))
  let Over (c : Code) (W : World) : Prop := W.heap[L]? = some (lp .done (some c)) ∧ W.heap[D]? = some (.deferred (some []))
  have hw1 : Ready ((w.alloc (.deferred (some []))).alloc (lp .ready none)) := by
    refine ⟨?_, (Below.heap_alloc _ _ _ (by simp [D])).trans (World.alloc_heap_new w _)⟩
    have := World.alloc_heap_new (w.alloc (.deferred (some []))) (lp .ready none)
    rwa [World.size_alloc] at this
  have hbel : Below w0.heap.size w0 ((w.alloc (.deferred (some []))).alloc (lp .ready none)) :=
    hb0.trans ((((Below.refl _ w).alloc (Nat.le_refl _) _).alloc (by simp) _).mono hb0.size)
  have hI1 := hI.alloc (lp .ready none) (hI.alloc (.deferred (some [])) h0)
  have hsz1 : w.heap.size ≤ ((w.alloc (.deferred (some []))).alloc (lp .ready none)).heap.size := by simp; omega
  have hen : (Instr.enterLoop fn a.tmps ps assign body none).run P w = .ok (L, [{ target := .collected D, args := #[] }]) ((w.alloc (.deferred (some []))).alloc (lp .ready none)) :=
    run_enterLoop_outer fn a.tmps ps assign body
  generalize ((w.alloc (.deferred (some []))).alloc (lp .ready none)) = W1 at hw1 hbel hI1 hsz1 hen
  refine ⟨L, [{ target := .collected D, args := #[] }], W1, { target := .fn (.func gf) lb, args := #[.func (.yield L) #[] #[]] }, W1, gf, #[.func (.yield L) #[] #[]] ++ lb, W1, hen, ?_, ?_, ?_, fun _ => h1, ?_⟩
  · simp only [resolve, hg]
    simp [go_sem]
  · rintro f' h'
    simp [Target.leads] at h'
    exact h' ▸ hFg
  · simp [invoke, go_sem, eg]
  have other : ∀ {A B : World} {row : Option Nat} {k : Nat} {o : Obj}, A.grownBy B row → (∀ r, row = some r → W1.heap.size ≤ r ∧ ∃ o : Obj, A.heap[r]? = some o ∧ o.isWalk = true) → A.heap[k]? = some o → o.isWalk = false → B.heap[k]? = some o :=
    fun hgr hr hk ho => (grownBy_keeps hgr (fun r e => (hr r e).2) hk ho).trans hk
  have plain : ∀ {A : World} {row : Option Nat}, (∀ r, row = some r → W1.heap.size ≤ r ∧ ∃ o : Obj, A.heap[r]? = some o ∧ o.isWalk = true) → ∀ r, row = some r → w.heap.size ≤ r ∧ ∃ o : Obj, A.heap[r]? = some o ∧ o.isCells = false :=
    fun hr r e => let ⟨hB, o, ho, hwk⟩ := hr r e; ⟨Nat.le_trans hsz1 hB, o, ho, Obj.not_cells_of_walk hwk⟩
  have hDL : D ≠ L := by simp [D, L]
  have hBD : w.heap.size ≤ D := Nat.le_refl _
  have hBL : w.heap.size ≤ L := Nat.le_succ _
  refine (hseq L (fun pre W => I pre W ∧ Ready W) (fun pre W => ∃ c, Ix c pre W ∧ Over c W) W1 hbel
    (fun s A B row hs hgr hr => ⟨hI s A B row hs.1 hgr (plain hr), other hgr hr hs.2.1 rfl, other hgr hr hs.2.2 rfl⟩)
    (fun s A B row ⟨c, hc, hl, hk⟩ hgr hr => ⟨c, hIx c s A B row hc hgr (plain hr), other hgr hr hl rfl, other hgr hr hk rfl⟩) ?_ ⟨hI1, hw1⟩).mono ?_
  · -- a round
    rintro pre x W ⟨hi, hl, hk⟩ ht
    have hlt : L < W.heap.size := (Array.getElem?_eq_some_iff.1 hl).1
    refine ⟨fn, _, assign, body, run_yield hl (hps x), roundIn_of_wpIn hfn (hassign L x W _ ⟨_, run_beginRound hl rfl, ?_⟩)⟩
    change body.wpIn _ _ _ _ _ (W.putObj L (lp .busy none))
    have hl2 : (W.putObj L (lp .busy none)).heap[L]? = some (lp .busy none) := World.putObj_heap_same hlt
    have hk2 : (W.putObj L (lp .busy none)).heap[D]? = some (.deferred (some [])) := (World.putObj_heap_other hDL).trans hk
    have hkp := hKb W L _ (lp .busy none) hBL hl rfl rfl
    have hi2 := hI.putObj (lp .busy none) hi hBL hl rfl
    have ht2 := hT.putObj (s := (pre, x)) (lp .busy none) ht hBL hl rfl
    generalize W.putObj L (lp .busy none) = W2 at hl2 hk2 hkp hi2 ht2 ⊢
    refine wpIn_mono (hbody L pre x W2 hi2 ht2) fun e a3 W3 hp => ?_
    unfold toldPost at hp
    -- what a jump leaves
    have fin : ∀ j : Option Code, KeepsFrom w.heap.size W2 W3 → Kp W2 W3 → ∃ W4 : World, (Instr.endRound L j).run P W3 = .ok (.bool j.isNone) W4 ∧ W4 = W3.putObj L (lp (if j.isNone then .ready else .done) j) ∧
        W3.heap[L]? = some (lp .busy none) ∧ W4.heap[L]? = some (lp (if j.isNone then .ready else .done) j) ∧ W4.heap[D]? = some (.deferred (some [])) ∧ Kp W W4 := fun j hk3 hp3 => by
      have hl3 := hk3.same _ _ hBL hl2 rfl
      exact ⟨_, run_endRound j hl3, rfl, hl3, World.putObj_heap_same (Array.getElem?_eq_some_iff.1 hl3).1, (World.putObj_heap_other hDL).trans (hk3.same _ _ hBD hk2 rfl), hKt (hKt hkp hp3) (hKb _ _ _ _ hBL hl3 rfl rfl)⟩
    rcases hj : jumpOf e with _ | j
    · rw [hj] at hp; exact hp.elim
    · rw [hj] at hp
      refine round_of_jump hj ?_
      cases j with
      | none =>
        obtain ⟨h3, h4, h5⟩ := hp
        obtain ⟨W4, hr, rfl, hl3, hl4, hk4, hK4⟩ := fin none h3 h4
        exact ⟨_, _, hr, hK4, .inl ⟨rfl, hI.putObj _ h5 hBL hl3 rfl, hl4, hk4⟩⟩
      | some c =>
        obtain ⟨h3, h4, h5⟩ := hp
        obtain ⟨W4, hr, rfl, hl3, hl4, hk4, hK4⟩ := fin (some c) h3 h4
        exact ⟨_, _, hr, hK4, .inr ⟨rfl, c, (hIx c).putObj _ h5 hBL hl3 rfl, hl4, hk4⟩⟩
  · -- behind the iterator
    rintro e W2 ⟨⟨v, rfl⟩, (⟨xs, hs, hi, hl, hk⟩ | ⟨pre, hs, c, hi, hl, hk⟩)⟩
    · exact ⟨none, _, run_endLoop hl (by simp), hdone D xs _ hBD (hS.putObj _ hs hBL hl rfl) (hI.putObj _ hi hBL hl rfl) ((World.putObj_heap_other hDL).trans hk)⟩
    · exact ⟨some c, _, run_endLoop hl (by simp), hstop D c pre _ hBD (hSp.putObj _ hs hBL hl rfl) ((hIx c).putObj _ hi hBL hl rfl) ((World.putObj_heap_other hDL).trans hk)⟩
end
end Go.Proofs.Ytnmibfncgoemfaa
