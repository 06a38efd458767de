/-
  The statement SegTorn by the program's contracts.
-/
import Derived.Test.YthjikbhjciphiaaGreatDoorZz28
import Derived.Test.YthjikbhjciphiaaGreatDoorZz24
import Derived.Test.YthjikbhjciphiaaGreatDoorZz3
namespace Go.Proofs.YthjikbhjciphiaaGreatDoor
open Go.RowKit
set_option linter.unusedVariables false
set_option linter.unusedSimpArgs false

/-- Are there too many, or too long ones? -/
def largeR (l : List Rc) : Bool := (l.take 60).any (fun r => decide (100 < r.ten.length)) || decide (60 < l.length)

set_option maxRecDepth 100000 in
set_option maxHeartbeats 2000000 in
theorem refLargeR_any (A : Option Addr) (n c : Nat) (l : List Rc) (S : Nat → Prop) (W : World) (h : Rcs W S A n l) (hn : n ≤ maxLen) (hf : Fine l) :
    Calls Tryz.prog 23 #[.slice A n c] W fun e W' => e = .returned (.bool (largeR l)) ∧ W' = W := by
  unfold maxLen at hn
  have HN := Lib.hid h.len
  go_enter Tryz.func23, Tryz.ntmps23
  go_wp2_with fail
  go_loopw [3] (fun i wr => ∃ k : Nat, k ≤ n ∧ k ≤ 60 ∧ i = .int .i64 (k : Nat) ∧ wr = W ∧ (l.take k).any (fun r => decide (100 < r.ten.length)) = false) (fun i _ => 60 - (intOf i).toNat)
  case atStart => exact ⟨0, Nat.zero_le _, by omega, rfl, rfl, rfl⟩
  case round =>
    obtain ⟨k, hk, hk6, rfl, rfl, hno⟩ := hrel
    by_cases hlt : k < n
    · by_cases h6 : k < 60
      · obtain ⟨r, hr⟩ : ∃ r, l[k]? = some r := ⟨_, List.getElem?_eq_getElem (by have := HN.out; omega)⟩
        obtain ⟨g, o, rfl, _, _, _, _, z2, _⟩ := Rcs.at_ h hr
        have hm := (hf r (List.mem_of_getElem? hr)).2
        unfold maxLen at hm
        have hsu : (l.take (k + 1)).any (fun r => decide (100 < r.ten.length)) = decide (100 < r.ten.length) := by
          rw [List.take_add_one, hr, List.any_append, hno]
          simp
        have hkn : (k : Int) < (n : Int) := by omega
        have hk60 : (k : Int) < 60 := by omega
        by_cases ht : 100 < r.ten.length
        · have h1 : (100 : Int) < (r.ten.length : Int) := by omega
          have HR := Lib.hid (show largeR l = true by
            rw [decide_eq_true ht] at hsu
            unfold largeR
            rw [Bool.or_eq_true]
            left
            rw [List.any_eq_true] at hsu ⊢
            obtain ⟨x, hx, hx2⟩ := hsu
            exact ⟨x, List.take_subset_take_left l (by omega) hx, hx2⟩)
          clear hsu hno hlt h6 hk hk6 hr ht hm
          go_wp2_with fail
          go_ret
          exact ⟨by rw [HR.out]; rfl, rfl⟩
        · have h1 : ¬ (100 : Int) < (r.ten.length : Int) := by omega
          rw [decide_eq_false ht] at hsu
          have HS := Lib.hid (And.intro hsu (And.intro hlt h6))
          clear hsu hno hlt h6 hk hk6 hr ht hm
          go_wp2_with fail
          go_roundw
          case rel => exact ⟨k + 1, by have := HS.out; omega, by have := HS.out; omega, by go_num, trivial, HS.out.1⟩
          case measure => have := HS.out; simp [intOf]; omega
      · have hk60 : ¬ (k : Int) < 60 := by omega
        have hkn : (k : Int) < (n : Int) := by omega
        obtain rfl : k = 60 := by omega
        have HR := Lib.hid (show largeR l = decide (60 < l.length) by unfold largeR; rw [hno]; rfl)
        have hl := HN.out
        obtain ⟨d, hd⟩ : ∃ d, decide (60 < l.length) = d := ⟨_, rfl⟩
        have h2 : (60 : Int) < (n : Int) := by omega
        obtain rfl : d = true := by rw [← hd]; exact decide_eq_true (by omega)
        rw [hd] at HR
        clear hno hlt h6 hk hk6 hd hl
        go_wp2_with fail
        go_ret
        exact ⟨by rw [HR.out]; rfl, rfl⟩
    · have hkn : ¬ (k : Int) < (n : Int) := by omega
      have hkk : k = n := by omega
      have hl := HN.out
      have h2 : ¬ (60 : Int) < (n : Int) := by omega
      have HR := Lib.hid (show largeR l = false by
        unfold largeR
        rw [List.take_of_length_le (by omega)]
        rw [hkk, List.take_of_length_le (by omega)] at hno
        rw [hno, decide_eq_false (by omega)]
        rfl)
      clear hno hlt hk hk6 hkk hl
      go_wp2_with fail
      go_ret
      exact ⟨by rw [HR.out]; rfl, rfl⟩
theorem large_not (l : List Rc) (h : largeR l = false) : l.length ≤ 60 ∧ ∀ r ∈ l, r.ten.length ≤ 100 := by
  unfold largeR at h
  obtain ⟨h1, h2⟩ := Bool.or_eq_false_iff.1 h
  have h3 : l.length ≤ 60 := by have := of_decide_eq_false h2; omega
  refine ⟨h3, fun r hr => ?_⟩
  rw [List.take_of_length_le h3, List.any_eq_false] at h1
  have := h1 r hr
  simp at this
  exact this

end Go.Proofs.YthjikbhjciphiaaGreatDoor

/-
  SegTorn: what is kept while its segments are built. No program stands here.
-/
namespace Go.Proofs.YthjikbhjciphiaaGreatDoor
open Go.RowKit
set_option linter.unusedVariables false
set_option linter.unusedSimpArgs false

theorem segB_len (c : List Rc) (h : ∀ r ∈ c, okRc r) : (segB c).length ≤ 56 * c.length := by
  induction c with
  | nil => exact Nat.le_refl _
  | cons r c ih =>
    have h1 := okRc_len r (h r List.mem_cons_self)
    have h2 := ih (fun q hq => h q (List.mem_cons_of_mem _ hq))
    show (boxesC (encC r :: c.map encC)).length ≤ _
    rw [boxesC_cons, List.length_append, boxC_len, List.length_cons]
    unfold segB at h2
    omega
theorem segB_snoc (c : List Rc) (r : Rc) : segB (c ++ [r]) = segB c ++ boxC (encC r) := by unfold segB; rw [List.map_append]; exact boxesC_snoc _ _
/-- Parts off what is turned stay. -/
theorem prts_grow {w w' : World} {row : Option Nat} {S S' : Nat → Prop} {xs : List Value} {ps : List Prt} (h : PrtsV w S xs ps) (hg : w.grownBy w' row) (hr : ∀ k, row = some k → S k) (hs : ∀ k, S' k → S k ∨ w.heap.size ≤ k) : PrtsV w' S' xs ps := by
  have hsz := hg.size
  have h1 : PrtsV w (fun k => S k ∨ w.heap.size ≤ k) xs ps := PrtsV.more h (fun k hk hlt => hk.resolve_right (by omega))
  have h2 : Turn (fun k => S k ∨ w.heap.size ≤ k) w w' := by
    refine ⟨hg.os, hg.tape, hg.output, by omega, fun k hk hn => ?_⟩
    exact hg.block k hk (fun e => hn (.inl (hr k e.symm)))
  exact PrtsV.less (PrtsV.turn h1 h2) hs
theorem own_type {w : World} {base size k r : Nat} {e : TypeId} {v : Value} {xs : List Value} (h : w.ownsRow base e size v k xs) (hr : v.ownBlock = some r) : base ≤ r ∧ r < w.heap.size ∧ ∃ cs fr, w.heap[r]? = some (.cells cs e fr) := by
  rcases h.2 with ⟨rfl, _⟩ | ⟨g, cap, cur, rfl, hb, hg, _⟩
  · simp [Value.ownBlock] at hr
  · obtain rfl : g = r := by simpa [Value.ownBlock] using hr
    exact ⟨hb, (Array.getElem?_eq_some_iff.1 hg).1, _, _, hg⟩
/-- Rows of elements of two types lie apart. -/
theorem own_two {w : World} {b1 s1 n1 b2 s2 n2 r : Nat} {e1 e2 : TypeId} {v1 v2 : Value} {x1 x2 : List Value} (h1 : w.ownsRow b1 e1 s1 v1 n1 x1) (h2 : w.ownsRow b2 e2 s2 v2 n2 x2) (hne : e1 ≠ e2) (hr1 : v1.ownBlock = some r) (hr2 : v2.ownBlock = some r) : False := by
  obtain ⟨_, _, cs, fr, a⟩ := own_type h1 hr1
  obtain ⟨_, _, ds, gr, b⟩ := own_type h2 hr2
  rw [a] at b
  cases b
  exact hne rfl
/-- A row of one's own stays where another one is appended to. -/
theorem own_stay {w w' : World} {b1 s1 n1 b2 s2 n2 : Nat} {e1 e2 : TypeId} {v1 v2 : Value} {x1 x2 : List Value} (h1 : w.ownsRow b1 e1 s1 v1 n1 x1) (h2 : w.ownsRow b2 e2 s2 v2 n2 x2) (hne : e1 ≠ e2) (hg : w.grownBy w' v2.ownBlock) : w'.ownsRow b1 e1 s1 v1 n1 x1 := by
  refine h1.kept hg ?_
  cases h : v1.ownBlock with
  | none => exact .inl (by rcases h1.2 with ⟨rfl, _⟩ | ⟨g, cap, cur, rfl, _⟩; rfl; cases h)
  | some r => exact .inr (fun e => own_two h1 h2 hne h e.symm)
theorem bel_undrew {B : Nat} {a w : World} (h : Below B a.drew w) : Below B a w := ⟨h.os, h.tape, h.output, h.size, h.block⟩
theorem bel_grow {B : Nat} {W wr w' : World} {v : Value} {k s : Nat} {e : TypeId} {xs : List Value} (hb : Below B W wr) (hB : B ≤ W.heap.size) (hown : wr.ownsRow B e s v k xs) (hg : wr.grownBy w' v.ownBlock) : Below B W w' :=
  hb.grown hg (by have := hb.size; omega) fun g hg' => (hown.lt g hg').1

/-- What is wrong with a record at a place. -/
def badB (l : List Rc) (i : Nat) (r : Rc) : Bool := !decide (checkC r = 0) || (match i with | 0 => false | k + 1 => match l[k]? with | none => false | some q => decide (q.seq = 18446744073709551615) || !decide (r.seq = (q.seq + 1) % 18446744073709551616))
theorem badB_ok {l : List Rc} {i : Nat} {r : Rc} (h : badB l i r = false) (hr : l[i]? = some r) (ho : ∀ q ∈ l, q.okay) (hch : Chain (l.take i)) : okRc r ∧ Chain (l.take (i + 1)) := by
  unfold badB at h
  simp only [Bool.or_eq_false_iff, Bool.not_eq_false', decide_eq_true_eq] at h
  refine ⟨⟨h.1, ho r (List.mem_of_getElem? hr)⟩, ?_⟩
  intro k a b ha hb
  rw [List.getElem?_take] at ha hb
  split at hb
  · next hlt =>
    rw [if_pos (by omega)] at ha
    by_cases hk : k + 1 = i
    · subst hk
      have h2 := h.2
      simp only [ha] at h2
      have hao := (ho a (List.mem_of_getElem? ha)).1
      obtain rfl : b = r := by rw [hr] at hb; cases hb; rfl
      simp at h2
      omega
    · refine hch k a b ?_ ?_
      · rw [List.getElem?_take, if_pos (by omega)]; exact ha
      · rw [List.getElem?_take, if_pos (by omega)]; exact hb
  · cases hb

/-- What is kept while segments are built. -/
structure TornS (W : World) (l : List Rc) (j i K : Nat) (cs : List (List Rc)) (cur : List Rc) (xs : List Value) (v7 v8 : Value) (wr : World) : Prop where
  hi : i ≤ l.length
  tk : l.take i = cs.flatten ++ cur
  kk : cs.flatten.length = K
  len : cs.length ≤ j
  ok : ∀ r ∈ l.take i, okRc r
  ch : Chain (l.take i)
  o7 : wr.ownsRow W.heap.size 70 1 v7 cs.length xs
  ps : PrtsV wr (fun x => v7.ownBlock = some x ∨ v8.ownBlock = some x) xs (bts (cs.map segB)).flatten
  o8 : wr.ownsRow W.heap.size 5 1 v8 (segB cur).length ((segB cur).map bv)
  bel : Below W.heap.size W wr

section
variable {W wr w' : World} {l : List Rc} {j i K : Nat} {cs : List (List Rc)} {cur : List Rc} {xs : List Value} {v7 v8 : Value}
theorem TornS.start (W : World) (l : List Rc) : TornS W l 0 0 0 [] [] [] (.slice none 0 0) (.slice none 0 0) W :=
  ⟨Nat.zero_le _, rfl, rfl, Nat.le_refl _, fun r hr => (by cases hr), fun i a b ha _ => (by cases ha), World.ownsRow_nil _ _ _ _, rfl, World.ownsRow_nil _ _ _ _, Below.refl _ _⟩
theorem TornS.below (h : TornS W l j i K cs cur xs v7 v8 wr) (hb : Below wr.heap.size wr w') : TornS W l j i K cs cur xs v7 v8 w' :=
  ⟨h.hi, h.tk, h.kk, h.len, h.ok, h.ch, own_below h.o7 hb, PrtsV.turn h.ps ⟨hb.os, hb.tape, hb.output, hb.size, fun k hk _ => hb.block k hk⟩, own_below h.o8 hb, h.bel.trans (hb.mono h.bel.size)⟩
theorem TornS.mono (h : TornS W l j i K cs cur xs v7 v8 wr) {k : Nat} (hk : j ≤ k) : TornS W l k i K cs cur xs v7 v8 wr :=
  ⟨h.hi, h.tk, h.kk, Nat.le_trans h.len hk, h.ok, h.ch, h.o7, h.ps, h.o8, h.bel⟩
theorem TornS.cut (h : TornS W l j i K cs cur xs v7 v8 wr) {v7' : Value} (h7 : w'.ownsRow W.heap.size 70 1 v7' (cs.length + 1) (xs ++ [v8])) (hg : wr.grownBy w' v7.ownBlock) (hp : v7'.ownBlock = v7.ownBlock ∨ v7'.ownBlock = some wr.heap.size) :
    TornS W l (j + 1) i i (cs ++ [cur]) [] (xs ++ [v8]) v7' (.slice none 0 0) w' := by
  have o8' := own_stay h.o8 h.o7 (by decide) hg
  refine ⟨h.hi, by rw [List.flatten_append, h.tk]; simp, ?_, by have := h.len; simp; omega, h.ok, h.ch, by rw [List.length_append]; exact h7, ?_, World.ownsRow_nil _ _ _ _, bel_grow h.bel (Nat.le_refl _) h.o7 hg⟩
  · have h1 := congrArg List.length h.tk
    rw [List.length_take, List.length_append] at h1
    rw [List.flatten_append, List.length_append]
    have := h.hi
    simp at h1 ⊢
    omega
  · rw [List.map_append, List.map_cons, List.map_nil, bts_snoc, List.flatten_append]
    refine PrtsV.append _ _ _ _ (prts_grow h.ps hg (fun k hk => .inl hk) ?_) ?_
    · rintro k (hk | hk)
      · rcases hp with e | e
        · exact .inl (.inl (e.symm.trans hk))
        · rw [e] at hk
          exact .inr (by cases hk; exact Nat.le_refl _)
      · simp [Value.ownBlock] at hk
    · obtain ⟨A, c, rfl, h1, h2, h3⟩ := own_form o8'
      have hB := Byt.of_own o8'
      refine ⟨_, [], rfl, ⟨A, _, c, rfl, ⟨hB.1, fun hn => ?_⟩, h1, h2, h3⟩, rfl⟩
      obtain ⟨b, o, rfl, _, hc⟩ := hB.2 hn
      refine ⟨b, o, rfl, ?_, hc⟩
      rintro (hk | hk)
      · refine own_two h7 o8' (by decide) hk ?_
        rcases o8'.2 with ⟨e, _⟩ | ⟨g, cap, cur', e, _⟩
        · cases e
        · cases e; rfl
      · simp [Value.ownBlock] at hk
theorem TornS.box (h : TornS W l j i K cs cur xs v7 v8 wr) {r : Rc} (hr : l[i]? = some r) (hok : okRc r) (hch : Chain (l.take (i + 1))) {v8' : Value} {m : Nat} (h8 : w'.ownsRow W.heap.size 5 1 v8' m ((segB cur).map bv ++ (boxC (encC r)).map bv)) (hg : wr.grownBy w' v8.ownBlock) (hp : v8'.ownBlock = v8.ownBlock ∨ v8'.ownBlock = some wr.heap.size) :
    TornS W l j (i + 1) K cs (cur ++ [r]) xs v7 v8' w' := by
  have hs : l.take (i + 1) = l.take i ++ [r] := by rw [List.take_add_one, hr]; rfl
  have hm : m = (segB (cur ++ [r])).length := by rw [← own_len h8, segB_snoc]; simp
  refine ⟨(List.getElem?_eq_some_iff.1 hr).1, by rw [hs, h.tk, List.append_assoc], h.kk, h.len, ?_, hch, own_stay h.o7 h.o8 (by decide) hg, prts_grow h.ps hg (fun k hk => .inr hk) ?_, ?_, bel_grow h.bel (Nat.le_refl _) h.o8 hg⟩
  · intro q hq
    rw [hs] at hq
    rcases List.mem_append.1 hq with hq | hq
    · exact h.ok q hq
    · rw [List.mem_singleton.1 hq]; exact hok
  · rintro k (hk | hk)
    · exact .inl (.inl hk)
    · rcases hp with e | e
      · exact .inl (.inr (e.symm.trans hk))
      · rw [e] at hk
        exact .inr (by cases hk; exact Nat.le_refl _)
  · rw [← hm, segB_snoc, List.map_append]
    exact h8
end

theorem sumL_append (a b : List (List UInt8)) : sumL (a ++ b) = sumL a + sumL b := by unfold sumL; simp
theorem segs_sum : ∀ (cs : List (List Rc)), (∀ r ∈ cs.flatten, okRc r) → sumL (cs.map segB) ≤ 56 * cs.flatten.length := by
  intro cs
  induction cs with
  | nil => intro _; exact Nat.le_refl _
  | cons c cs ih =>
    intro h
    have h1 := segB_len c (fun r hr => h r (by simp [hr]))
    have h2 := ih (fun r hr => h r (by simp at hr ⊢; exact .inr hr))
    have e : sumL ((c :: cs).map segB) = (segB c).length + sumL (cs.map segB) := rfl
    rw [e, List.flatten_cons, List.length_append]
    omega
section
variable {W wr w' : World} {l : List Rc} {j i K : Nat} {cs : List (List Rc)} {cur : List Rc} {xs : List Value} {v7 v8 : Value}
/-- The last segment, cut off, behind the others. -/
theorem TornS.torn {A8 : Option Addr} {T c8 M : Nat} {v7' : Value} (h : TornS W l j i K cs cur xs v7 (.slice A8 T c8) wr) (hT : (segB cur).length = T) (hM : M ≤ T) (h7 : w'.ownsRow W.heap.size 70 1 v7' (cs.length + 1) (xs ++ [.slice A8 M c8])) (hg : wr.grownBy w' v7.ownBlock) (hp : v7'.ownBlock = v7.ownBlock ∨ v7'.ownBlock = some wr.heap.size) :
    ∃ A9 c9, v7' = .slice A9 (cs.length + 1) c9 ∧ Lst w' (fun k => w'.heap.size ≤ k) A9 (cs.length + 1) (cs.map segB ++ [(segB cur).take M]) ∧ (A9 = none → c9 = 0) ∧ cs.length + 1 ≤ c9 ∧ c9 ≤ maxLen ∧ Below W.heap.size W w' := by
  obtain ⟨A9, c9, rfl, r1, r2, r3⟩ := own_form h7
  refine ⟨A9, c9, rfl, ?_, fun e => (r1 e).2, r2, r3, bel_grow h.bel (Nat.le_refl _) h.o7 hg⟩
  have hsz := hg.size
  have o8' := own_stay h.o8 h.o7 (by decide) hg
  rw [hT] at o8'
  obtain ⟨A, c, e, h1, h2, h3⟩ := own_form o8'
  cases e
  have hB := Byt.of_own o8'
  refine Sls.of_own (xs := xs ++ [.slice A8 M c8]) h7 ?_ (bts_one _) (by rw [bts_len]; simp) (fun k hk => .inr hk)
  rw [bts_snoc, List.flatten_append]
  refine PrtsV.append _ _ _ _ (prts_grow h.ps hg (fun k hk => .inl hk) (fun k hk => .inr (by omega))) ?_
  have hx : BytS w' (fun k => w'.heap.size ≤ k) A8 T (segB cur) := ⟨hB.1, fun hn => by
    obtain ⟨b, o, rfl, hb, hc⟩ := hB.2 hn
    exact ⟨b, o, rfl, by omega, hc⟩⟩
  exact ⟨_, [], rfl, ⟨A8, M, c8, rfl, hx.take hM, fun e => ⟨by have := (h1 e).1; omega, (h1 e).2⟩, by omega, h3⟩, rfl⟩
end

theorem lenB_take_le : ∀ (bs : List (List UInt8)) (m : Nat), lenB (bs.take m) ≤ lenB bs := by
  intro bs
  induction bs with
  | nil => intro m; simp
  | cons b t ih =>
    intro m
    cases m with
    | zero => show (0 : Nat) ≤ _; omega
    | succ m =>
      rw [List.take_succ_cons, lenB_cons, lenB_cons]
      have := ih m
      omega

theorem Rcs.take {w : World} {S : Nat → Prop} {A : Option Addr} {n : Nat} {l : List Rc} (h : Rcs w S A n l) {m : Nat} (hm : m ≤ n) : Rcs w S A m (l.take m) := by
  have := Sls.take h hm
  unfold Rcs rcPs
  rw [List.map_take]
  exact this
theorem Lst.ext {w w' : World} {A : Option Addr} {n : Nat} {l : List (List UInt8)} (h : Lst w (fun k => w.heap.size ≤ k) A n l) (hb : Below w.heap.size w w') : Lst w' (fun k => w'.heap.size ≤ k) A n l :=
  Sls.less (Sls.turn h (S := fun k => w.heap.size ≤ k) ⟨hb.os, hb.tape, hb.output, hb.size, fun k hk _ => hb.block k hk⟩) (fun k hk => Nat.le_trans hb.size hk)

/-- The same, as the loop keeps it. -/
def TornI (W : World) (l : List Rc) (v7 v8 v9 v10 : Value) (wr : World) : Prop :=
  ∃ (i K : Nat) (cs : List (List Rc)) (cur : List Rc) (xs : List Value), v10 = .int .i64 (i : Nat) ∧ v9 = .int .i64 (K : Nat) ∧ TornS W l i i K cs cur xs v7 v8 wr

end Go.Proofs.YthjikbhjciphiaaGreatDoor

/-
  Law 14: awake, WalNobody, by the program's contracts.
-/
namespace Go.Proofs.YthjikbhjciphiaaGreatDoor
open Go.RowKit
set_option linter.unusedVariables false
set_option linter.unusedSimpArgs false

def aw14 : Rc := ⟨0, 5, [97], 0, 0, 0⟩
def aw14j : Jn := ⟨1, 2, 0, [⟨1, 5, [97], 0, 0, 0⟩], 0⟩
theorem held_new (cap : Int) (hc : cap < 9223372036854775808) : OkJ (newDk cap) := ⟨⟨Nat.zero_le _, (show (0 : Nat) < 18446744073709551616 by decide), by show 0 ≤ max cap 0; omega, by show max cap 0 < _; omega⟩, Nat.zero_le _, Nat.zero_le _, 1, [], [], [], rfl, List.Pairwise.nil, fun _ h => (by cases h), by decide, rfl, fun _ h => (by cases h), fun i a b h => by simp at h⟩
theorem open_new (cap : Int) (next : Nat) : openJ (newDk cap) next = (⟨1, max next 1, max next 1 - 1, [], 0⟩, []) := rfl
theorem aw14_put : putJ ⟨1, 1, 0, [], 0⟩ aw14 = ((1, 0), aw14j) := by
  have h : checkC (aw14.at_ 1) = 0 := by decide +kernel
  unfold putJ
  rw [if_pos h]
  rfl
theorem aw14_ok : ∀ r ∈ aw14j.buf, okRc r := by
  intro r hr
  rw [List.mem_singleton.1 hr]
  refine ⟨by decide +kernel, ?_⟩
  unfold Rc.okay
  decide
theorem aw14_held : ∃ pre R0 cur, HeldJ (newDk 1000).files aw14j.own pre R0 cur := ⟨[], [], [], rfl, List.Pairwise.nil, fun _ h => (by cases h), by decide, rfl, fun _ h => (by cases h), fun i a b h => by simp at h⟩
theorem aw14_com : (commitJ (newDk 1000) aw14j).1 = 0 ∧ (commitJ (newDk 1000) aw14j).2.1.calls = 2 ∧ (commitJ (newDk 1000) aw14j).2.2.sure = 1 ∧ OkJ (commitJ (newDk 1000) aw14j).2.1 := by
  have hd : (commitD (newDk 1000) 1 aw14j.buf).1 = 0 ∧ (commitD (newDk 1000) 1 aw14j.buf).2.calls = 2 ∧ OkX 180 (commitD (newDk 1000) 1 aw14j.buf).2 ∧ (commitD (newDk 1000) 1 aw14j.buf).2.files.length = 1 ∧ sizeF (commitD (newDk 1000) 1 aw14j.buf).2.files ≤ 20000 := by unfold OkX; decide +kernel
  have hH1 : HeldJ (newDk 1000).files 1 [] [] [] := ⟨rfl, List.Pairwise.nil, fun _ h => (by cases h), by decide, rfl, fun _ h => (by cases h), fun i a b h => by simp at h⟩
  have hn : aw14j.buf ≠ [] := by decide
  have hch : Chain ([] ++ ([] ++ aw14j.buf)) := fun i a b h1 h2 => by
    have := (List.getElem?_eq_some_iff.1 h2).1
    simp [aw14j] at this
  rcases commit_does hH1 rfl (by decide) aw14j.buf hn with ⟨h1, h2, h3, h6, h4, h5⟩ | ⟨h1, _⟩ | ⟨h1, _⟩
  · refine ⟨hd.1, hd.2.1, ?_, hd.2.2.1, ?_, hd.2.2.2.2, ?_⟩
    · unfold commitJ
      rw [if_pos ⟨hd.1, hn⟩]
      rfl
    · show (commitD (newDk 1000) 1 aw14j.buf).2.files.length ≤ 190
      omega
    · refine ⟨1, [], [], [] ++ aw14j.buf, ?_⟩
      show HeldJ (commitD (newDk 1000) 1 aw14j.buf).2.files 1 [] [] ([] ++ aw14j.buf)
      rw [h4]
      exact hH1.done aw14j.buf hn aw14_ok hch
  · rw [hd.1] at h1; cases h1
  · rw [hd.1] at h1; cases h1

set_option maxRecDepth 100000 in
set_option maxHeartbeats 4000000 in
theorem awake14_any {N : Nat} {I : World → Prop} {PD : World → (Nat → Prop) → Nat → Dk → Prop} {LA : World → (Nat → Prop) → Nat → Nat → Jn → Prop} (C : WalC N I PD LA) (W : World) (hI : I W) (hN : N ≤ W.heap.size) :
    Calls Tryz.prog 8 #[] W fun e W' => e = .returned (.bool true) ∧ Below W.heap.size W W' := by
  have hNew := C.new W 1000 hI hN (by decide) (by decide)
  obtain ⟨c1, c2, c3, c4⟩ := aw14_com
  have hput := aw14_put
  go_enter Tryz.func8, Tryz.ntmps8
  go_wp2_with fail
  refine hNew.mono ?_
  rintro e w1 ⟨q, S, rfl, hP, hS, hb1⟩
  have i1 := C.iturn hI (Turn.of_below (S := fun _ => False) hb1) (fun _ h => h.elim)
  have hO := C.opens w1 S q (newDk 1000) 1 i1 hP (held_new 1000 (by decide)) rfl (by decide) (by decide)
  rw [open_new] at hO
  go_wp2_with fail
  refine hO.mono ?_
  rintro e w2 ⟨p, T, A, n, c, rfl, hL, hT, hR, hnc, hcm, hb2⟩
  obtain rfl : n = 0 := by have := hR.len; exact this.symm
  have i2 := C.iturn i1 (Turn.of_below (S := fun _ => False) hb2) (fun _ h => h.elim)
  have hP2 := C.dturn hP (Turn.of_below (S := fun _ => False) hb2) (fun _ h => h.elim)
  have hU := C.put w2 T p q ⟨1, 1, 0, [], 0⟩ 0 5 ⟨#[97]⟩ 0 0 0 i2 hL (by decide) (by decide) (by unfold Rc.okay; decide) (by decide)
  rw [show (⟨0, 5, (⟨#[97]⟩ : ByteArray).data.toList, 0, 0, 0⟩ : Rc) = aw14 from rfl, hput] at hU
  unfold rcV at hU
  go_wp2_with fail
  refine hU.mono ?_
  rintro e w3 ⟨T3, rfl, hL3, hT3, ht3⟩
  have hs1 := hb1.size
  have hs2 := hb2.size
  have hS1 := (C.dhere hP).2
  have hTN : ∀ k, T k → N ≤ k ∧ ¬ S k := fun k hk => by
    have := hT k hk
    exact ⟨by omega, fun h => by have := (hS1 k h).2; omega⟩
  have i3 := C.iturn i2 ht3 fun k hk => (hTN k hk).1
  have hP3 := C.dturn hP2 ht3 hTN
  have hT3a : ∀ k, T3 k → w1.heap.size ≤ k := fun k hk => by
    rcases hT3 k hk with h | h
    · exact hT k h
    · omega
  have hWt := C.waits w3 T3 p q aw14j hL3
  have hCm := C.commit w3 S T3 p q (newDk 1000) aw14j i3 hP3 hL3 (fun k hk h => by have := (hS1 k hk).2; have := hT3a k h; omega) (held_new 1000 (by decide)) (by decide) aw14_ok aw14_held rfl rfl (by decide)
  rw [show aw14j.buf.length = 1 from rfl] at hWt
  have HB := Lib.hid (show Below W.heap.size W w3 ∧ (∀ k, S k ∨ T3 k → W.heap.size ≤ k) ∧ W.heap.size ≤ w3.heap.size from
    ⟨(bthen hb1 hb2).trans (ht3.below (by omega) fun k hk => by have := hT k hk; omega), fun k hk => by
      rcases hk with h | h
      · exact hS k h
      · have := hT3a k h; omega, by have := ht3.size; omega⟩)
  rw [c1] at hCm
  clear hNew hP hS hb1 i1 hO hL hT hR hnc hcm hb2 i2 hP2 hU hL3 hT3 ht3 hs1 hs2 hS1 hTN i3 hP3 hT3a hput c1
  go_wp2_with fail
  refine hWt.mono ?_
  rintro e w4 ⟨rfl, rfl⟩
  go_wp2_with fail
  refine hCm.mono ?_
  rintro e w5 ⟨S5, T5, rfl, hP5, hL5, hd5, hS5, hT5, ht5⟩
  have hSu := C.sure w5 T5 p q _ hL5
  rw [c3] at hSu
  have hCa := fun k => C.calls (w5.drewN k) S5 q _ (C.dturn hP5 ((Turn.refl (fun _ => False) w5).drewN k) (fun _ h => h.elim)) c4
  rw [c2] at hCa
  have HB5 := Lib.hid (fun k => below_drewN (show Below W.heap.size W w5 from HB.out.1.trans (ht5.below HB.out.2.2 HB.out.2.1)) k)
  clear hP5 hL5 hd5 hS5 hT5 ht5 hCm hWt c2 c3 c4
  go_wp2_with fail
  refine hSu.mono ?_
  rintro e w6 ⟨rfl, k6, rfl⟩
  go_wp2_with fail
  refine (hCa k6).mono ?_
  rintro e w7 ⟨rfl, rfl⟩
  go_wp2_with fail
  go_ret
  exact ⟨rfl, HB5.out k6⟩

set_option maxRecDepth 100000 in
set_option maxHeartbeats 4000000 in
theorem walNobody_law {N : Nat} {I : World → Prop} {PD : World → (Nat → Prop) → Nat → Dk → Prop} {LA : World → (Nat → Prop) → Nat → Nat → Jn → Prop} (C : WalC N I PD LA) (s : Nat) (k : Int) (X : ByteArray) (l n b u : Nat) (W : World) (hI : I W) (hN : N ≤ W.heap.size) (hX : X.size ≤ maxLen) (hu : u < 18446744073709551616) :
    Calls Tryz.prog 6 #[rcV s k X l n b, .int .u64 ((u : Nat) : Int)] W fun e W' => e = .returned (.bool true) ∧ Below W.heap.size W W' := by
  have hb0 : Below W.heap.size W (W.alloc (.cells (rcCs s k X l n b).toArray 35)) := (Below.refl W.heap.size W).alloc (Nat.le_refl _) _
  have i0 := C.iturn hI (Turn.of_below (S := fun _ => False) hb0) (fun _ h => h.elim)
  have hN0 : N ≤ (W.alloc (.cells (rcCs s k X l n b).toArray 35)).heap.size := Nat.le_trans hN hb0.size
  unfold maxLen at hX
  by_cases h100 : 100 < X.size
  · have t1 : (100 : Int) < (X.size : Int) := by omega
    have hA := awake14_any C _ i0 hN0
    have HB := Lib.hid hb0
    clear hI i0 hN0 hN hb0
    unfold rcV
    go_enter Tryz.func6, Tryz.ntmps6
    go_wp2_with fail
    refine hA.mono ?_
    rintro e w1 ⟨rfl, hb1⟩
    have HB1 := Lib.hid (bthen HB.out hb1)
    clear hb1 hA
    go_wp2_with fail
    go_ret
    exact ⟨rfl, HB1.out⟩
  · have t1 : ¬ (100 : Int) < (X.size : Int) := by omega
    have hO := C.nones _ u i0 hu
    unfold rcV
    go_enter Tryz.func6, Tryz.ntmps6
    go_wp2_with fail
    refine hO.mono ?_
    rintro e w1 ⟨v1, rfl, hb1⟩
    have hB1 := bthen hb0 hb1
    have i1 := C.iturn i0 (Turn.of_below (S := fun _ => False) hb1) (fun _ h => h.elim)
    have hNew := C.new w1 9 i1 (Nat.le_trans hN hB1.size) (by decide) (by decide)
    go_wp2_with fail
    refine hNew.mono ?_
    rintro e w2 ⟨q, S, rfl, hP, hS, hb2⟩
    have hB2 := bthen hB1 hb2
    have hCr := C.crash w2 S q (newDk 9) 0 hP (held_new 9 (by decide))
    go_wp2_with fail
    refine hCr.mono ?_
    rintro e w3 ⟨S3, rfl, hP3, hS3, ht3⟩
    have hS1 := hB1.size
    have hB3 := hB2.trans (ht3.below (by have := hB2.size; omega) fun j hj => by have := hS j hj; omega)
    have i3 := C.iturn (C.iturn i1 (Turn.of_below (S := fun _ => False) hb2) (fun _ h => h.elim)) ht3 (fun j hj => by have := hS j hj; omega)
    have hO2 := C.downs w3 S3 q (crashD 0 (newDk 9)) u i3 hP3 (held_new 9 (by decide)) rfl hu
    have hBk : Blk (W.alloc (.cells (rcCs s k X l n b).toArray 35)) W.heap.size 35 (rcCs s k X l n b) := Blk.new W _ _ rfl
    have hlt0 : W.heap.size < (W.alloc (.cells (rcCs s k X l n b).toArray 35)).heap.size := by simp
    have hBk1 := hBk.below hb1 hlt0
    have hlt1 : W.heap.size < w1.heap.size := Nat.lt_of_lt_of_le hlt0 hb1.size
    have hBk3 := ht3.blk (hBk1.below hb2 hlt1) (fun h => by have := hS _ h; omega)
    have hlt3 : W.heap.size < w3.heap.size := by have := hb2.size; have := ht3.size; omega
    have HH := Lib.hid (And.intro hBk3 (And.intro hlt3 (And.intro hB3 i3)))
    have HNl := Lib.hid hN
    clear hI hN hb0 i0 hN0 hO hb1 hB1 i1 hNew hP hS hb2 hB2 hCr hP3 hS3 ht3 hS1 hB3 i3 hBk hlt0 hBk1 hlt1 hBk3 hlt3
    go_wp2_with fail
    refine hO2.mono ?_
    rintro e w4 ⟨v4, rfl, hb4⟩
    have hBk4 := HH.out.1.below hb4 HH.out.2.1
    have hB4 := bthen HH.out.2.2.1 hb4
    have i4 := C.iturn HH.out.2.2.2 (Turn.of_below (S := fun _ => False) hb4) (fun _ h => h.elim)
    have e0 : w4.cell? ⟨W.heap.size, 0, none⟩ = some (.int .u64 (s : Nat)) := hBk4.cell 0
    have e1 : w4.cell? ⟨W.heap.size, 1, none⟩ = some (.int .i64 k) := hBk4.cell 1
    have e2 : w4.cell? ⟨W.heap.size, 2, none⟩ = some (.string X) := hBk4.cell 2
    have e3 : w4.cell? ⟨W.heap.size, 3, none⟩ = some (.int .u64 (l : Nat)) := hBk4.cell 3
    have e4 : w4.cell? ⟨W.heap.size, 4, none⟩ = some (.int .u64 (n : Nat)) := hBk4.cell 4
    have e5 : w4.cell? ⟨W.heap.size, 5, none⟩ = some (.int .u64 (b : Nat)) := hBk4.cell 5
    have H4 := Lib.hid (And.intro hB4 (And.intro i4 (Nat.le_trans (Nat.le_of_lt HH.out.2.1) hb4.size)))
    have hPn := C.putNil w4 s k X l n b
    unfold rcV at hPn
    clear hBk4 hB4 i4 hb4 hO2
    go_wp2_with fail
    refine hPn.mono ?_
    rintro e w5 ⟨rfl, hb5⟩
    have H5 := Lib.hid (And.intro (bthen H4.out.1 hb5) (C.iturn H4.out.2.1 (Turn.of_below (S := fun _ => False) hb5) (fun _ h => h.elim)))
    have d1 := C.commitNil w5
    have d2 := C.nextNil w5
    have d3 := C.sureNil w5
    have d4 := C.waitsNil w5
    have d5 := C.dropNil w5 u hu
    clear e0 e1 e2 e3 e4 e5 hPn hb5
    go_wp2_with fail
    refine d1.mono ?_
    rintro e w6 ⟨rfl, rfl⟩
    go_wp2_with fail
    refine d2.mono ?_
    rintro e w7 ⟨rfl, rfl⟩
    go_wp2_with fail
    refine d3.mono ?_
    rintro e w8 ⟨rfl, rfl⟩
    go_wp2_with fail
    refine d4.mono ?_
    rintro e w9 ⟨rfl, rfl⟩
    go_wp2_with fail
    refine d5.mono ?_
    rintro e w10 ⟨rfl, hb10⟩
    have hB10 := bthen H5.out.1 hb10
    have hA := awake14_any C w10 (C.iturn H5.out.2 (Turn.of_below (S := fun _ => False) hb10) (fun _ h => h.elim)) (Nat.le_trans HNl.out hB10.size)
    have H10 := Lib.hid hB10
    clear hb10 hB10
    go_wp2_with fail
    refine hA.mono ?_
    rintro e w11 ⟨rfl, hb11⟩
    have H11 := Lib.hid (bthen H10.out hb11)
    clear hb11
    go_wp2_with fail
    go_ret
    exact ⟨rfl, H11.out⟩

end Go.Proofs.YthjikbhjciphiaaGreatDoor

/-
  What a journal and its disk hold of the records that were put. No program stands here.
-/
namespace Go.Proofs.YthjikbhjciphiaaGreatDoor
open Go.RowKit
set_option linter.unusedVariables false
set_option linter.unusedSimpArgs false

/-- The records put, numbered from f on: the first ones, as many as 'sure' says, are on the disk, the others buffered. -/
structure JS (m : Dk) (j : Jn) (f : Nat) (put : List Rc) (sure : Nat) : Prop where
  held : ∃ pre R0 cur, HeldJ m.files j.own pre R0 cur ∧ R0 ++ cur = (numR put f).take sure
  buf : j.buf = (numR put f).drop sure
  next : j.next = f + put.length
  last : j.sure = f + sure - 1
  le : sure ≤ put.length
  ok : ∀ r ∈ numR put f, okRc r
  from1 : 1 ≤ f
  small : f + put.length < 9223372036854775808
  own1 : 1 ≤ j.own
  up : m.down = false
  size : j.size = (fileF (nameL j.own) m.files).data.length

theorem numR_at (l : List Rc) (f i : Nat) (hs : f + l.length < 18446744073709551616) (r : Rc) (h : (numR l f)[i]? = some r) : i < l.length ∧ r.seq = f + i := by
  unfold numR at h
  rw [List.getElem?_mapIdx] at h
  obtain ⟨q, hq, rfl⟩ := Option.map_eq_some_iff.1 h
  have hl := (List.getElem?_eq_some_iff.1 hq).1
  refine ⟨hl, ?_⟩
  show (f + i) % 18446744073709551616 = f + i
  exact Nat.mod_eq_of_lt (by omega)
theorem numR_chain (l : List Rc) (f : Nat) (hs : f + l.length < 18446744073709551616) : Chain (numR l f) := by
  intro i a b ha hb
  have h1 := numR_at l f i hs a ha
  have h2 := numR_at l f (i + 1) hs b hb
  omega
section
variable {m : Dk} {j : Jn} {f sure : Nat} {put : List Rc}
theorem JS.nlen (h : JS m j f put sure) : (numR put f).length = put.length := numR_len _ _
theorem JS.blen (h : JS m j f put sure) : j.buf.length = put.length - sure := by rw [h.buf, List.length_drop, numR_len]
/-- A record put. -/
theorem JS.puts (h : JS m j f put sure) (r : Rc) (hr : okRc (r.at_ j.next)) (hs : f + put.length + 1 < 9223372036854775808) : putJ j r = ((j.next, 0), ⟨j.own, j.next + 1, j.sure, j.buf ++ [r.at_ j.next], j.size⟩) ∧ JS m ⟨j.own, j.next + 1, j.sure, j.buf ++ [r.at_ j.next], j.size⟩ f (put ++ [r]) sure := by
  have hn : numR (put ++ [r]) f = numR put f ++ [r.at_ j.next] := by rw [numR_snoc, h.next, Nat.mod_eq_of_lt (by omega)]
  have hsl : sure ≤ (numR put f).length := by rw [numR_len]; exact h.le
  refine ⟨by unfold putJ; rw [if_pos hr.1], ?_, ?_, ?_, h.last, ?_, ?_, h.from1, ?_, h.own1, h.up, h.size⟩
  · obtain ⟨pre, R0, cur, h1, h2⟩ := h.held
    exact ⟨pre, R0, cur, h1, by rw [hn, List.take_append_of_le_length hsl]; exact h2⟩
  · rw [hn, List.drop_append_of_le_length hsl, ← h.buf]
  · show j.next + 1 = _
    rw [h.next, List.length_append, List.length_singleton]; omega
  · have := h.le; rw [List.length_append]; omega
  · rw [hn]
    intro q hq
    rcases List.mem_append.1 hq with hq | hq
    · exact h.ok q hq
    · rw [List.mem_singleton.1 hq]; exact hr
  · rw [List.length_append, List.length_singleton]; omega
theorem JS.files (h : JS m j f put sure) (hb : j.own ≤ 1000) : m.files.length ≤ j.own := by
  obtain ⟨pre, R0, cur, h1, _⟩ := h.held
  have key : ∀ (l : List Nat) (b : Nat), l.Pairwise (· < ·) → (∀ x ∈ l, b ≤ x ∧ x < j.own) → l.length + b ≤ max j.own b := by
    intro l
    induction l with
    | nil => intro b _ _; simp; omega
    | cons x l ih =>
      intro b hp hx
      have h3 := ih (x + 1) (List.pairwise_cons.1 hp).2 fun y hy => ⟨(List.pairwise_cons.1 hp).1 y hy, (hx y (List.mem_cons_of_mem _ hy)).2⟩
      have h4 := hx x List.mem_cons_self
      rw [List.length_cons]
      omega
  have h3 := key (pre.map Prod.fst) 1 h1.rise fun x hx => by
    obtain ⟨p, hp, rfl⟩ := List.mem_map.1 hx
    exact h1.less p hp
  rw [List.length_map] at h3
  have h4 := h.own1
  rw [h1.files, List.length_append, List.length_map]
  split <;> simp <;> omega
/-- A commit: all is sure; or, where there is no room, nothing turned; or, where the disk is armed, it is down. -/
theorem JS.commit (h : JS m j f put sure) (hb : j.own ≤ 1000) (hn : j.buf ≠ []) :
    ((commitJ m j).1 = 0 ∧ JS (commitJ m j).2.1 (commitJ m j).2.2 f put put.length ∧ (commitJ m j).2.1.armed = m.armed ∧ (commitJ m j).2.1.cap = m.cap ∧ (commitJ m j).2.2.own ≤ j.own + 1 ∧ sizeF (commitJ m j).2.1.files = sizeF m.files + (segB j.buf).length ∧ ¬ m.cap - sizeF m.files < ((segB j.buf).length : Int)) ∨
    ((commitJ m j).1 = 10 ∧ JS (commitJ m j).2.1 (commitJ m j).2.2 f put sure ∧ (commitJ m j).2.2 = j ∧ (commitJ m j).2.1.armed = m.armed ∧ (commitJ m j).2.1.cap = m.cap ∧ (commitJ m j).2.1.files = m.files ∧ m.cap - sizeF m.files < ((segB j.buf).length : Int)) ∨
    ((commitJ m j).1 = 19 ∧ m.armed = true ∧ (commitJ m j).2.1.down = true) := by
  obtain ⟨pre, R0, cur, h1, h2⟩ := h.held
  have hfl := h.files hb
  have hok : ∀ r ∈ j.buf, okRc r := fun r hr => h.ok r (List.mem_of_mem_drop (by rw [← h.buf]; exact hr))
  have hall : R0 ++ (cur ++ j.buf) = numR put f := by rw [← List.append_assoc, h2, h.buf, List.take_append_drop]
  have hch : Chain (R0 ++ (cur ++ j.buf)) := by rw [hall]; exact numR_chain _ _ (by have := h.small; omega)
  have hd := h1.done j.buf hn hok hch
  have hsz : ∀ p ∈ [0], sizeF (pre.map sgF ++ [sgF (j.own, segB (cur ++ j.buf))]) = sizeF m.files + (segB j.buf).length := by
    intro _ _
    rw [h1.files]
    unfold sizeF
    rw [List.map_append, List.map_append, List.sum_append, List.sum_append, segB_app]
    split
    · next hc => rw [hc]; simp [sgF, segB_nil]
    · simp [sgF]; omega
  rcases commit_does h1 h.up (by omega) j.buf hn with ⟨k1, k2, k3, k6, k4, k5⟩ | ⟨k1, k2, k3, k6, k4, k5⟩ | ⟨k1, k2, k3, k4⟩
  · left
    have e : (commitJ m j).2.2 = ⟨if 256 ≤ (fileF (nameL j.own) (commitD m j.own j.buf).2.files).data.length then j.own + 1 else j.own, j.next, j.next - 1, [], if 256 ≤ (fileF (nameL j.own) (commitD m j.own j.buf).2.files).data.length then 0 else (fileF (nameL j.own) (commitD m j.own j.buf).2.files).data.length⟩ := by
      unfold commitJ
      rw [if_pos ⟨k1, hn⟩]
    have hne : cur ++ j.buf ≠ [] := by simp [hn]
    refine ⟨k1, ?_, k6, k3, ?_, ?_, k5⟩
    · rw [e]
      have hnl := numR_len put f
      refine ⟨?_, ?_, h.next, ?_, Nat.le_refl _, h.ok, h.from1, h.small, ?_, k2, ?_⟩
      · show ∃ pre R0 cur, HeldJ (commitD m j.own j.buf).2.files _ pre R0 cur ∧ _
        rw [k4, List.take_of_length_le (by omega)]
        by_cases hl : 256 ≤ (fileF (nameL j.own) (pre.map sgF ++ [sgF (j.own, segB (cur ++ j.buf))])).data.length
        · simp only [if_pos hl]
          exact ⟨_, _, [], hd.left hne (by omega) h.own1, by rw [List.append_nil]; exact hall⟩
        · simp only [if_neg hl]
          exact ⟨pre, R0, _, hd, hall⟩
      · show ([] : List Rc) = _
        rw [List.drop_of_length_le (by omega)]
      · show j.next - 1 = _
        rw [h.next]
      · show 1 ≤ _
        have := h.own1
        simp only
        split <;> omega
      · show (if 256 ≤ (fileF (nameL j.own) (commitD m j.own j.buf).2.files).data.length then 0 else (fileF (nameL j.own) (commitD m j.own j.buf).2.files).data.length) = (fileF (nameL (if 256 ≤ (fileF (nameL j.own) (commitD m j.own j.buf).2.files).data.length then j.own + 1 else j.own)) (commitD m j.own j.buf).2.files).data.length
        rw [k4]
        split
        · rw [(hd.left hne (by omega) h.own1).own_file]
          rfl
        · rfl
    · rw [e]
      simp only
      split <;> omega
    · show sizeF (commitD m j.own j.buf).2.files = _
      rw [k4]
      exact hsz 0 (by simp)
  · right; left
    have e : (commitJ m j).2.2 = j := by
      unfold commitJ
      rw [if_neg (fun h => by rw [k1] at h; exact absurd h.1 (by decide))]
    refine ⟨k1, ?_, e, k6, k3, k4, k5⟩
    rw [e]
    refine ⟨⟨pre, R0, cur, ?_, h2⟩, h.buf, h.next, h.last, h.le, h.ok, h.from1, h.small, h.own1, k2, ?_⟩
    · show HeldJ (commitD m j.own j.buf).2.files j.own pre R0 cur
      rw [k4]
      exact h1
    · show j.size = (fileF (nameL j.own) (commitD m j.own j.buf).2.files).data.length
      rw [k4]
      exact h.size
  · right; right
    exact ⟨k1, k2, k3⟩
end

end Go.Proofs.YthjikbhjciphiaaGreatDoor
