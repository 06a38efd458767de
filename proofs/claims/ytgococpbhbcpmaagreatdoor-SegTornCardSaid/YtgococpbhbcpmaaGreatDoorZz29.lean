/-
  SegTorn: what is kept while its segments are built. No program stands here.
-/
import Derived.Test.YtgococpbhbcpmaaGreatDoorZz28
import Derived.Test.YtgococpbhbcpmaaGreatDoorZz25
import Derived.Test.YtgococpbhbcpmaaGreatDoorZz10
import Derived.Test.YtgococpbhbcpmaaGreatDoorZz19
import Derived.Test.YtgococpbhbcpmaaGreatDoorZz27
namespace Go.Proofs.YtgococpbhbcpmaaGreatDoor
open Go.RowKit
set_option linter.unusedVariables false
set_option linter.unusedSimpArgs false

theorem segB_len (c : List Rc) (h : ∀ r ∈ c, okRc r) : (segB c).length ≤ 56 * c.length := by
  induction c with
  | nil => exact Nat.le_refl _
  | cons r c ih =>
    have h1 := okRc_len r (h r List.mem_cons_self)
    have h2 := ih (fun q hq => h q (List.mem_cons_of_mem _ hq))
    show (boxesC (encC r :: c.map encC)).length ≤ _
    rw [boxesC_cons, List.length_append, boxC_len, List.length_cons]
    unfold segB at h2
    omega
theorem segB_snoc (c : List Rc) (r : Rc) : segB (c ++ [r]) = segB c ++ boxC (encC r) := by unfold segB; rw [List.map_append]; exact boxesC_snoc _ _
/-- Parts off what is turned stay. -/
theorem prts_grow {w w' : World} {row : Option Nat} {S S' : Nat → Prop} {xs : List Value} {ps : List Prt} (h : PrtsV w S xs ps) (hg : w.grownBy w' row) (hr : ∀ k, row = some k → S k) (hs : ∀ k, S' k → S k ∨ w.heap.size ≤ k) : PrtsV w' S' xs ps := by
  have hsz := hg.size
  have h1 : PrtsV w (fun k => S k ∨ w.heap.size ≤ k) xs ps := PrtsV.more h (fun k hk hlt => hk.resolve_right (by omega))
  have h2 : Turn (fun k => S k ∨ w.heap.size ≤ k) w w' := by
    refine ⟨hg.os, hg.tape, hg.output, by omega, fun k hk hn => ?_⟩
    exact hg.block k hk (fun e => hn (.inl (hr k e.symm)))
  exact PrtsV.less (PrtsV.turn h1 h2) hs
theorem own_type {w : World} {base size k r : Nat} {e : TypeId} {v : Value} {xs : List Value} (h : w.ownsRow base e size v k xs) (hr : v.ownBlock = some r) : base ≤ r ∧ r < w.heap.size ∧ ∃ cs fr, w.heap[r]? = some (.cells cs e fr) := by
  rcases h.2 with ⟨rfl, _⟩ | ⟨g, cap, cur, rfl, hb, hg, _⟩
  · simp [Value.ownBlock] at hr
  · obtain rfl : g = r := by simpa [Value.ownBlock] using hr
    exact ⟨hb, (Array.getElem?_eq_some_iff.1 hg).1, _, _, hg⟩
/-- Rows of elements of two types lie apart. -/
theorem own_two {w : World} {b1 s1 n1 b2 s2 n2 r : Nat} {e1 e2 : TypeId} {v1 v2 : Value} {x1 x2 : List Value} (h1 : w.ownsRow b1 e1 s1 v1 n1 x1) (h2 : w.ownsRow b2 e2 s2 v2 n2 x2) (hne : e1 ≠ e2) (hr1 : v1.ownBlock = some r) (hr2 : v2.ownBlock = some r) : False := by
  obtain ⟨_, _, cs, fr, a⟩ := own_type h1 hr1
  obtain ⟨_, _, ds, gr, b⟩ := own_type h2 hr2
  rw [a] at b
  cases b
  exact hne rfl
/-- A row of one's own stays where another one is appended to. -/
theorem own_stay {w w' : World} {b1 s1 n1 b2 s2 n2 : Nat} {e1 e2 : TypeId} {v1 v2 : Value} {x1 x2 : List Value} (h1 : w.ownsRow b1 e1 s1 v1 n1 x1) (h2 : w.ownsRow b2 e2 s2 v2 n2 x2) (hne : e1 ≠ e2) (hg : w.grownBy w' v2.ownBlock) : w'.ownsRow b1 e1 s1 v1 n1 x1 := by
  refine h1.kept hg ?_
  cases h : v1.ownBlock with
  | none => exact .inl (by rcases h1.2 with ⟨rfl, _⟩ | ⟨g, cap, cur, rfl, _⟩; rfl; cases h)
  | some r => exact .inr (fun e => own_two h1 h2 hne h e.symm)
theorem bel_undrew {B : Nat} {a w : World} (h : Below B a.drew w) : Below B a w := ⟨h.os, h.tape, h.output, h.size, h.block⟩
theorem bel_grow {B : Nat} {W wr w' : World} {v : Value} {k s : Nat} {e : TypeId} {xs : List Value} (hb : Below B W wr) (hB : B ≤ W.heap.size) (hown : wr.ownsRow B e s v k xs) (hg : wr.grownBy w' v.ownBlock) : Below B W w' :=
  hb.grown hg (by have := hb.size; omega) fun g hg' => (hown.lt g hg').1

/-- What is wrong with a record at a place. -/
def badB (l : List Rc) (i : Nat) (r : Rc) : Bool := !decide (checkC r = 0) || (match i with | 0 => false | k + 1 => match l[k]? with | none => false | some q => decide (q.seq = 18446744073709551615) || !decide (r.seq = (q.seq + 1) % 18446744073709551616))
theorem badB_ok {l : List Rc} {i : Nat} {r : Rc} (h : badB l i r = false) (hr : l[i]? = some r) (ho : ∀ q ∈ l, q.okay) (hch : Chain (l.take i)) : okRc r ∧ Chain (l.take (i + 1)) := by
  unfold badB at h
  simp only [Bool.or_eq_false_iff, Bool.not_eq_false', decide_eq_true_eq] at h
  refine ⟨⟨h.1, ho r (List.mem_of_getElem? hr)⟩, ?_⟩
  intro k a b ha hb
  rw [List.getElem?_take] at ha hb
  split at hb
  · next hlt =>
    rw [if_pos (by omega)] at ha
    by_cases hk : k + 1 = i
    · subst hk
      have h2 := h.2
      simp only [ha] at h2
      have hao := (ho a (List.mem_of_getElem? ha)).1
      obtain rfl : b = r := by rw [hr] at hb; cases hb; rfl
      simp at h2
      omega
    · refine hch k a b ?_ ?_
      · rw [List.getElem?_take, if_pos (by omega)]; exact ha
      · rw [List.getElem?_take, if_pos (by omega)]; exact hb
  · cases hb

/-- What is kept while segments are built. -/
structure TornS (W : World) (l : List Rc) (j i K : Nat) (cs : List (List Rc)) (cur : List Rc) (xs : List Value) (v7 v8 : Value) (wr : World) : Prop where
  hi : i ≤ l.length
  tk : l.take i = cs.flatten ++ cur
  kk : cs.flatten.length = K
  len : cs.length ≤ j
  ok : ∀ r ∈ l.take i, okRc r
  ch : Chain (l.take i)
  o7 : wr.ownsRow W.heap.size 26 1 v7 cs.length xs
  ps : PrtsV wr (fun x => v7.ownBlock = some x ∨ v8.ownBlock = some x) xs (bts (cs.map segB)).flatten
  o8 : wr.ownsRow W.heap.size 5 1 v8 (segB cur).length ((segB cur).map bv)
  bel : Below W.heap.size W wr

section
variable {W wr w' : World} {l : List Rc} {j i K : Nat} {cs : List (List Rc)} {cur : List Rc} {xs : List Value} {v7 v8 : Value}
theorem TornS.start (W : World) (l : List Rc) : TornS W l 0 0 0 [] [] [] (.slice none 0 0) (.slice none 0 0) W :=
  ⟨Nat.zero_le _, rfl, rfl, Nat.le_refl _, fun r hr => (by cases hr), fun i a b ha _ => (by cases ha), World.ownsRow_nil _ _ _ _, rfl, World.ownsRow_nil _ _ _ _, Below.refl _ _⟩
theorem TornS.below (h : TornS W l j i K cs cur xs v7 v8 wr) (hb : Below wr.heap.size wr w') : TornS W l j i K cs cur xs v7 v8 w' :=
  ⟨h.hi, h.tk, h.kk, h.len, h.ok, h.ch, own_below h.o7 hb, PrtsV.turn h.ps ⟨hb.os, hb.tape, hb.output, hb.size, fun k hk _ => hb.block k hk⟩, own_below h.o8 hb, h.bel.trans (hb.mono h.bel.size)⟩
theorem TornS.mono (h : TornS W l j i K cs cur xs v7 v8 wr) {k : Nat} (hk : j ≤ k) : TornS W l k i K cs cur xs v7 v8 wr :=
  ⟨h.hi, h.tk, h.kk, Nat.le_trans h.len hk, h.ok, h.ch, h.o7, h.ps, h.o8, h.bel⟩
theorem TornS.cut (h : TornS W l j i K cs cur xs v7 v8 wr) {v7' : Value} (h7 : w'.ownsRow W.heap.size 26 1 v7' (cs.length + 1) (xs ++ [v8])) (hg : wr.grownBy w' v7.ownBlock) (hp : v7'.ownBlock = v7.ownBlock ∨ v7'.ownBlock = some wr.heap.size) :
    TornS W l (j + 1) i i (cs ++ [cur]) [] (xs ++ [v8]) v7' (.slice none 0 0) w' := by
  have o8' := own_stay h.o8 h.o7 (by decide) hg
  refine ⟨h.hi, by rw [List.flatten_append, h.tk]; simp, ?_, by have := h.len; simp; omega, h.ok, h.ch, by rw [List.length_append]; exact h7, ?_, World.ownsRow_nil _ _ _ _, bel_grow h.bel (Nat.le_refl _) h.o7 hg⟩
  · have h1 := congrArg List.length h.tk
    rw [List.length_take, List.length_append] at h1
    rw [List.flatten_append, List.length_append]
    have := h.hi
    simp at h1 ⊢
    omega
  · rw [List.map_append, List.map_cons, List.map_nil, bts_snoc, List.flatten_append]
    refine PrtsV.append _ _ _ _ (prts_grow h.ps hg (fun k hk => .inl hk) ?_) ?_
    · rintro k (hk | hk)
      · rcases hp with e | e
        · exact .inl (.inl (e.symm.trans hk))
        · rw [e] at hk
          exact .inr (by cases hk; exact Nat.le_refl _)
      · simp [Value.ownBlock] at hk
    · obtain ⟨A, c, rfl, h1, h2, h3⟩ := own_form o8'
      have hB := Byt.of_own o8'
      refine ⟨_, [], rfl, ⟨A, _, c, rfl, ⟨hB.1, fun hn => ?_⟩, h1, h2, h3⟩, rfl⟩
      obtain ⟨b, o, rfl, _, hc⟩ := hB.2 hn
      refine ⟨b, o, rfl, ?_, hc⟩
      rintro (hk | hk)
      · refine own_two h7 o8' (by decide) hk ?_
        rcases o8'.2 with ⟨e, _⟩ | ⟨g, cap, cur', e, _⟩
        · cases e
        · cases e; rfl
      · simp [Value.ownBlock] at hk
theorem TornS.box (h : TornS W l j i K cs cur xs v7 v8 wr) {r : Rc} (hr : l[i]? = some r) (hok : okRc r) (hch : Chain (l.take (i + 1))) {v8' : Value} {m : Nat} (h8 : w'.ownsRow W.heap.size 5 1 v8' m ((segB cur).map bv ++ (boxC (encC r)).map bv)) (hg : wr.grownBy w' v8.ownBlock) (hp : v8'.ownBlock = v8.ownBlock ∨ v8'.ownBlock = some wr.heap.size) :
    TornS W l j (i + 1) K cs (cur ++ [r]) xs v7 v8' w' := by
  have hs : l.take (i + 1) = l.take i ++ [r] := by rw [List.take_add_one, hr]; rfl
  have hm : m = (segB (cur ++ [r])).length := by rw [← own_len h8, segB_snoc]; simp
  refine ⟨(List.getElem?_eq_some_iff.1 hr).1, by rw [hs, h.tk, List.append_assoc], h.kk, h.len, ?_, hch, own_stay h.o7 h.o8 (by decide) hg, prts_grow h.ps hg (fun k hk => .inr hk) ?_, ?_, bel_grow h.bel (Nat.le_refl _) h.o8 hg⟩
  · intro q hq
    rw [hs] at hq
    rcases List.mem_append.1 hq with hq | hq
    · exact h.ok q hq
    · rw [List.mem_singleton.1 hq]; exact hok
  · rintro k (hk | hk)
    · exact .inl (.inl hk)
    · rcases hp with e | e
      · exact .inl (.inr (e.symm.trans hk))
      · rw [e] at hk
        exact .inr (by cases hk; exact Nat.le_refl _)
  · rw [← hm, segB_snoc, List.map_append]
    exact h8
end

theorem sumL_append (a b : List (List UInt8)) : sumL (a ++ b) = sumL a + sumL b := by unfold sumL; simp
theorem segs_sum : ∀ (cs : List (List Rc)), (∀ r ∈ cs.flatten, okRc r) → sumL (cs.map segB) ≤ 56 * cs.flatten.length := by
  intro cs
  induction cs with
  | nil => intro _; exact Nat.le_refl _
  | cons c cs ih =>
    intro h
    have h1 := segB_len c (fun r hr => h r (by simp [hr]))
    have h2 := ih (fun r hr => h r (by simp at hr ⊢; exact .inr hr))
    have e : sumL ((c :: cs).map segB) = (segB c).length + sumL (cs.map segB) := rfl
    rw [e, List.flatten_cons, List.length_append]
    omega
section
variable {W wr w' : World} {l : List Rc} {j i K : Nat} {cs : List (List Rc)} {cur : List Rc} {xs : List Value} {v7 v8 : Value}
/-- The last segment, cut off, behind the others. -/
theorem TornS.torn {A8 : Option Addr} {T c8 M : Nat} {v7' : Value} (h : TornS W l j i K cs cur xs v7 (.slice A8 T c8) wr) (hT : (segB cur).length = T) (hM : M ≤ T) (h7 : w'.ownsRow W.heap.size 26 1 v7' (cs.length + 1) (xs ++ [.slice A8 M c8])) (hg : wr.grownBy w' v7.ownBlock) (hp : v7'.ownBlock = v7.ownBlock ∨ v7'.ownBlock = some wr.heap.size) :
    ∃ A9 c9, v7' = .slice A9 (cs.length + 1) c9 ∧ Lst w' (fun k => w'.heap.size ≤ k) A9 (cs.length + 1) (cs.map segB ++ [(segB cur).take M]) ∧ (A9 = none → c9 = 0) ∧ cs.length + 1 ≤ c9 ∧ c9 ≤ maxLen ∧ Below W.heap.size W w' := by
  obtain ⟨A9, c9, rfl, r1, r2, r3⟩ := own_form h7
  refine ⟨A9, c9, rfl, ?_, fun e => (r1 e).2, r2, r3, bel_grow h.bel (Nat.le_refl _) h.o7 hg⟩
  have hsz := hg.size
  have o8' := own_stay h.o8 h.o7 (by decide) hg
  rw [hT] at o8'
  obtain ⟨A, c, e, h1, h2, h3⟩ := own_form o8'
  cases e
  have hB := Byt.of_own o8'
  refine Sls.of_own (xs := xs ++ [.slice A8 M c8]) h7 ?_ (bts_one _) (by rw [bts_len]; simp) (fun k hk => .inr hk)
  rw [bts_snoc, List.flatten_append]
  refine PrtsV.append _ _ _ _ (prts_grow h.ps hg (fun k hk => .inl hk) (fun k hk => .inr (by omega))) ?_
  have hx : BytS w' (fun k => w'.heap.size ≤ k) A8 T (segB cur) := ⟨hB.1, fun hn => by
    obtain ⟨b, o, rfl, hb, hc⟩ := hB.2 hn
    exact ⟨b, o, rfl, by omega, hc⟩⟩
  exact ⟨_, [], rfl, ⟨A8, M, c8, rfl, hx.take hM, fun e => ⟨by have := (h1 e).1; omega, (h1 e).2⟩, by omega, h3⟩, rfl⟩
end

theorem lenB_take_le : ∀ (bs : List (List UInt8)) (m : Nat), lenB (bs.take m) ≤ lenB bs := by
  intro bs
  induction bs with
  | nil => intro m; simp
  | cons b t ih =>
    intro m
    cases m with
    | zero => show (0 : Nat) ≤ _; omega
    | succ m =>
      rw [List.take_succ_cons, lenB_cons, lenB_cons]
      have := ih m
      omega

theorem Rcs.take {w : World} {S : Nat → Prop} {A : Option Addr} {n : Nat} {l : List Rc} (h : Rcs w S A n l) {m : Nat} (hm : m ≤ n) : Rcs w S A m (l.take m) := by
  have := Sls.take h hm
  unfold Rcs rcPs
  rw [List.map_take]
  exact this
theorem Lst.ext {w w' : World} {A : Option Addr} {n : Nat} {l : List (List UInt8)} (h : Lst w (fun k => w.heap.size ≤ k) A n l) (hb : Below w.heap.size w w') : Lst w' (fun k => w'.heap.size ≤ k) A n l :=
  Sls.less (Sls.turn h (S := fun k => w.heap.size ≤ k) ⟨hb.os, hb.tape, hb.output, hb.size, fun k hk _ => hb.block k hk⟩) (fun k hk => Nat.le_trans hb.size hk)

/-- The same, as the loop keeps it. -/
def TornI (W : World) (l : List Rc) (v7 v8 v9 v10 : Value) (wr : World) : Prop :=
  ∃ (i K : Nat) (cs : List (List Rc)) (cur : List Rc) (xs : List Value), v10 = .int .i64 (i : Nat) ∧ v9 = .int .i64 (K : Nat) ∧ TornS W l i i K cs cur xs v7 v8 wr

end Go.Proofs.YtgococpbhbcpmaaGreatDoor

/-
  The program's boxes of records.
-/
namespace Go.Proofs.YtgococpbhbcpmaaGreatDoor
open Go.RowKit
set_option linter.unusedVariables false
set_option linter.unusedSimpArgs false

set_option maxRecDepth 100000 in
set_option maxHeartbeats 1000000 in
theorem sbox_no (s : Nat) (k : Int) (T : ByteArray) (l n b : Nat) (W : World) (hS : SV W) (ho : (⟨s, k, T.data.toList, l, n, b⟩ : Rc).okay) (hT : T.size ≤ 10000) (c : Int) (hc : checkC ⟨s, k, T.data.toList, l, n, b⟩ = c) (h0 : c ≠ 0) :
    Calls Tryz.prog 6 #[rcV s k T l n b] W fun e W' => e = .returned (.tuple #[.slice none 0 0, .int .i64 c]) ∧ Below W.heap.size W W' := by
  have hE := fun w hw => encode_no s k T l n b (by unfold maxLen; omega) ho.2.2.2.2.2 w hw c hc h0
  have hB0 := (Below.refl W.heap.size W).alloc (Nat.le_refl _) (.cells (rcCs s k T l n b).toArray 25)
  have hD0 := dk_below hS.1 hB0 (Nat.le_refl _)
  have hq : (c != 0) = true := by simpa using h0
  unfold rcV at hE ⊢
  clear hc h0 ho hT
  go_enter Tryz.func6, Tryz.ntmps6
  go_wp2_with fail
  refine (hE _ hD0).mono ?_
  rintro e w2 ⟨rfl, hb2⟩
  have hB2 := bthen hB0 hb2
  go_wp2_with fail
  go_ret2
  exact ⟨rfl, hB2⟩

set_option maxRecDepth 100000 in
set_option maxHeartbeats 1000000 in
theorem sbox_ok (s : Nat) (k : Int) (T : ByteArray) (l n b : Nat) (W : World) (hS : SV W) (ho : (⟨s, k, T.data.toList, l, n, b⟩ : Rc).okay) (hT : T.size ≤ 10000) (hc : checkC ⟨s, k, T.data.toList, l, n, b⟩ = 0) :
    Calls Tryz.prog 6 #[rcV s k T l n b] W fun e W' => ∃ v m, e = .returned (.tuple #[v, .int .i64 0]) ∧ W'.ownsRow W.heap.size 5 1 v m ((boxC (encC ⟨s, k, T.data.toList, l, n, b⟩)).map bv) ∧ Below W.heap.size W W' := by
  have hE := fun w hw => encode_ok s k T l n b ho.1 ho.2.2.2.1 ho.2.2.2.2.1 ho.2.2.2.2.2 (by unfold maxLen; omega) w hw hc
  have hB0 := (Below.refl W.heap.size W).alloc (Nat.le_refl _) (.cells (rcCs s k T l n b).toArray 25)
  have hD0 := dk_below hS.1 hB0 (Nat.le_refl _)
  have hlen := okRc_len ⟨s, k, T.data.toList, l, n, b⟩ ⟨hc, ho⟩
  obtain ⟨E, hEE⟩ : ∃ E, encC ⟨s, k, T.data.toList, l, n, b⟩ = E := ⟨_, rfl⟩
  rw [hEE] at hE hlen ⊢
  have hpe : putE E = 0 := by unfold putE; rw [if_neg (by omega), if_neg (by omega)]
  have hpb : putB [] E = boxC E := by unfold putB; rw [if_pos hpe]; rfl
  unfold rcV at hE ⊢
  have HP := Lib.hid (And.intro hpe (And.intro hpb hlen))
  clear hc ho hT hEE hpe hpb hlen
  go_enter Tryz.func6, Tryz.ntmps6
  go_wp2_with fail
  refine (hE _ hD0).mono ?_
  rintro e w2 ⟨v2, m2, rfl, ho2, hb2⟩
  have hB2 := bthen hB0 hb2
  obtain ⟨A2, c2, rfl, r1, r2, r3⟩ := own_form ho2
  have hx2 := Byt.of_own ho2
  have hm2 : m2 ≤ 1000000 := by have := hx2.1; have := HP.out.2.2; omega
  have hPut := put12_any none A2 0 0 m2 c2 [] E w2 ⟨rfl, fun h => absurd h (by omega)⟩ (fun _ => rfl) hx2 (fun h => (r1 h).2) (by omega) hm2
  unfold PutPost at hPut
  rw [HP.out.1, HP.out.2.1] at hPut
  have hsz := hB2.size
  clear hm2 r1 r2 r3 hE
  go_wp2_with fail
  refine hPut.mono ?_
  rintro e w3 ⟨v3, m3, rfl, ho3, hb3⟩
  have hB3 := bthen hB2 hb3
  have ho4 := own_mono ho3 hsz
  go_wp2_with fail
  go_ret2
  exact ⟨_, _, rfl, ho4, hB3⟩

theorem sbox_any (s : Nat) (k : Int) (T : ByteArray) (l n b : Nat) (W : World) (hS : SV W) (ho : (⟨s, k, T.data.toList, l, n, b⟩ : Rc).okay) (hT : T.size ≤ 10000) :
    Calls Tryz.prog 6 #[rcV s k T l n b] W fun e W' => ∃ A m c, e = .returned (.tuple #[.slice A m c, .int .i64 (checkC ⟨s, k, T.data.toList, l, n, b⟩)]) ∧
      Byt W' W'.heap.size A m (if checkC ⟨s, k, T.data.toList, l, n, b⟩ = 0 then boxC (encC ⟨s, k, T.data.toList, l, n, b⟩) else []) ∧ (A = none → c = 0) ∧ m ≤ c ∧ c ≤ maxLen ∧ Below W.heap.size W W' := by
  by_cases hc : checkC ⟨s, k, T.data.toList, l, n, b⟩ = 0
  · refine (sbox_ok s k T l n b W hS ho hT hc).mono ?_
    rintro e W' ⟨v, m, rfl, hr, hb⟩
    obtain ⟨A, c, rfl, r1, r2, r3⟩ := own_form hr
    exact ⟨A, m, c, by rw [hc], by rw [if_pos hc]; exact Byt.of_own hr, fun h => (r1 h).2, r2, r3, hb⟩
  · refine (sbox_no s k T l n b W hS ho hT _ rfl hc).mono ?_
    rintro e W' ⟨rfl, hb⟩
    exact ⟨none, 0, 0, rfl, by rw [if_neg hc]; exact ⟨rfl, fun h => absurd h (by omega)⟩, fun _ => rfl, Nat.le_refl _, Nat.zero_le _, hb⟩

end Go.Proofs.YtgococpbhbcpmaaGreatDoor
