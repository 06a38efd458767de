/-
  The statement BoxCut by the program's contracts.
-/
import Derived.Test.YtnmibfncgoemfaaBxD
namespace Go.Proofs.Ytnmibfncgoemfaa
open Go.RowKit
set_option linter.unusedVariables false
set_option linter.unusedSimpArgs false

/-- What is kept while boxes are put. -/
def CutI (W : World) (L : List (List UInt8)) (N : Nat) (v5 v6 v7 v8 : Value) (wr : World) : Prop :=
  ∃ (k : Nat) (A5 : Option Addr) (n5 c5 : Nat) (xs : List Value), v8 = .int .i64 k ∧ k ≤ L.length ∧ (∀ b ∈ L.take k, 1 ≤ b.length ∧ b.length ≤ 200) ∧ v5 = .slice A5 n5 c5 ∧ Byt wr wr.heap.size A5 n5 (boxesC (L.take k)) ∧ (A5 = none → c5 = 0) ∧ n5 ≤ c5 ∧ c5 ≤ maxLen ∧ n5 ≤ 206 * k ∧
    wr.ownsRow W.heap.size 22 1 v6 (bts (cutB (L.take k) N).1).length xs ∧ PrtsV wr (fun j => W.heap.size ≤ j) xs (bts (cutB (L.take k) N).1).flatten ∧ v7 = .int .i64 ((cutB (L.take k) N).2 : Nat) ∧ Below W.heap.size W wr
theorem cutB_len : ∀ (l : List (List UInt8)) (n : Nat), (cutB l n).1.length ≤ l.length := by
  intro l
  induction l with
  | nil => intro n; exact Nat.le_refl _
  | cons b t ih =>
    intro n
    unfold cutB
    split
    · simp; exact ih _
    · simp
/-- Rows of two owners lie apart. -/
theorem own_apart {w1 wr : World} {base n m n' s s' c : Nat} {e e' : TypeId} {v : Value} {A : Option Addr} {xs ys : List Value} (h1 : wr.ownsRow base e s v n xs) (h2 : w1.ownsRow wr.heap.size e' s' (.slice A m c) n' ys) : ∀ b o, A = some ⟨b, o, none⟩ → v.ownBlock ≠ some b := fun b o e e2 => by
  subst e
  have h3 := (h1.lt b e2).2
  have h4 := (h2.lt b rfl).1
  omega
theorem Byt.apart {w w' : World} {A : Option Addr} {n : Nat} {l : List UInt8} {o : Obj} {row : Option Nat} (h : Byt w w.heap.size A n l) (hg : (w.alloc o).grownBy w' row) (hne : ∀ b oo, A = some ⟨b, oo, none⟩ → row ≠ some b) : Byt w' w'.heap.size A n l := by
  have hs := hg.size
  simp at hs
  refine ⟨h.1, fun hn => ?_⟩
  obtain ⟨b, oo, e, hb, hc⟩ := h.2 hn
  refine ⟨b, oo, e, by omega, fun j x hx => ?_⟩
  have h1 := (h.alloc (Nat.le_refl _) o).2 hn
  obtain ⟨b', oo', e', _, hc'⟩ := h1
  rw [e] at e'
  cases e'
  exact (World.cell?_of_block (hg.block b (by simp; omega) (fun x => hne b oo e x.symm))).trans (hc' j x hx)
theorem own_shape {w : World} {base k n : Nat} {e : TypeId} {v : Value} {xs : List Value} (h : w.ownsRow base e k v n xs) : ∃ A c, v = .slice A n c := by
  rcases h.2 with ⟨rfl, rfl⟩ | ⟨g, cap, cur, rfl, _⟩
  · exact ⟨none, 0, rfl⟩
  · exact ⟨_, cap, rfl⟩
theorem take_snoc {α : Type} (L : List α) (k : Nat) (b : α) (h : L[k]? = some b) : L.take (k + 1) = L.take k ++ [b] := by rw [List.take_add_one, h]; rfl

set_option maxRecDepth 100000 in
set_option maxHeartbeats 2000000 in
theorem boxCut_big (C : BoxC) (A : Option Addr) (m c : Nat) (n : Int) (W : World) (hcm : m ≤ maxLen) (hbad : 20 < m ∨ n < 0) :
    Calls Try.prog 5 #[.slice A m c, .int .i64 n] W fun e W' => e = .returned (.bool true) ∧ Below W.heap.size W W' := by
  unfold maxLen at hcm
  have hA := fun w => awake12_any C w
  have hcase : (20 : Int) < (m : Int) ∨ (¬ (20 : Int) < (m : Int) ∧ n < 0) := by omega
  clear hbad
  rcases hcase with g1 | ⟨g1, g2⟩
  all_goals
    go_enter Try.func5, Try.ntmps5
    go_wp2_with (go_at_call 7; refine (hA _).mono ?_; rintro e w ⟨rfl, hb⟩)
    go_ret
    exact ⟨rfl, hb⟩

set_option maxRecDepth 100000 in
set_option maxHeartbeats 2000000 in
theorem boxCut_walk (C : BoxC) (A : Option Addr) (m c : Nat) (L : List (List UInt8)) (N : Nat) (W : World) (hL : Lst W (fun j => W.heap.size ≤ j) A m L) (hm : m ≤ 20) (hN : N ≤ 9223372036854775807) :
    Calls Try.prog 5 #[.slice A m c, .int .i64 N] W fun e W' => e = .returned (.bool true) ∧ Below W.heap.size W W' := by
  obtain ⟨i0, hi, hz0, hz1, hz2⟩ := info_parts Try.infoBs
  have hA := fun w => awake12_any C w
  have HL := Lib.hid hL
  have HLN := Lib.hid hL.len
  have g1 : ¬ (20 : Int) < (m : Int) := by omega
  have g2 : ¬ (N : Int) < 0 := by omega
  clear hL
  go_enter Try.func5, Try.ntmps5
  go_wp2_with fail
  go_loopw [5, 6, 7, 8] (fun v5 v6 v7 v8 wr => CutI W L N v5 v6 v7 v8 wr) (fun _ _ _ i _ => m - (intOf i).toNat)
  case atStart => exact ⟨0, none, 0, 0, [], rfl, Nat.zero_le _, (fun b hb => by cases hb), rfl, Byt.nil, fun _ => rfl, Nat.le_refl _, Nat.zero_le _, Nat.le_refl _, World.ownsRow_nil _ _ _ _, rfl, rfl, Below.refl _ _⟩
  case round =>
    obtain ⟨k, A5, n5, c5, xs, rfl, hk, hall, rfl, hb5, hn5, hnc5, hcm5, hs5, hown, hx, rfl, hb⟩ := hrel
    by_cases hlt : k < m
    · obtain ⟨b, hbk⟩ : ∃ b, L[k]? = some b := ⟨_, List.getElem?_eq_getElem (by have := HLN.out; omega)⟩
      obtain ⟨g, o, A2, n2, c2, rfl, hgS, hgl, p0, hy, hn2, hnc2, hcm2⟩ := HL.out.at_ hbk
      have hg : g < W.heap.size := Nat.not_le.1 hgS
      have q0 := (hb.cell (p := ⟨g, o + k, none⟩) hg).trans p0
      have hlk : (k : Int) < (m : Int) := by omega
      have hbl : b.length = n2 := hy.1
      by_cases hbad : n2 = 0 ∨ 200 < n2
      · have hcase : (200 : Int) < (n2 : Int) ∨ (¬ (200 : Int) < (n2 : Int) ∧ ((n2 : Int) == 0) = true) := by
          rcases hbad with h | h
          · exact .inr ⟨by omega, by simp [h]⟩
          · exact .inl (by omega)
        have HB := Lib.hid hb
        unfold maxLen at hcm2 hcm5
        clear hbad hown hx hb hy hb5 hall hbl hbk
        rcases hcase with k1 | ⟨k1, k2⟩
        all_goals
          go_wp2_with (go_at_call 7; refine (hA _).mono ?_; rintro e w ⟨rfl, hb9⟩)
          go_ret
          exact ⟨rfl, HB.out.trans (hb9.mono HB.out.size)⟩
      · have k1 : ¬ (200 : Int) < (n2 : Int) := by omega
        have k2 : ((n2 : Int) == 0) = false := by simp; omega
        have hyB : Byt wr wr.heap.size A2 n2 b := (Byt.more ((hy.byt).below hb) hb.size)
        have hP := C.put A5 A2 n5 c5 n2 c2 (boxesC (L.take k)) b wr hb5 hn5 hyB (fun h => (hn2 h).2) (by omega) (by omega)
        unfold PutPost at hP
        have e1 : putE b = 0 := by unfold putE; rw [if_neg (by omega), if_neg (by omega)]
        have e2 : putB (boxesC (L.take k)) b = boxesC (L.take (k + 1)) := by unfold putB; rw [if_pos e1, take_snoc L k b hbk, boxesC_snoc]
        rw [e1, e2] at hP
        have hlen : (boxesC (L.take (k + 1))).length = n5 + (n2 + 6) := by rw [take_snoc L k b hbk, boxesC_snoc, List.length_append, boxC_len, hb5.1, hbl]
        obtain ⟨M, hM⟩ : ∃ M, n5 + (n2 + 6) = M := ⟨_, rfl⟩
        rw [hM] at hlen
        have k3 : ¬ (M : Int) ≤ (n5 : Int) := by omega
        have hall' : ∀ x ∈ L.take (k + 1), 1 ≤ x.length ∧ x.length ≤ 200 := by
          rw [take_snoc L k b hbk]
          intro x hx
          rcases List.mem_append.1 hx with h | h
          · exact hall x h
          · obtain rfl := List.mem_singleton.1 h
            omega
        have hlB : lenB (L.take (k + 1)) = M := hlen
        have hMb : M ≤ 206 * (k + 1) ∧ k < 20 := by omega
        have HH := Lib.hid (And.intro hall' (And.intro hlen (And.intro hlB (And.intro hMb (And.intro hown (And.intro hx (And.intro hb (And.intro hy (And.intro hn2 (And.intro hnc2 (And.intro hcm2 hbk)))))))))))
        clear hall' hlen hlB hMb hM e1 e2 hbad hall hb5 hown hx hb hy hyB hbl hs5 p0 hn2
        unfold maxLen at hcm2 hcm5
        go_wp2_with fail
        refine hP.mono ?_
        rintro e w1 ⟨v, mm, rfl, ho, hb1⟩
        obtain ⟨A7, c7, rfl, r1, r2, r3⟩ := own_form ho
        obtain rfl : M = mm := by have := own_len ho; rw [List.length_map, HH.out.2.1] at this; exact this
        obtain ⟨hall', hlen, hlB, hMb, hown, hx, hb, hy, hn2, _, hcm2', hbk⟩ := HH.out
        have hgr : g < wr.heap.size := Nat.lt_of_lt_of_le hg hb.size
        have q1 := (hb1.cell (p := ⟨g, o + k, none⟩) hgr).trans q0
        have hx7 := Byt.of_own ho
        have hbW := hb.trans (hb1.mono hb.size)
        have hown1 := own_below hown hb1
        have hx1 := hx.side (fun j hj => hj) hb hbW
        have hy1 : PrtsV w1 (fun j => W.heap.size ≤ j) [.slice A2 n2 c2] [.byt b] := ⟨_, _, rfl, ⟨A2, n2, c2, rfl, (hy.turn (Turn.of_below ⟨hbW.os, hbW.tape, hbW.output, hbW.size, hbW.block⟩)), hn2, hnc2, hcm2'⟩, rfl⟩
        have hgn : (bts (cutB (L.take k) N).1).length ≤ 1000000 := by have := cutB_len (L.take k) N; rw [bts_len]; rw [List.length_take] at this; omega
        have hbs := hbW.size
        by_cases hfit : M ≤ N
        · have hfi : (M : Int) ≤ (N : Int) := by omega
          have hc1 : cutB (L.take (k + 1)) N = (L.take (k + 1), M) := by rw [cutB_all _ _ (by rw [hlB]; exact hfit), hlB]
          have hc0 : (cutB (L.take k) N).1 = L.take k := by
            rw [cutB_all _ _ (by have := lenB_snoc (L.take k) b; rw [← take_snoc L k b hbk, hlB] at this; omega)]
          rw [hc0] at hown1 hx1 hgn
          have HC := Lib.hid (And.intro hc1 (take_snoc L k b hbk))
          have HM := Lib.hid (And.intro hall' (And.intro hMb (And.intro r1 (And.intro r2 (And.intro r3 (And.intro hx7 (own_apart hown ho)))))))
          clear hc1 hc0 hall' hMb hlen hlB hown hx hb hy hn2 hbk ho r1 hb1 q0 hfit
          go_wp2_with (at_builtin; refine wpList_append_prt2 22 rfl _ _ 32 rfl 22 i0 _ 1 24 Try.underlying32 hi hz0 hz1 hz2 rfl (by decide) (by decide) _ (bts (L.take k)) xs rfl hown1 hx1 hbW hbs (fun j hj => hj) [.slice A2 n2 c2] [.byt b] hy1 rfl rfl hgn ?_; intro v8 w8 h8; have HR := Lib.hid h8; clear h8)
          go_roundw
          case rel =>
            obtain ⟨q1, q2, q3, q4, q5⟩ := HR.out
            obtain ⟨m1, m2, m3, m4, m5, m6, m7⟩ := HM.out
            rw [← bts_snoc, ← HC.out.2] at q1 q2
            refine ⟨k + 1, A7, M, c7, _, by go_num, by have := HLN.out; omega, m1, rfl, Byt.apart m6 q5 m7, (fun h => (m3 h).2), m4, m5, m2.1, by rw [HC.out.1]; exact q1, by rw [HC.out.1]; exact q2, by rw [HC.out.1], q3⟩
          case measure => simp [intOf]; omega
        · have hfi : ¬ (M : Int) ≤ (N : Int) := by omega
          have hc1 : cutB (L.take (k + 1)) N = cutB (L.take k) N := by
            rw [take_snoc L k b hbk]
            exact cutB_snoc _ _ _ (by rw [← take_snoc L k b hbk, hlB]; omega)
          have HM := Lib.hid (And.intro hall' (And.intro hMb (And.intro r1 (And.intro r2 (And.intro r3 (And.intro hx7 (And.intro hown1 (And.intro hx1 (And.intro hbW hc1)))))))))
          clear hc1 hall' hMb hlen hlB hown hx hb hy hn2 hbk ho r1 hb1 q0 hfit hown1 hx1 hbW hx7 hy1 hgn
          go_wp2_with fail
          go_roundw
          case rel =>
            obtain ⟨m1, m2, m3, m4, m5, m6, m7, m8, m9, m10⟩ := HM.out
            exact ⟨k + 1, A7, M, c7, xs, by go_num, by have := HLN.out; omega, m1, rfl, m6, (fun h => (m3 h).2), m4, m5, m2.1, by rw [m10]; exact m7, by rw [m10]; exact m8, by rw [m10], m9⟩
          case measure => simp [intOf]; omega
    · obtain rfl : k = m := by have := HLN.out; omega
      have hall2 : ∀ b ∈ L, 1 ≤ b.length ∧ b.length ≤ 4096 := by
        rw [List.take_of_length_le (by rw [HLN.out]; exact Nat.le_refl _)] at hall
        exact fun b hb => ⟨(hall b hb).1, by have := (hall b hb).2; omega⟩
      rw [List.take_of_length_le (by rw [HLN.out]; exact Nat.le_refl _)] at hb5 hown hx hall ⊢
      have hlk : ¬ (k : Int) < (k : Int) := by omega
      have hnb : n5 ≤ 4200 := by omega
      by_cases hbig : n5 < N
      · have k1 : (n5 : Int) < (N : Int) := by omega
        have HB := Lib.hid hb
        unfold maxLen at hcm5
        clear hb5 hown hx hb hall hall2 hs5
        go_wp2_with (go_at_call 7; refine (hA _).mono ?_; rintro e w ⟨rfl, hb9⟩)
        go_ret
        exact ⟨rfl, HB.out.trans (hb9.mono HB.out.size)⟩
      · have k1 : ¬ (n5 : Int) < (N : Int) := by omega
        have hV := C.valid A5 N c5 ((boxesC L).take N) wr (hb5.take (by omega)) hn5 (by omega) hcm5 (by omega)
        rw [valid_cut L N hall2] at hV
        unfold ValidQ at hV
        have hk5 : (N : Int) ≤ (c5 : Int) := by omega
        have HO := Lib.hid (And.intro hown (And.intro hx (And.intro hb hall)))
        have hsz : (cutB L N).1.length ≤ 1000000 := by have := cutB_len L N; have := HLN.out; omega
        have hpar : ∀ b ∈ (cutB L N).1, b.length ≤ 1000000 := by
          have hv := valid_cut L N hall2
          intro b hb'
          rw [← hv] at hb'
          have h1 := valid_parts _ b hb'
          have h2 := hb5.1
          rw [List.length_take] at h1
          omega
        obtain ⟨z, hz⟩ : ∃ z, cutB L N = z := ⟨_, rfl⟩
        rw [hz] at hV HO hsz hpar ⊢
        obtain ⟨z1, z2⟩ := z
        simp only at hV HO hsz hpar ⊢
        have HP := Lib.hid (And.intro hsz hpar)
        have t1 : ((z2 : Int) == (z2 : Int)) = true := by simp
        clear hb5 hown hx hb hall hall2 hs5 hz hsz hpar
        unfold maxLen at hcm5
        go_wp2_with fail
        refine hV.mono ?_
        rintro e w1 ⟨A1, k1', c1, rfl, hL1, hb1⟩
        obtain ⟨hown, hx, hb, _⟩ := HO.out
        have hown1 := own_below hown hb1
        have hbW := hb.trans (hb1.mono hb.size)
        have hx1 := (hx.side (fun j hj => hj) hb hbW).less (S' := fun _ => False) (fun j h => h.elim)
        obtain ⟨A6, c6, e6⟩ := own_shape hown1
        subst e6
        have hL6 : Lst w1 (fun _ => False) A6 z1.length z1 := by
          have := Sls.of_own hown1 hx1 (bts_one z1) rfl (fun j h => h.elim)
          rwa [bts_len] at this
        rw [bts_len] at *
        obtain rfl : z1.length = k1' := hL1.len
        have hB := Lib.hid hbW
        clear hown hx hb hown1 hx1 hbW hb1
        go_wp2_with (first
          | (go_at_call 16; refine (refLists_true A1 A6 _ c1 c6 z1 _ _ _ hL1 hL6 HP.out.1 HP.out.2).mono ?_; rintro e w8 ⟨rfl, r8, rfl⟩)
          | (go_at_call 7; refine (hA _).mono ?_; rintro e w9 ⟨rfl, hb9⟩))
        go_ret
        exact ⟨rfl, (below_drewN hB.out r8).trans (hb9.mono hB.out.size)⟩

theorem boxCut_law (C : BoxC) (A : Option Addr) (m c : Nat) (L : List (List UInt8)) (n : Int) (W : World) (hL : Lst W (fun j => W.heap.size ≤ j) A m L) (hm : m ≤ maxLen) (hn : n ≤ 9223372036854775807) :
    Calls Try.prog 5 #[.slice A m c, .int .i64 n] W fun e W' => e = .returned (.bool true) ∧ Below W.heap.size W W' := by
  by_cases hbad : 20 < m ∨ n < 0
  · exact boxCut_big C A m c n W hm hbad
  · obtain ⟨N, rfl⟩ := Int.eq_ofNat_of_zero_le (show 0 ≤ n by omega)
    exact boxCut_walk C A m c L N W hL (by omega) (by omega)

end Go.Proofs.Ytnmibfncgoemfaa
