/-
  The library's sort of words: the heap's sort, turning round.
-/
import Derived.Test.YtgococpbhbcpmaaDoorSoB
namespace Go.Proofs.YtgococpbhbcpmaaDoor
open Go.RowKit
set_option linter.unusedVariables false
set_option linter.unusedSimpArgs false

theorem turn_swap0 {W w : World} {g : Nat} (h : Turn (fun k => k = g) W w) (i j : Nat) (u v : Value) : Turn (fun k => k = g) W ((w.setCell ⟨g, i, none⟩ u).setCell ⟨g, j, none⟩ v).drew :=
  let k := (h.setCell (p := ⟨g, i, none⟩) rfl u).setCell (p := ⟨g, j, none⟩) rfl v
  ⟨k.os, k.tape, k.output, k.size, k.block⟩

set_option maxRecDepth 100000 in
set_option maxHeartbeats 8000000 in
theorem heap_any (B g n c a b : Nat) (xs : List Nat) (W : World) (h : RowN W B g n c xs) (hab : a < b) (hb : b ≤ n) (hn : n ≤ 1000000000) :
    Calls Tryd.prog 45 #[.slice (some ⟨g, 0, none⟩) n c, .int .i64 (a : Nat), .int .i64 (b : Nat)] W (SoPost W B g n c fun ys => Sws a b xs ys ∧ Srt a b ys) := by
  obtain ⟨m, hm⟩ : ∃ x, b - a = x := ⟨_, rfl⟩
  obtain ⟨m1, hm1⟩ : ∃ x, m - 1 = x := ⟨_, rfl⟩
  obtain ⟨q, hq⟩ : ∃ x, m1 / 2 = x := ⟨_, rfl⟩
  have e1 : (b : Int) - (a : Int) = (m : Int) := by omega
  have e2 : (m : Int) - 1 = (m1 : Int) := by omega
  have e3 : (m1 : Int) / 2 = (q : Int) := by omega
  have e4 : Int.tdiv (m1 : Int) 2 = (q : Int) := by rw [Int.tdiv_eq_ediv_of_nonneg (by omega)]; exact e3
  have b1 : a ≤ 1000000000 := by omega
  have b2 : b ≤ 1000000000 := by omega
  have b3 : m ≤ 1000000000 := by omega
  have b4 : m1 ≤ 1000000000 := by omega
  have b5 : q ≤ 1000000000 := by omega
  have HM := Lib.hid (show a + m = b ∧ m - 1 = m1 ∧ m1 / 2 = q ∧ 0 < m ∧ b ≤ n ∧ n ≤ 1000000000 from ⟨by omega, hm1, hq, by omega, hb, hn⟩)
  clear hm hm1 hq hab hb hn
  go_enter Tryd.func45, Tryd.ntmps45
  go_wp2_with fail
  go_loopw [9] (fun vi wr => ∃ (t : Nat) (ys : List Nat), vi = .int .i64 ((t : Int) - 1) ∧ t ≤ q + 1 ∧ RowN wr B g n c ys ∧ Turn (fun k => k = g) W wr ∧ Sws a (a + m) xs ys ∧ Hp a t m ys) (fun vi _ => (intOf vi + 1).toNat)
  case atStart => exact ⟨q + 1, xs, by go_num, Nat.le_refl _, h, Turn.refl _ _, .refl _, fun i k h1 h2 h3 => by have := HM.out; unfold Kid at h2; omega⟩
  case round =>
    obtain ⟨t, ys, rfl, htq, hr, ht, hs, hh⟩ := hrel
    cases t with
    | succ s =>
      have hv : (((s + 1 : Nat) : Int) - 1) = (s : Int) := by omega
      rw [hv]
      have hS := sift_any B g n c s m a ys wr hr (by have := HM.out; omega) (by have := HM.out; omega) (by have := HM.out; omega) hh
      have HT := Lib.hid (And.intro ht (And.intro hs htq))
      have hs9 : s ≤ 1000000000 := by omega
      clear hr ht hs hh hv htq h
      go_wp2_with fail
      refine hS.mono ?_
      rintro e w2 ⟨rfl, zs, hr2, ht2, hs2, hh2⟩
      have H2 := Lib.hid (show RowN w2 B g n c zs ∧ Turn (fun k => k = g) W w2 ∧ Sws a (a + m) xs zs ∧ Hp a s m zs from ⟨hr2, HT.out.1.trans ht2, HT.out.2.1.trans hs2, hh2⟩)
      clear hr2 ht2 hs2 hh2
      go_wp2_with fail
      go_roundw
      case rel => exact ⟨s, zs, rfl, by have := HT.out; omega, H2.out.1, H2.out.2.1, H2.out.2.2.1, H2.out.2.2.2⟩
      case measure => simp [intOf] <;> omega
    | zero =>
      rw [show (((0 : Nat) : Int) - 1) = -1 from rfl]
      have H1 := Lib.hid (And.intro hr (And.intro ht (And.intro hs hh)))
      clear hr ht hs hh htq h
      go_wp2_with fail
      obtain ⟨w1, rfl⟩ : ∃ x, x = wr := ⟨_, rfl⟩
      go_loopw [10] (fun vi wr => ∃ (t : Nat) (zs : List Nat), vi = .int .i64 ((t : Int) - 1) ∧ t ≤ m ∧ RowN wr B g n c zs ∧ Turn (fun k => k = g) W wr ∧ Sws a (a + m) xs zs ∧ HeapI a m t zs) (fun vi _ => (intOf vi + 1).toNat)
      case atStart => exact ⟨m, ys, by rw [e2], Nat.le_refl _, H1.out.1, H1.out.2.1, H1.out.2.2.1, H1.out.2.2.2, fun p q h1 h2 h3 => by omega⟩
      case round =>
        obtain ⟨t, zs, rfl, htm, hr, ht, hs, hh⟩ := hrel
        have hb := HM.out
        have hln := hr.len
        cases t with
        | succ s =>
          have hv : (((s + 1 : Nat) : Int) - 1) = (s : Int) := by omega
          rw [hv]
          obtain ⟨p, hp⟩ : ∃ x, a + s = x := ⟨_, rfl⟩
          have g1 : (a : Int) + (s : Int) = (p : Int) := by omega
          have n1 : (p : Int) < (n : Int) := by omega
          have n2 : (a : Int) < (n : Int) := by omega
          have wp : IntKind.i64.wrap (p : Int) = (p : Int) := by rw [IntKind.wrap_i64]; omega
          obtain ⟨x, hx⟩ : ∃ x, atN zs a = x := ⟨_, rfl⟩
          obtain ⟨y, hy⟩ : ∃ y, atN zs p = y := ⟨_, rfl⟩
          have c1 := hr.cell a (by omega) x hx
          have c2 := hr.cell p (by omega) y hy
          have f1 := hr.frozen a
          have f2 := hr.frozen p
          obtain ⟨x3, hx3⟩ : ∃ x, atN (zs.set a y) p = x := ⟨_, rfl⟩
          have c3 := (hr.set a y).cell p (by omega) x3 hx3
          have f3 := (hr.set a y).frozen p
          obtain ⟨k1, k2⟩ := heapI_swap hh (by omega) (by omega)
          rw [hp] at k1 k2
          have HR := hr.swap a p x y hx hy
          have HT := turn_swap0 ht a p (.int .u64 (y : Nat)) (.int .u64 (x : Nat))
          have HRT := Lib.hid (show RowN ((wr.setCell ⟨g, a, none⟩ (.int .u64 (y : Nat))).setCell ⟨g, p, none⟩ (.int .u64 (x : Nat))).drew B g n c (swp zs a p) ∧ Turn (fun k => k = g) W ((wr.setCell ⟨g, a, none⟩ (.int .u64 (y : Nat))).setCell ⟨g, p, none⟩ (.int .u64 (x : Nat))).drew from ⟨HR, HT⟩)
          clear HR HT
          have HS := Lib.hid (show Sws a (a + m) xs (swp zs a p) ∧ Hp a 1 s (swp zs a p) ∧ (∀ p_1 q, p_1 < q → q < m → s ≤ q → atN (swp zs a p) (a + p_1) ≤ atN (swp zs a p) (a + q)) ∧ s < m from ⟨Sws.step a p hs (by omega) (by omega) (by omega) (by omega) (by omega), k1, k2, by omega⟩)
          have hs9 : s ≤ 1000000000 := by omega
          clear hr ht hs hh hv htm hb hln hp hx hy hx3 k1 k2
          go_wp2_with fail
          go_region
          obtain ⟨w2, hw2⟩ : ∃ v, ((wr.setCell ⟨g, a, none⟩ (.int .u64 (y : Nat))).setCell ⟨g, p, none⟩ (.int .u64 (x : Nat))).drew = v := ⟨_, rfl⟩
          rw [hw2] at HRT ⊢
          have hS := sift_any B g n c 0 s a (swp zs a p) w2 HRT.out.1 (by have := HM.out; have := HS.out.2.2.2; omega) (Nat.zero_le _) (by have := HM.out; omega) HS.out.2.1
          clear hw2 c1 c2 c3 f1 f2 f3
          go_wp2_with fail
          refine hS.mono ?_
          rintro e w3 ⟨rfl, us, hr3, ht3, hs3, hh3⟩
          have H3 := Lib.hid (show RowN w3 B g n c us ∧ Turn (fun k => k = g) W w3 ∧ Sws a (a + m) xs us ∧ HeapI a m s us from ⟨hr3, HRT.out.2.trans ht3, HS.out.1.trans (hs3.mono (Nat.le_refl _) (by have := HS.out.2.2.2; omega) (by rw [HRT.out.1.len]; have := HM.out; omega)), hh3, tail_sws HS.out.2.2.1 hs3⟩)
          clear hr3 ht3 hs3 hh3
          go_wp2_with fail
          go_roundw
          case rel => exact ⟨s, us, rfl, by have := HS.out.2.2.2; omega, H3.out.1, H3.out.2.1, H3.out.2.2.1, H3.out.2.2.2⟩
          case measure => simp [intOf] <;> omega
        | zero =>
          rw [show (((0 : Nat) : Int) - 1) = -1 from rfl]
          have hbm : a + m = b := hb.1
          have H3 := Lib.hid (show RowN wr B g n c zs ∧ Turn (fun k => k = g) W wr ∧ Sws a b xs zs ∧ Srt a b zs from ⟨hr, ht, by rw [← hbm]; exact hs, fun i j h1 h2 h3 => by
            have := hh.2 (i - a) (j - a) (by omega) (by omega) (Nat.zero_le _)
            rwa [show a + (i - a) = i by omega, show a + (j - a) = j by omega] at this⟩)
          clear hr ht hs hh htm hb hln hbm
          go_wp2_with fail
          go_end0
          exact ⟨rfl, zs, H3.out.1, H3.out.2.1, H3.out.2.2.1, H3.out.2.2.2⟩

set_option maxRecDepth 100000 in
set_option maxHeartbeats 4000000 in
theorem reverse_any (B g n c a b : Nat) (xs : List Nat) (W : World) (h : RowN W B g n c xs) (hab : a < b) (hb : b ≤ n) (hn : n ≤ 1000000000) :
    Calls Tryd.prog 48 #[.slice (some ⟨g, 0, none⟩) n c, .int .i64 (a : Nat), .int .i64 (b : Nat)] W (SoPost W B g n c fun ys => Sws a b xs ys) := by
  obtain ⟨m, hm⟩ : ∃ x, b - 1 = x := ⟨_, rfl⟩
  have e1 : (b : Int) - 1 = (m : Int) := by omega
  have HM := Lib.hid (show m + 1 = b ∧ a < b ∧ b ≤ n ∧ n ≤ 1000000000 from ⟨by omega, hab, hb, hn⟩)
  have hb9 : b ≤ 1000000000 := by omega
  clear hm hab hb hn
  go_enter Tryd.func48, Tryd.ntmps48
  go_wp2_with fail
  go_loopw [6, 7] (fun vi vj wr => ∃ (i j : Nat) (ys : List Nat), vi = .int .i64 i ∧ vj = .int .i64 j ∧ a ≤ i ∧ j < b ∧ i ≤ j + 1 ∧ RowN wr B g n c ys ∧ Turn (fun k => k = g) W wr ∧ Sws a b xs ys) (fun vi vj _ => b - (intOf vi).toNat)
  case atStart => exact ⟨a, m, xs, rfl, rfl, Nat.le_refl _, by have := HM.out; omega, by have := HM.out; omega, h, Turn.refl _ _, .refl _⟩
  case round =>
    obtain ⟨i, j, ys, rfl, rfl, hai, hjb, hij, hr, ht, hs⟩ := hrel
    have hb := HM.out
    have hln := hr.len
    by_cases hlt : i < j
    · have t1 : (i : Int) < (j : Int) := by omega
      obtain ⟨x, hx⟩ : ∃ x, atN ys i = x := ⟨_, rfl⟩
      obtain ⟨y, hy⟩ : ∃ y, atN ys j = y := ⟨_, rfl⟩
      have c1 := hr.cell i (by omega) x hx
      have c2 := hr.cell j (by omega) y hy
      have f1 := hr.frozen i
      have f2 := hr.frozen j
      obtain ⟨x3, hx3⟩ : ∃ x, atN (ys.set i y) j = x := ⟨_, rfl⟩
      have c3 := (hr.set i y).cell j (by omega) x3 hx3
      have f3 := (hr.set i y).frozen j
      obtain ⟨j1, hj1⟩ : ∃ x, j - 1 = x := ⟨_, rfl⟩
      have g1 : (j : Int) - 1 = (j1 : Int) := by omega
      have hin : (i : Int) < (n : Int) := by omega
      have hjn : (j : Int) < (n : Int) := by omega
      have hi9 : i ≤ 1000000000 := by omega
      have hj9 : j ≤ 1000000000 := by omega
      have HR := hr.swap i j x y hx hy
      have HT := turn_swap0 ht i j (.int .u64 (y : Nat)) (.int .u64 (x : Nat))
      have HRT := Lib.hid (show RowN ((wr.setCell ⟨g, i, none⟩ (.int .u64 (y : Nat))).setCell ⟨g, j, none⟩ (.int .u64 (x : Nat))).drew B g n c (swp ys i j) ∧ Turn (fun k => k = g) W ((wr.setCell ⟨g, i, none⟩ (.int .u64 (y : Nat))).setCell ⟨g, j, none⟩ (.int .u64 (x : Nat))).drew from ⟨HR, HT⟩)
      have HS := Lib.hid (show Sws a b xs (swp ys i j) ∧ a ≤ i + 1 ∧ j1 < b ∧ i + 1 ≤ j1 + 1 ∧ i < b from ⟨Sws.step i j hs (by omega) (by omega) (by omega) (by omega) (by omega), by omega, by omega, by omega, by omega⟩)
      clear HR HT hr ht hs hai hjb hij hb hln hlt hx hy hx3 hj1
      go_wp2_with fail
      go_region
      go_wp2_with fail
      go_roundw
      case rel => exact ⟨i + 1, j1, swp ys i j, by go_num, rfl, HS.out.2.1, HS.out.2.2.1, HS.out.2.2.2.1, HRT.out.1, HRT.out.2, HS.out.1⟩
      case measure => have := HS.out.2.2.2.2; simp [intOf]; omega
    · have t1 : ¬ (i : Int) < (j : Int) := by omega
      have H3 := Lib.hid (show RowN wr B g n c ys ∧ Turn (fun k => k = g) W wr ∧ Sws a b xs ys from ⟨hr, ht, hs⟩)
      clear hr ht hs hai hjb hij hb hln hlt
      go_wp2_with fail
      go_end0
      exact ⟨rfl, ys, H3.out.1, H3.out.2.1, H3.out.2.2⟩

end Go.Proofs.YtgococpbhbcpmaaDoor
