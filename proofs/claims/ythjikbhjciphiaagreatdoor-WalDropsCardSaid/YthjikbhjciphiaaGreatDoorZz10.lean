/-
  The library's sort of words: the heap's sort, turning round.
-/
import Derived.Test.YthjikbhjciphiaaGreatDoorZz9
import Derived.Test.YthjikbhjciphiaaGreatDoorZz7
namespace Go.Proofs.YthjikbhjciphiaaGreatDoor
open Go.RowKit
set_option linter.unusedVariables false
set_option linter.unusedSimpArgs false

theorem turn_swap0 {W w : World} {g : Nat} (h : Turn (fun k => k = g) W w) (i j : Nat) (u v : Value) : Turn (fun k => k = g) W ((w.setCell ⟨g, i, none⟩ u).setCell ⟨g, j, none⟩ v).drew :=
  let k := (h.setCell (p := ⟨g, i, none⟩) rfl u).setCell (p := ⟨g, j, none⟩) rfl v
  ⟨k.os, k.tape, k.output, k.size, k.block⟩

set_option maxRecDepth 100000 in
set_option maxHeartbeats 8000000 in
theorem heap_any (B g n c a b : Nat) (xs : List Nat) (W : World) (h : RowN W B g n c xs) (hab : a < b) (hb : b ≤ n) (hn : n ≤ 1000000000) :
    Calls Tryz.prog 103 #[.slice (some ⟨g, 0, none⟩) n c, .int .i64 (a : Nat), .int .i64 (b : Nat)] W (SoPost W B g n c fun ys => Sws a b xs ys ∧ Srt a b ys) := by
  obtain ⟨m, hm⟩ : ∃ x, b - a = x := ⟨_, rfl⟩
  obtain ⟨m1, hm1⟩ : ∃ x, m - 1 = x := ⟨_, rfl⟩
  obtain ⟨q, hq⟩ : ∃ x, m1 / 2 = x := ⟨_, rfl⟩
  have e1 : (b : Int) - (a : Int) = (m : Int) := by omega
  have e2 : (m : Int) - 1 = (m1 : Int) := by omega
  have e3 : (m1 : Int) / 2 = (q : Int) := by omega
  have e4 : Int.tdiv (m1 : Int) 2 = (q : Int) := by rw [Int.tdiv_eq_ediv_of_nonneg (by omega)]; exact e3
  have b1 : a ≤ 1000000000 := by omega
  have b2 : b ≤ 1000000000 := by omega
  have b3 : m ≤ 1000000000 := by omega
  have b4 : m1 ≤ 1000000000 := by omega
  have b5 : q ≤ 1000000000 := by omega
  have HM := Lib.hid (show a + m = b ∧ m - 1 = m1 ∧ m1 / 2 = q ∧ 0 < m ∧ b ≤ n ∧ n ≤ 1000000000 from ⟨by omega, hm1, hq, by omega, hb, hn⟩)
  clear hm hm1 hq hab hb hn
  go_enter Tryz.func103, Tryz.ntmps103
  go_wp2_with fail
  go_loopw [9] (fun vi wr => ∃ (t : Nat) (ys : List Nat), vi = .int .i64 ((t : Int) - 1) ∧ t ≤ q + 1 ∧ RowN wr B g n c ys ∧ Turn (fun k => k = g) W wr ∧ Sws a (a + m) xs ys ∧ Hp a t m ys) (fun vi _ => (intOf vi + 1).toNat)
  case atStart => exact ⟨q + 1, xs, by go_num, Nat.le_refl _, h, Turn.refl _ _, .refl _, fun i k h1 h2 h3 => by have := HM.out; unfold Kid at h2; omega⟩
  case round =>
    obtain ⟨t, ys, rfl, htq, hr, ht, hs, hh⟩ := hrel
    cases t with
    | succ s =>
      have hv : (((s + 1 : Nat) : Int) - 1) = (s : Int) := by omega
      rw [hv]
      have hS := sift_any B g n c s m a ys wr hr (by have := HM.out; omega) (by have := HM.out; omega) (by have := HM.out; omega) hh
      have HT := Lib.hid (And.intro ht (And.intro hs htq))
      have hs9 : s ≤ 1000000000 := by omega
      clear hr ht hs hh hv htq h
      go_wp2_with fail
      refine hS.mono ?_
      rintro e w2 ⟨rfl, zs, hr2, ht2, hs2, hh2⟩
      have H2 := Lib.hid (show RowN w2 B g n c zs ∧ Turn (fun k => k = g) W w2 ∧ Sws a (a + m) xs zs ∧ Hp a s m zs from ⟨hr2, HT.out.1.trans ht2, HT.out.2.1.trans hs2, hh2⟩)
      clear hr2 ht2 hs2 hh2
      go_wp2_with fail
      go_roundw
      case rel => exact ⟨s, zs, rfl, by have := HT.out; omega, H2.out.1, H2.out.2.1, H2.out.2.2.1, H2.out.2.2.2⟩
      case measure => simp [intOf] <;> omega
    | zero =>
      rw [show (((0 : Nat) : Int) - 1) = -1 from rfl]
      have H1 := Lib.hid (And.intro hr (And.intro ht (And.intro hs hh)))
      clear hr ht hs hh htq h
      go_wp2_with fail
      obtain ⟨w1, rfl⟩ : ∃ x, x = wr := ⟨_, rfl⟩
      go_loopw [10] (fun vi wr => ∃ (t : Nat) (zs : List Nat), vi = .int .i64 ((t : Int) - 1) ∧ t ≤ m ∧ RowN wr B g n c zs ∧ Turn (fun k => k = g) W wr ∧ Sws a (a + m) xs zs ∧ HeapI a m t zs) (fun vi _ => (intOf vi + 1).toNat)
      case atStart => exact ⟨m, ys, by rw [e2], Nat.le_refl _, H1.out.1, H1.out.2.1, H1.out.2.2.1, H1.out.2.2.2, fun p q h1 h2 h3 => by omega⟩
      case round =>
        obtain ⟨t, zs, rfl, htm, hr, ht, hs, hh⟩ := hrel
        have hb := HM.out
        have hln := hr.len
        cases t with
        | succ s =>
          have hv : (((s + 1 : Nat) : Int) - 1) = (s : Int) := by omega
          rw [hv]
          obtain ⟨p, hp⟩ : ∃ x, a + s = x := ⟨_, rfl⟩
          have g1 : (a : Int) + (s : Int) = (p : Int) := by omega
          have n1 : (p : Int) < (n : Int) := by omega
          have n2 : (a : Int) < (n : Int) := by omega
          have wp : IntKind.i64.wrap (p : Int) = (p : Int) := by rw [IntKind.wrap_i64]; omega
          obtain ⟨x, hx⟩ : ∃ x, atN zs a = x := ⟨_, rfl⟩
          obtain ⟨y, hy⟩ : ∃ y, atN zs p = y := ⟨_, rfl⟩
          have c1 := hr.cell a (by omega) x hx
          have c2 := hr.cell p (by omega) y hy
          have f1 := hr.frozen a
          have f2 := hr.frozen p
          obtain ⟨x3, hx3⟩ : ∃ x, atN (zs.set a y) p = x := ⟨_, rfl⟩
          have c3 := (hr.set a y).cell p (by omega) x3 hx3
          have f3 := (hr.set a y).frozen p
          obtain ⟨k1, k2⟩ := heapI_swap hh (by omega) (by omega)
          rw [hp] at k1 k2
          have HR := hr.swap a p x y hx hy
          have HT := turn_swap0 ht a p (.int .u64 (y : Nat)) (.int .u64 (x : Nat))
          have HRT := Lib.hid (show RowN ((wr.setCell ⟨g, a, none⟩ (.int .u64 (y : Nat))).setCell ⟨g, p, none⟩ (.int .u64 (x : Nat))).drew B g n c (swp zs a p) ∧ Turn (fun k => k = g) W ((wr.setCell ⟨g, a, none⟩ (.int .u64 (y : Nat))).setCell ⟨g, p, none⟩ (.int .u64 (x : Nat))).drew from ⟨HR, HT⟩)
          clear HR HT
          have HS := Lib.hid (show Sws a (a + m) xs (swp zs a p) ∧ Hp a 1 s (swp zs a p) ∧ (∀ p_1 q, p_1 < q → q < m → s ≤ q → atN (swp zs a p) (a + p_1) ≤ atN (swp zs a p) (a + q)) ∧ s < m from ⟨Sws.step a p hs (by omega) (by omega) (by omega) (by omega) (by omega), k1, k2, by omega⟩)
          have hs9 : s ≤ 1000000000 := by omega
          clear hr ht hs hh hv htm hb hln hp hx hy hx3 k1 k2
          go_wp2_with fail
          go_region
          obtain ⟨w2, hw2⟩ : ∃ v, ((wr.setCell ⟨g, a, none⟩ (.int .u64 (y : Nat))).setCell ⟨g, p, none⟩ (.int .u64 (x : Nat))).drew = v := ⟨_, rfl⟩
          rw [hw2] at HRT ⊢
          have hS := sift_any B g n c 0 s a (swp zs a p) w2 HRT.out.1 (by have := HM.out; have := HS.out.2.2.2; omega) (Nat.zero_le _) (by have := HM.out; omega) HS.out.2.1
          clear hw2 c1 c2 c3 f1 f2 f3
          go_wp2_with fail
          refine hS.mono ?_
          rintro e w3 ⟨rfl, us, hr3, ht3, hs3, hh3⟩
          have H3 := Lib.hid (show RowN w3 B g n c us ∧ Turn (fun k => k = g) W w3 ∧ Sws a (a + m) xs us ∧ HeapI a m s us from ⟨hr3, HRT.out.2.trans ht3, HS.out.1.trans (hs3.mono (Nat.le_refl _) (by have := HS.out.2.2.2; omega) (by rw [HRT.out.1.len]; have := HM.out; omega)), hh3, tail_sws HS.out.2.2.1 hs3⟩)
          clear hr3 ht3 hs3 hh3
          go_wp2_with fail
          go_roundw
          case rel => exact ⟨s, us, rfl, by have := HS.out.2.2.2; omega, H3.out.1, H3.out.2.1, H3.out.2.2.1, H3.out.2.2.2⟩
          case measure => simp [intOf] <;> omega
        | zero =>
          rw [show (((0 : Nat) : Int) - 1) = -1 from rfl]
          have hbm : a + m = b := hb.1
          have H3 := Lib.hid (show RowN wr B g n c zs ∧ Turn (fun k => k = g) W wr ∧ Sws a b xs zs ∧ Srt a b zs from ⟨hr, ht, by rw [← hbm]; exact hs, fun i j h1 h2 h3 => by
            have := hh.2 (i - a) (j - a) (by omega) (by omega) (Nat.zero_le _)
            rwa [show a + (i - a) = i by omega, show a + (j - a) = j by omega] at this⟩)
          clear hr ht hs hh htm hb hln hbm
          go_wp2_with fail
          go_end0
          exact ⟨rfl, zs, H3.out.1, H3.out.2.1, H3.out.2.2.1, H3.out.2.2.2⟩

set_option maxRecDepth 100000 in
set_option maxHeartbeats 4000000 in
theorem reverse_any (B g n c a b : Nat) (xs : List Nat) (W : World) (h : RowN W B g n c xs) (hab : a < b) (hb : b ≤ n) (hn : n ≤ 1000000000) :
    Calls Tryz.prog 106 #[.slice (some ⟨g, 0, none⟩) n c, .int .i64 (a : Nat), .int .i64 (b : Nat)] W (SoPost W B g n c fun ys => Sws a b xs ys) := by
  obtain ⟨m, hm⟩ : ∃ x, b - 1 = x := ⟨_, rfl⟩
  have e1 : (b : Int) - 1 = (m : Int) := by omega
  have HM := Lib.hid (show m + 1 = b ∧ a < b ∧ b ≤ n ∧ n ≤ 1000000000 from ⟨by omega, hab, hb, hn⟩)
  have hb9 : b ≤ 1000000000 := by omega
  clear hm hab hb hn
  go_enter Tryz.func106, Tryz.ntmps106
  go_wp2_with fail
  go_loopw [6, 7] (fun vi vj wr => ∃ (i j : Nat) (ys : List Nat), vi = .int .i64 i ∧ vj = .int .i64 j ∧ a ≤ i ∧ j < b ∧ i ≤ j + 1 ∧ RowN wr B g n c ys ∧ Turn (fun k => k = g) W wr ∧ Sws a b xs ys) (fun vi vj _ => b - (intOf vi).toNat)
  case atStart => exact ⟨a, m, xs, rfl, rfl, Nat.le_refl _, by have := HM.out; omega, by have := HM.out; omega, h, Turn.refl _ _, .refl _⟩
  case round =>
    obtain ⟨i, j, ys, rfl, rfl, hai, hjb, hij, hr, ht, hs⟩ := hrel
    have hb := HM.out
    have hln := hr.len
    by_cases hlt : i < j
    · have t1 : (i : Int) < (j : Int) := by omega
      obtain ⟨x, hx⟩ : ∃ x, atN ys i = x := ⟨_, rfl⟩
      obtain ⟨y, hy⟩ : ∃ y, atN ys j = y := ⟨_, rfl⟩
      have c1 := hr.cell i (by omega) x hx
      have c2 := hr.cell j (by omega) y hy
      have f1 := hr.frozen i
      have f2 := hr.frozen j
      obtain ⟨x3, hx3⟩ : ∃ x, atN (ys.set i y) j = x := ⟨_, rfl⟩
      have c3 := (hr.set i y).cell j (by omega) x3 hx3
      have f3 := (hr.set i y).frozen j
      obtain ⟨j1, hj1⟩ : ∃ x, j - 1 = x := ⟨_, rfl⟩
      have g1 : (j : Int) - 1 = (j1 : Int) := by omega
      have hin : (i : Int) < (n : Int) := by omega
      have hjn : (j : Int) < (n : Int) := by omega
      have hi9 : i ≤ 1000000000 := by omega
      have hj9 : j ≤ 1000000000 := by omega
      have HR := hr.swap i j x y hx hy
      have HT := turn_swap0 ht i j (.int .u64 (y : Nat)) (.int .u64 (x : Nat))
      have HRT := Lib.hid (show RowN ((wr.setCell ⟨g, i, none⟩ (.int .u64 (y : Nat))).setCell ⟨g, j, none⟩ (.int .u64 (x : Nat))).drew B g n c (swp ys i j) ∧ Turn (fun k => k = g) W ((wr.setCell ⟨g, i, none⟩ (.int .u64 (y : Nat))).setCell ⟨g, j, none⟩ (.int .u64 (x : Nat))).drew from ⟨HR, HT⟩)
      have HS := Lib.hid (show Sws a b xs (swp ys i j) ∧ a ≤ i + 1 ∧ j1 < b ∧ i + 1 ≤ j1 + 1 ∧ i < b from ⟨Sws.step i j hs (by omega) (by omega) (by omega) (by omega) (by omega), by omega, by omega, by omega, by omega⟩)
      clear HR HT hr ht hs hai hjb hij hb hln hlt hx hy hx3 hj1
      go_wp2_with fail
      go_region
      go_wp2_with fail
      go_roundw
      case rel => exact ⟨i + 1, j1, swp ys i j, by go_num, rfl, HS.out.2.1, HS.out.2.2.1, HS.out.2.2.2.1, HRT.out.1, HRT.out.2, HS.out.1⟩
      case measure => have := HS.out.2.2.2.2; simp [intOf]; omega
    · have t1 : ¬ (i : Int) < (j : Int) := by omega
      have H3 := Lib.hid (show RowN wr B g n c ys ∧ Turn (fun k => k = g) W wr ∧ Sws a b xs ys from ⟨hr, ht, hs⟩)
      clear hr ht hs hai hjb hij hb hln hlt
      go_wp2_with fail
      go_end0
      exact ⟨rfl, ys, H3.out.1, H3.out.2.1, H3.out.2.2⟩

end Go.Proofs.YthjikbhjciphiaaGreatDoor

/-
  The library's sort of words: which place is the pivot.
-/
namespace Go.Proofs.YthjikbhjciphiaaGreatDoor
open Go.RowKit
set_option linter.unusedVariables false
set_option linter.unusedSimpArgs false

theorem RowN.turn {S : Nat → Prop} {w w' : World} {B g n c : Nat} {xs : List Nat} (h : RowN w B g n c xs) (ht : Turn S w w') (hS : ¬ S g) : RowN w' B g n c xs := by
  obtain ⟨h1, h2 | ⟨g', cap, cur, hv, hg, hh, r⟩⟩ := h
  · exact ⟨h1, .inl h2⟩
  · cases hv
    exact ⟨h1, .inr ⟨g, c, cur, rfl, hg, (ht.block g (Array.getElem?_eq_some_iff.1 hh).1 hS).trans hh, r⟩⟩
theorem RowN.lt {w : World} {B g n c : Nat} {xs : List Nat} (h : RowN w B g n c xs) : g < w.heap.size := by
  obtain ⟨h1, ⟨h2, _⟩ | ⟨g', cap, cur, hv, hg, hh, r⟩⟩ := h
  · cases h2
  · cases hv
    exact (Array.getElem?_eq_some_iff.1 hh).1

/-- What the choice of a pivot keeps: the row, a counter in a block of its own. -/
def CntI (W : World) (B g n c gs : Nat) (xs : List Nat) (w : World) : Prop := RowN w B g n c xs ∧ Turn (fun k => k = gs) W w ∧ ∃ s : Int, Blk w gs 3 [.int .i64 s]

def Ord2P (W : World) (B g n c gs : Nat) (xs : List Nat) (i j : Nat) (e : Ending) (W' : World) : Prop := ∃ p q : Nat, e = .returned (.tuple #[.int .i64 (p : Nat), .int .i64 (q : Nat)]) ∧ ((p = i ∧ q = j) ∨ (p = j ∧ q = i)) ∧ CntI W B g n c gs xs W'

set_option maxRecDepth 100000 in
set_option maxHeartbeats 2000000 in
theorem order2_any (B g n c gs i j : Nat) (xs : List Nat) (W : World) (h : CntI W B g n c gs xs W) (hg : gs ≠ g) (hi : i < n) (hj : j < n) :
    Calls Tryz.prog 189 #[.slice (some ⟨g, 0, none⟩) n c, .int .i64 (i : Nat), .int .i64 (j : Nat), .pointer (some ⟨gs, 0, none⟩)] W (Ord2P W B g n c gs xs i j) := by
  obtain ⟨hr, ht, s, hb⟩ := h
  obtain ⟨x, hx⟩ : ∃ x, atN xs j = x := ⟨_, rfl⟩
  obtain ⟨y, hy⟩ : ∃ x, atN xs i = x := ⟨_, rfl⟩
  have c1 := hr.cell j hj x hx
  have c2 := hr.cell i hi y hy
  have c3 : W.cell? ⟨gs, 0, none⟩ = some (.int .i64 s) := hb.cell 0
  have f3 := hb.frozen 0
  have hin : (i : Int) < (n : Int) := by omega
  have hjn : (j : Int) < (n : Int) := by omega
  by_cases hc : x < y
  · have hL := lessU_any x y true (decide_eq_true hc)
    obtain ⟨s2, hs2⟩ : ∃ s2, IntKind.i64.wrap (s + 1) = s2 := ⟨_, rfl⟩
    have HS := fun q => Lib.hid (show CntI W B g n c gs xs ((W.drewN q).setCell ⟨gs, 0, none⟩ (.int .i64 s2)) from
      ⟨(hr.drewN q).turn ((Turn.refl (fun k => k = gs) _).setCell (p := ⟨gs, 0, none⟩) rfl _) (fun e => hg e.symm), (ht.drewN q).setCell (p := ⟨gs, 0, none⟩) rfl _, s2, (hb.drewN q).set 0 _⟩)
    clear hr ht hb hx hy hi hj hc
    go_enter Tryz.func189, Tryz.ntmps189
    go_wp2_with fail
    go_quiet (first | (go_at_call 108; exact Calls.quiet_of_same (hL _)))
    go_wp2_with fail
    go_ret2
    exact ⟨j, i, rfl, .inr ⟨rfl, rfl⟩, (HS _).out⟩
  · have hL := lessU_any x y false (decide_eq_false hc)
    have HS := fun q => Lib.hid (show CntI W B g n c gs xs (W.drewN q) from ⟨hr.drewN q, ht.drewN q, s, hb.drewN q⟩)
    clear hr ht hb hx hy hi hj hc
    go_enter Tryz.func189, Tryz.ntmps189
    go_wp2_with fail
    go_quiet (first | (go_at_call 108; exact Calls.quiet_of_same (hL _)))
    go_wp2_with fail
    go_ret2
    exact ⟨i, j, rfl, .inl ⟨rfl, rfl⟩, (HS _).out⟩

theorem CntI.next {W w w' : World} {B g n c gs : Nat} {xs : List Nat} (h : CntI W B g n c gs xs w) (k : CntI w B g n c gs xs w') : CntI W B g n c gs xs w' := ⟨k.1, h.2.1.trans k.2.1, k.2.2⟩
theorem CntI.self {W w : World} {B g n c gs : Nat} {xs : List Nat} (h : CntI W B g n c gs xs w) : CntI w B g n c gs xs w := ⟨h.1, Turn.refl _ _, h.2.2⟩

def MedP (W : World) (B g n c gs : Nat) (xs : List Nat) (i j k : Nat) (e : Ending) (W' : World) : Prop := ∃ r : Nat, e = .returned (.int .i64 (r : Nat)) ∧ (r = i ∨ r = j ∨ r = k) ∧ CntI W B g n c gs xs W'

set_option maxRecDepth 100000 in
set_option maxHeartbeats 2000000 in
theorem median_any (B g n c gs i j k : Nat) (xs : List Nat) (W : World) (h : CntI W B g n c gs xs W) (hg : gs ≠ g) (hi : i < n) (hj : j < n) (hk : k < n) :
    Calls Tryz.prog 155 #[.slice (some ⟨g, 0, none⟩) n c, .int .i64 (i : Nat), .int .i64 (j : Nat), .int .i64 (k : Nat), .pointer (some ⟨gs, 0, none⟩)] W (MedP W B g n c gs xs i j k) := by
  have H := Lib.hid (And.intro hg (And.intro hi (And.intro hj hk)))
  have h1 := order2_any B g n c gs i j xs W h hg hi hj
  clear hg hi hj hk
  go_enter Tryz.func155, Tryz.ntmps155
  go_wp2_with fail
  refine h1.mono ?_
  rintro e w1 ⟨p1, q1, rfl, ho1, hc1⟩
  have h2 := order2_any B g n c gs q1 k xs w1 hc1.self H.out.1 (by have := H.out; omega) H.out.2.2.2
  have HO1 := Lib.hid (And.intro ho1 hc1)
  clear ho1 hc1 h1 h
  go_wp2_with fail
  refine h2.mono ?_
  rintro e w2 ⟨p2, q2, rfl, ho2, hc2⟩
  have h3 := order2_any B g n c gs p1 p2 xs w2 hc2.self H.out.1 (by have := H.out; have := HO1.out.1; omega) (by have := H.out; have := HO1.out.1; omega)
  have HO2 := Lib.hid (And.intro ho2 (HO1.out.2.next hc2))
  clear ho2 hc2 h2
  go_wp2_with fail
  refine h3.mono ?_
  rintro e w3 ⟨p3, q3, rfl, ho3, hc3⟩
  have HO3 := Lib.hid (And.intro ho3 (HO2.out.2.next hc3))
  clear ho3 hc3 h3
  go_wp2_with fail
  go_ret
  refine ⟨q3, rfl, ?_, HO3.out.2⟩
  have := HO1.out.1
  have := HO2.out.1
  have := HO3.out.1
  omega

set_option maxRecDepth 100000 in
theorem medianAdj_any (B g n c gs i : Nat) (xs : List Nat) (W : World) (h : CntI W B g n c gs xs W) (hg : gs ≠ g) (h1 : 1 ≤ i) (hi : i + 1 < n) (hn : n ≤ 1000000000) :
    Calls Tryz.prog 154 #[.slice (some ⟨g, 0, none⟩) n c, .int .i64 (i : Nat), .pointer (some ⟨gs, 0, none⟩)] W (MedP W B g n c gs xs (i - 1) i (i + 1)) := by
  obtain ⟨p, hp⟩ : ∃ x, i - 1 = x := ⟨_, rfl⟩
  obtain ⟨q, hq⟩ : ∃ x, i + 1 = x := ⟨_, rfl⟩
  have g1 : (i : Int) - 1 = (p : Int) := by omega
  have g2 : (i : Int) + 1 = (q : Int) := by omega
  have i9 : i ≤ 1000000000 := by omega
  have p9 : p ≤ 1000000000 := by omega
  have q9 : q ≤ 1000000000 := by omega
  have hM := median_any B g n c gs p i q xs W h hg (by omega) (by omega) (by omega)
  rw [hp, hq]
  clear hp hq h1 hi h
  go_enter Tryz.func154, Tryz.ntmps154
  go_wp2_with fail
  refine hM.mono ?_
  rintro e w1 ⟨r, rfl, ho, hc⟩
  have HO := Lib.hid (And.intro ho hc)
  clear ho hc hM
  go_wp2_with fail
  go_ret
  exact ⟨r, rfl, HO.out.1, HO.out.2⟩

theorem turn_cnt {W w w' : World} {g gs : Nat} (h : Turn (fun k => k = g) W w) (hg : W.heap.size ≤ gs) (k : Turn (fun k => k = gs) w w') : Turn (fun k => k = g) W w' :=
  ⟨k.os.trans h.os, k.tape.trans h.tape, k.output.trans h.output, Nat.le_trans h.size k.size, fun j hj hn => (k.block j (Nat.lt_of_lt_of_le hj h.size) (fun e => by omega)).trans (h.block j hj hn)⟩

def PivP (W : World) (B g n c a b : Nat) (xs : List Nat) (e : Ending) (W' : World) : Prop := ∃ (p : Nat) (h : Int), e = .returned (.tuple #[.int .i64 (p : Nat), .int .i64 h]) ∧ a ≤ p ∧ p < b ∧ RowN W' B g n c xs ∧ Turn (fun k => k = g) W W'

set_option maxRecDepth 100000 in
set_option maxHeartbeats 4000000 in
theorem pivot_any (B g n c a b : Nat) (xs : List Nat) (W : World) (h : RowN W B g n c xs) (hab : a + 8 ≤ b) (hb : b ≤ n) (hn : n ≤ 1000000000) :
    Calls Tryz.prog 105 #[.slice (some ⟨g, 0, none⟩) n c, .int .i64 (a : Nat), .int .i64 (b : Nat)] W (PivP W B g n c a b xs) := by
  obtain ⟨l, hl⟩ : ∃ x, b - a = x := ⟨_, rfl⟩
  obtain ⟨q, hq⟩ : ∃ x, l / 4 = x := ⟨_, rfl⟩
  obtain ⟨q2, hq2⟩ : ∃ x, q * 2 = x := ⟨_, rfl⟩
  obtain ⟨q3, hq3⟩ : ∃ x, q * 3 = x := ⟨_, rfl⟩
  obtain ⟨i, hi⟩ : ∃ x, a + q = x := ⟨_, rfl⟩
  obtain ⟨j, hj⟩ : ∃ x, a + q2 = x := ⟨_, rfl⟩
  obtain ⟨k, hk⟩ : ∃ x, a + q3 = x := ⟨_, rfl⟩
  have e1 : (b : Int) - (a : Int) = (l : Int) := by omega
  have e2 : (l : Int) / 4 = (q : Int) := by omega
  have e3 : Int.tdiv (l : Int) 4 = (q : Int) := by rw [Int.tdiv_eq_ediv_of_nonneg (by omega)]; exact e2
  have e4 : (q : Int) * 2 = (q2 : Int) := by omega
  have e5 : (q : Int) * 3 = (q3 : Int) := by omega
  have e6 : (a : Int) + (q : Int) = (i : Int) := by omega
  have e7 : (a : Int) + (q2 : Int) = (j : Int) := by omega
  have e8 : (a : Int) + (q3 : Int) = (k : Int) := by omega
  have t8 : (8 : Int) ≤ (l : Int) := by omega
  have b1 : a ≤ 1000000000 := by omega
  have b2 : b ≤ 1000000000 := by omega
  have b3 : l ≤ 1000000000 := by omega
  have b4 : q ≤ 1000000000 := by omega
  have b5 : q2 ≤ 1000000000 := by omega
  have b6 : q3 ≤ 1000000000 := by omega
  have b7 : i ≤ 1000000000 := by omega
  have b8 : j ≤ 1000000000 := by omega
  have b9 : k ≤ 1000000000 := by omega
  have HB := Lib.hid (show a + 2 ≤ i ∧ i + 2 ≤ b ∧ a + 2 ≤ j ∧ j + 2 ≤ b ∧ a + 2 ≤ k ∧ k + 2 ≤ b ∧ b ≤ n ∧ n ≤ 1000000000 from ⟨by omega, by omega, by omega, by omega, by omega, by omega, hb, hn⟩)
  have hlt := h.lt
  have hz := Blk.new (cs := [.int .i64 0]) W 3 _ rfl
  have H0 := Lib.hid (show CntI (W.alloc (.cells #[.int .i64 0] 3)) B g n c W.heap.size xs (W.alloc (.cells #[.int .i64 0] 3)) ∧ Turn (fun k => k = g) W (W.alloc (.cells #[.int .i64 0] 3)) from
    ⟨⟨h.below ((Below.refl _ _).alloc (Nat.le_refl _) _), Turn.refl _ _, 0, hz⟩, Turn.of_below ((Below.refl _ _).alloc (Nat.le_refl _) _)⟩)
  have HG := Lib.hid (show W.heap.size ≠ g by omega)
  clear h hab hb hn hl hq hq2 hq3 hi hj hk hlt hz
  go_enter Tryz.func105, Tryz.ntmps105
  have HG2 := Lib.hid (show W.heap.size ≤ W.heap.size from Nat.le_refl _)
  by_cases h50 : 50 ≤ l
  · have t50 : (50 : Int) ≤ (l : Int) := by omega
    have C0 := H0.out.1
    go_wp2_with fail
    refine (medianAdj_any B g n c W.heap.size i xs _ C0 HG.out (by have := HB.out; omega) (by have := HB.out; omega) (by have := HB.out; omega)).mono ?_
    rintro e w1 ⟨i', rfl, ho1, hc1⟩
    have HO1 := Lib.hid (And.intro ho1 hc1)
    clear ho1 hc1
    go_wp2_with fail
    refine (medianAdj_any B g n c W.heap.size j xs _ HO1.out.2.self HG.out (by have := HB.out; omega) (by have := HB.out; omega) (by have := HB.out; omega)).mono ?_
    rintro e w2 ⟨j', rfl, ho2, hc2⟩
    have HO2 := Lib.hid (And.intro ho2 (HO1.out.2.next hc2))
    clear ho2 hc2
    go_wp2_with fail
    refine (medianAdj_any B g n c W.heap.size k xs _ HO2.out.2.self HG.out (by have := HB.out; omega) (by have := HB.out; omega) (by have := HB.out; omega)).mono ?_
    rintro e w3 ⟨k', rfl, ho3, hc3⟩
    have HO3 := Lib.hid (And.intro ho3 (HO2.out.2.next hc3))
    clear ho3 hc3
    have HX := Lib.hid (show a ≤ i' ∧ i' < b ∧ a ≤ j' ∧ j' < b ∧ a ≤ k' ∧ k' < b ∧ b ≤ n from by have := HB.out; have := HO1.out.1; have := HO2.out.1; have := HO3.out.1; omega)
    go_wp2_with fail
    refine (median_any B g n c W.heap.size i' j' k' xs _ HO3.out.2.self HG.out (by have := HX.out; omega) (by have := HX.out; omega) (by have := HX.out; omega)).mono ?_
    rintro e wz ⟨r, rfl, ho, hc⟩
    obtain ⟨s, hs⟩ := hc.2.2
    have hcell : wz.cell? ⟨W.heap.size, 0, none⟩ = some (.int .i64 s) := hs.cell 0
    have HR := Lib.hid (show a ≤ r ∧ r < b ∧ RowN wz B g n c xs ∧ Turn (fun k => k = g) W wz from ⟨by have := HX.out; omega, by have := HX.out; omega, hc.1, turn_cnt H0.out.2 HG2.out (HO3.out.2.next hc).2.1⟩)
    clear ho hc hs
    by_cases hs0 : s = 0
    · have q0 : (s == 0) = true := by rw [hs0]; rfl
      clear hs0
      go_wp2_with fail
      go_ret2
      exact ⟨r, 1, rfl, HR.out.1, HR.out.2.1, HR.out.2.2.1, HR.out.2.2.2⟩
    · have q0 : (s == 0) = false := by simpa using hs0
      clear hs0
      by_cases hs12 : s = 12
      · have q12 : (s == 12) = true := by rw [hs12]; rfl
        clear hs12
        go_wp2_with fail
        go_ret2
        exact ⟨r, 2, rfl, HR.out.1, HR.out.2.1, HR.out.2.2.1, HR.out.2.2.2⟩
      · have q12 : (s == 12) = false := by simpa using hs12
        clear hs12
        go_wp2_with fail
        go_ret2
        exact ⟨r, 0, rfl, HR.out.1, HR.out.2.1, HR.out.2.2.1, HR.out.2.2.2⟩
  · have t50 : ¬ (50 : Int) ≤ (l : Int) := by omega
    have C0 := H0.out.1
    have HX := Lib.hid (show a ≤ i ∧ i < b ∧ a ≤ j ∧ j < b ∧ a ≤ k ∧ k < b ∧ b ≤ n from by have := HB.out; omega)
    go_wp2_with fail
    refine (median_any B g n c W.heap.size i j k xs _ C0 HG.out (by have := HX.out; omega) (by have := HX.out; omega) (by have := HX.out; omega)).mono ?_
    rintro e wz ⟨r, rfl, ho, hc⟩
    obtain ⟨s, hs⟩ := hc.2.2
    have hcell : wz.cell? ⟨W.heap.size, 0, none⟩ = some (.int .i64 s) := hs.cell 0
    have HR := Lib.hid (show a ≤ r ∧ r < b ∧ RowN wz B g n c xs ∧ Turn (fun k => k = g) W wz from ⟨by have := HX.out; omega, by have := HX.out; omega, hc.1, turn_cnt H0.out.2 HG2.out hc.2.1⟩)
    clear ho hc hs
    by_cases hs0 : s = 0
    · have q0 : (s == 0) = true := by rw [hs0]; rfl
      clear hs0
      go_wp2_with fail
      go_ret2
      exact ⟨r, 1, rfl, HR.out.1, HR.out.2.1, HR.out.2.2.1, HR.out.2.2.2⟩
    · have q0 : (s == 0) = false := by simpa using hs0
      clear hs0
      by_cases hs12 : s = 12
      · have q12 : (s == 12) = true := by rw [hs12]; rfl
        clear hs12
        go_wp2_with fail
        go_ret2
        exact ⟨r, 2, rfl, HR.out.1, HR.out.2.1, HR.out.2.2.1, HR.out.2.2.2⟩
      · have q12 : (s == 12) = false := by simpa using hs12
        clear hs12
        go_wp2_with fail
        go_ret2
        exact ⟨r, 0, rfl, HR.out.1, HR.out.2.1, HR.out.2.2.1, HR.out.2.2.2⟩

end Go.Proofs.YthjikbhjciphiaaGreatDoor
