/-
  The library's sort of words: which place is the pivot.
-/
import Derived.Test.YthjikbhjciphiaaGreatDoorZz10
import Derived.Test.YthjikbhjciphiaaGreatDoorZz7
namespace Go.Proofs.YthjikbhjciphiaaGreatDoor
open Go.RowKit
set_option linter.unusedVariables false
set_option linter.unusedSimpArgs false

theorem RowN.turn {S : Nat → Prop} {w w' : World} {B g n c : Nat} {xs : List Nat} (h : RowN w B g n c xs) (ht : Turn S w w') (hS : ¬ S g) : RowN w' B g n c xs := by
  obtain ⟨h1, h2 | ⟨g', cap, cur, hv, hg, hh, r⟩⟩ := h
  · exact ⟨h1, .inl h2⟩
  · cases hv
    exact ⟨h1, .inr ⟨g, c, cur, rfl, hg, (ht.block g (Array.getElem?_eq_some_iff.1 hh).1 hS).trans hh, r⟩⟩
theorem RowN.lt {w : World} {B g n c : Nat} {xs : List Nat} (h : RowN w B g n c xs) : g < w.heap.size := by
  obtain ⟨h1, ⟨h2, _⟩ | ⟨g', cap, cur, hv, hg, hh, r⟩⟩ := h
  · cases h2
  · cases hv
    exact (Array.getElem?_eq_some_iff.1 hh).1

/-- What the choice of a pivot keeps: the row, a counter in a block of its own. -/
def CntI (W : World) (B g n c gs : Nat) (xs : List Nat) (w : World) : Prop := RowN w B g n c xs ∧ Turn (fun k => k = gs) W w ∧ ∃ s : Int, Blk w gs 3 [.int .i64 s]

def Ord2P (W : World) (B g n c gs : Nat) (xs : List Nat) (i j : Nat) (e : Ending) (W' : World) : Prop := ∃ p q : Nat, e = .returned (.tuple #[.int .i64 (p : Nat), .int .i64 (q : Nat)]) ∧ ((p = i ∧ q = j) ∨ (p = j ∧ q = i)) ∧ CntI W B g n c gs xs W'

set_option maxRecDepth 100000 in
set_option maxHeartbeats 2000000 in
theorem order2_any (B g n c gs i j : Nat) (xs : List Nat) (W : World) (h : CntI W B g n c gs xs W) (hg : gs ≠ g) (hi : i < n) (hj : j < n) :
    Calls Tryz.prog 189 #[.slice (some ⟨g, 0, none⟩) n c, .int .i64 (i : Nat), .int .i64 (j : Nat), .pointer (some ⟨gs, 0, none⟩)] W (Ord2P W B g n c gs xs i j) := by
  obtain ⟨hr, ht, s, hb⟩ := h
  obtain ⟨x, hx⟩ : ∃ x, atN xs j = x := ⟨_, rfl⟩
  obtain ⟨y, hy⟩ : ∃ x, atN xs i = x := ⟨_, rfl⟩
  have c1 := hr.cell j hj x hx
  have c2 := hr.cell i hi y hy
  have c3 : W.cell? ⟨gs, 0, none⟩ = some (.int .i64 s) := hb.cell 0
  have f3 := hb.frozen 0
  have hin : (i : Int) < (n : Int) := by omega
  have hjn : (j : Int) < (n : Int) := by omega
  by_cases hc : x < y
  · have hL := lessU_any x y true (decide_eq_true hc)
    obtain ⟨s2, hs2⟩ : ∃ s2, IntKind.i64.wrap (s + 1) = s2 := ⟨_, rfl⟩
    have HS := fun q => Lib.hid (show CntI W B g n c gs xs ((W.drewN q).setCell ⟨gs, 0, none⟩ (.int .i64 s2)) from
      ⟨(hr.drewN q).turn ((Turn.refl (fun k => k = gs) _).setCell (p := ⟨gs, 0, none⟩) rfl _) (fun e => hg e.symm), (ht.drewN q).setCell (p := ⟨gs, 0, none⟩) rfl _, s2, (hb.drewN q).set 0 _⟩)
    clear hr ht hb hx hy hi hj hc
    go_enter Tryz.func189, Tryz.ntmps189
    go_wp2_with fail
    go_quiet (first | (go_at_call 108; exact Calls.quiet_of_same (hL _)))
    go_wp2_with fail
    go_ret2
    exact ⟨j, i, rfl, .inr ⟨rfl, rfl⟩, (HS _).out⟩
  · have hL := lessU_any x y false (decide_eq_false hc)
    have HS := fun q => Lib.hid (show CntI W B g n c gs xs (W.drewN q) from ⟨hr.drewN q, ht.drewN q, s, hb.drewN q⟩)
    clear hr ht hb hx hy hi hj hc
    go_enter Tryz.func189, Tryz.ntmps189
    go_wp2_with fail
    go_quiet (first | (go_at_call 108; exact Calls.quiet_of_same (hL _)))
    go_wp2_with fail
    go_ret2
    exact ⟨i, j, rfl, .inl ⟨rfl, rfl⟩, (HS _).out⟩

theorem CntI.next {W w w' : World} {B g n c gs : Nat} {xs : List Nat} (h : CntI W B g n c gs xs w) (k : CntI w B g n c gs xs w') : CntI W B g n c gs xs w' := ⟨k.1, h.2.1.trans k.2.1, k.2.2⟩
theorem CntI.self {W w : World} {B g n c gs : Nat} {xs : List Nat} (h : CntI W B g n c gs xs w) : CntI w B g n c gs xs w := ⟨h.1, Turn.refl _ _, h.2.2⟩

def MedP (W : World) (B g n c gs : Nat) (xs : List Nat) (i j k : Nat) (e : Ending) (W' : World) : Prop := ∃ r : Nat, e = .returned (.int .i64 (r : Nat)) ∧ (r = i ∨ r = j ∨ r = k) ∧ CntI W B g n c gs xs W'

set_option maxRecDepth 100000 in
set_option maxHeartbeats 2000000 in
theorem median_any (B g n c gs i j k : Nat) (xs : List Nat) (W : World) (h : CntI W B g n c gs xs W) (hg : gs ≠ g) (hi : i < n) (hj : j < n) (hk : k < n) :
    Calls Tryz.prog 155 #[.slice (some ⟨g, 0, none⟩) n c, .int .i64 (i : Nat), .int .i64 (j : Nat), .int .i64 (k : Nat), .pointer (some ⟨gs, 0, none⟩)] W (MedP W B g n c gs xs i j k) := by
  have H := Lib.hid (And.intro hg (And.intro hi (And.intro hj hk)))
  have h1 := order2_any B g n c gs i j xs W h hg hi hj
  clear hg hi hj hk
  go_enter Tryz.func155, Tryz.ntmps155
  go_wp2_with fail
  refine h1.mono ?_
  rintro e w1 ⟨p1, q1, rfl, ho1, hc1⟩
  have h2 := order2_any B g n c gs q1 k xs w1 hc1.self H.out.1 (by have := H.out; omega) H.out.2.2.2
  have HO1 := Lib.hid (And.intro ho1 hc1)
  clear ho1 hc1 h1 h
  go_wp2_with fail
  refine h2.mono ?_
  rintro e w2 ⟨p2, q2, rfl, ho2, hc2⟩
  have h3 := order2_any B g n c gs p1 p2 xs w2 hc2.self H.out.1 (by have := H.out; have := HO1.out.1; omega) (by have := H.out; have := HO1.out.1; omega)
  have HO2 := Lib.hid (And.intro ho2 (HO1.out.2.next hc2))
  clear ho2 hc2 h2
  go_wp2_with fail
  refine h3.mono ?_
  rintro e w3 ⟨p3, q3, rfl, ho3, hc3⟩
  have HO3 := Lib.hid (And.intro ho3 (HO2.out.2.next hc3))
  clear ho3 hc3 h3
  go_wp2_with fail
  go_ret
  refine ⟨q3, rfl, ?_, HO3.out.2⟩
  have := HO1.out.1
  have := HO2.out.1
  have := HO3.out.1
  omega

set_option maxRecDepth 100000 in
theorem medianAdj_any (B g n c gs i : Nat) (xs : List Nat) (W : World) (h : CntI W B g n c gs xs W) (hg : gs ≠ g) (h1 : 1 ≤ i) (hi : i + 1 < n) (hn : n ≤ 1000000000) :
    Calls Tryz.prog 154 #[.slice (some ⟨g, 0, none⟩) n c, .int .i64 (i : Nat), .pointer (some ⟨gs, 0, none⟩)] W (MedP W B g n c gs xs (i - 1) i (i + 1)) := by
  obtain ⟨p, hp⟩ : ∃ x, i - 1 = x := ⟨_, rfl⟩
  obtain ⟨q, hq⟩ : ∃ x, i + 1 = x := ⟨_, rfl⟩
  have g1 : (i : Int) - 1 = (p : Int) := by omega
  have g2 : (i : Int) + 1 = (q : Int) := by omega
  have i9 : i ≤ 1000000000 := by omega
  have p9 : p ≤ 1000000000 := by omega
  have q9 : q ≤ 1000000000 := by omega
  have hM := median_any B g n c gs p i q xs W h hg (by omega) (by omega) (by omega)
  rw [hp, hq]
  clear hp hq h1 hi h
  go_enter Tryz.func154, Tryz.ntmps154
  go_wp2_with fail
  refine hM.mono ?_
  rintro e w1 ⟨r, rfl, ho, hc⟩
  have HO := Lib.hid (And.intro ho hc)
  clear ho hc hM
  go_wp2_with fail
  go_ret
  exact ⟨r, rfl, HO.out.1, HO.out.2⟩

theorem turn_cnt {W w w' : World} {g gs : Nat} (h : Turn (fun k => k = g) W w) (hg : W.heap.size ≤ gs) (k : Turn (fun k => k = gs) w w') : Turn (fun k => k = g) W w' :=
  ⟨k.os.trans h.os, k.tape.trans h.tape, k.output.trans h.output, Nat.le_trans h.size k.size, fun j hj hn => (k.block j (Nat.lt_of_lt_of_le hj h.size) (fun e => by omega)).trans (h.block j hj hn)⟩

def PivP (W : World) (B g n c a b : Nat) (xs : List Nat) (e : Ending) (W' : World) : Prop := ∃ (p : Nat) (h : Int), e = .returned (.tuple #[.int .i64 (p : Nat), .int .i64 h]) ∧ a ≤ p ∧ p < b ∧ RowN W' B g n c xs ∧ Turn (fun k => k = g) W W'

set_option maxRecDepth 100000 in
set_option maxHeartbeats 4000000 in
theorem pivot_any (B g n c a b : Nat) (xs : List Nat) (W : World) (h : RowN W B g n c xs) (hab : a + 8 ≤ b) (hb : b ≤ n) (hn : n ≤ 1000000000) :
    Calls Tryz.prog 105 #[.slice (some ⟨g, 0, none⟩) n c, .int .i64 (a : Nat), .int .i64 (b : Nat)] W (PivP W B g n c a b xs) := by
  obtain ⟨l, hl⟩ : ∃ x, b - a = x := ⟨_, rfl⟩
  obtain ⟨q, hq⟩ : ∃ x, l / 4 = x := ⟨_, rfl⟩
  obtain ⟨q2, hq2⟩ : ∃ x, q * 2 = x := ⟨_, rfl⟩
  obtain ⟨q3, hq3⟩ : ∃ x, q * 3 = x := ⟨_, rfl⟩
  obtain ⟨i, hi⟩ : ∃ x, a + q = x := ⟨_, rfl⟩
  obtain ⟨j, hj⟩ : ∃ x, a + q2 = x := ⟨_, rfl⟩
  obtain ⟨k, hk⟩ : ∃ x, a + q3 = x := ⟨_, rfl⟩
  have e1 : (b : Int) - (a : Int) = (l : Int) := by omega
  have e2 : (l : Int) / 4 = (q : Int) := by omega
  have e3 : Int.tdiv (l : Int) 4 = (q : Int) := by rw [Int.tdiv_eq_ediv_of_nonneg (by omega)]; exact e2
  have e4 : (q : Int) * 2 = (q2 : Int) := by omega
  have e5 : (q : Int) * 3 = (q3 : Int) := by omega
  have e6 : (a : Int) + (q : Int) = (i : Int) := by omega
  have e7 : (a : Int) + (q2 : Int) = (j : Int) := by omega
  have e8 : (a : Int) + (q3 : Int) = (k : Int) := by omega
  have t8 : (8 : Int) ≤ (l : Int) := by omega
  have b1 : a ≤ 1000000000 := by omega
  have b2 : b ≤ 1000000000 := by omega
  have b3 : l ≤ 1000000000 := by omega
  have b4 : q ≤ 1000000000 := by omega
  have b5 : q2 ≤ 1000000000 := by omega
  have b6 : q3 ≤ 1000000000 := by omega
  have b7 : i ≤ 1000000000 := by omega
  have b8 : j ≤ 1000000000 := by omega
  have b9 : k ≤ 1000000000 := by omega
  have HB := Lib.hid (show a + 2 ≤ i ∧ i + 2 ≤ b ∧ a + 2 ≤ j ∧ j + 2 ≤ b ∧ a + 2 ≤ k ∧ k + 2 ≤ b ∧ b ≤ n ∧ n ≤ 1000000000 from ⟨by omega, by omega, by omega, by omega, by omega, by omega, hb, hn⟩)
  have hlt := h.lt
  have hz := Blk.new (cs := [.int .i64 0]) W 3 _ rfl
  have H0 := Lib.hid (show CntI (W.alloc (.cells #[.int .i64 0] 3)) B g n c W.heap.size xs (W.alloc (.cells #[.int .i64 0] 3)) ∧ Turn (fun k => k = g) W (W.alloc (.cells #[.int .i64 0] 3)) from
    ⟨⟨h.below ((Below.refl _ _).alloc (Nat.le_refl _) _), Turn.refl _ _, 0, hz⟩, Turn.of_below ((Below.refl _ _).alloc (Nat.le_refl _) _)⟩)
  have HG := Lib.hid (show W.heap.size ≠ g by omega)
  clear h hab hb hn hl hq hq2 hq3 hi hj hk hlt hz
  go_enter Tryz.func105, Tryz.ntmps105
  have HG2 := Lib.hid (show W.heap.size ≤ W.heap.size from Nat.le_refl _)
  by_cases h50 : 50 ≤ l
  · have t50 : (50 : Int) ≤ (l : Int) := by omega
    have C0 := H0.out.1
    go_wp2_with fail
    refine (medianAdj_any B g n c W.heap.size i xs _ C0 HG.out (by have := HB.out; omega) (by have := HB.out; omega) (by have := HB.out; omega)).mono ?_
    rintro e w1 ⟨i', rfl, ho1, hc1⟩
    have HO1 := Lib.hid (And.intro ho1 hc1)
    clear ho1 hc1
    go_wp2_with fail
    refine (medianAdj_any B g n c W.heap.size j xs _ HO1.out.2.self HG.out (by have := HB.out; omega) (by have := HB.out; omega) (by have := HB.out; omega)).mono ?_
    rintro e w2 ⟨j', rfl, ho2, hc2⟩
    have HO2 := Lib.hid (And.intro ho2 (HO1.out.2.next hc2))
    clear ho2 hc2
    go_wp2_with fail
    refine (medianAdj_any B g n c W.heap.size k xs _ HO2.out.2.self HG.out (by have := HB.out; omega) (by have := HB.out; omega) (by have := HB.out; omega)).mono ?_
    rintro e w3 ⟨k', rfl, ho3, hc3⟩
    have HO3 := Lib.hid (And.intro ho3 (HO2.out.2.next hc3))
    clear ho3 hc3
    have HX := Lib.hid (show a ≤ i' ∧ i' < b ∧ a ≤ j' ∧ j' < b ∧ a ≤ k' ∧ k' < b ∧ b ≤ n from by have := HB.out; have := HO1.out.1; have := HO2.out.1; have := HO3.out.1; omega)
    go_wp2_with fail
    refine (median_any B g n c W.heap.size i' j' k' xs _ HO3.out.2.self HG.out (by have := HX.out; omega) (by have := HX.out; omega) (by have := HX.out; omega)).mono ?_
    rintro e wz ⟨r, rfl, ho, hc⟩
    obtain ⟨s, hs⟩ := hc.2.2
    have hcell : wz.cell? ⟨W.heap.size, 0, none⟩ = some (.int .i64 s) := hs.cell 0
    have HR := Lib.hid (show a ≤ r ∧ r < b ∧ RowN wz B g n c xs ∧ Turn (fun k => k = g) W wz from ⟨by have := HX.out; omega, by have := HX.out; omega, hc.1, turn_cnt H0.out.2 HG2.out (HO3.out.2.next hc).2.1⟩)
    clear ho hc hs
    by_cases hs0 : s = 0
    · have q0 : (s == 0) = true := by rw [hs0]; rfl
      clear hs0
      go_wp2_with fail
      go_ret2
      exact ⟨r, 1, rfl, HR.out.1, HR.out.2.1, HR.out.2.2.1, HR.out.2.2.2⟩
    · have q0 : (s == 0) = false := by simpa using hs0
      clear hs0
      by_cases hs12 : s = 12
      · have q12 : (s == 12) = true := by rw [hs12]; rfl
        clear hs12
        go_wp2_with fail
        go_ret2
        exact ⟨r, 2, rfl, HR.out.1, HR.out.2.1, HR.out.2.2.1, HR.out.2.2.2⟩
      · have q12 : (s == 12) = false := by simpa using hs12
        clear hs12
        go_wp2_with fail
        go_ret2
        exact ⟨r, 0, rfl, HR.out.1, HR.out.2.1, HR.out.2.2.1, HR.out.2.2.2⟩
  · have t50 : ¬ (50 : Int) ≤ (l : Int) := by omega
    have C0 := H0.out.1
    have HX := Lib.hid (show a ≤ i ∧ i < b ∧ a ≤ j ∧ j < b ∧ a ≤ k ∧ k < b ∧ b ≤ n from by have := HB.out; omega)
    go_wp2_with fail
    refine (median_any B g n c W.heap.size i j k xs _ C0 HG.out (by have := HX.out; omega) (by have := HX.out; omega) (by have := HX.out; omega)).mono ?_
    rintro e wz ⟨r, rfl, ho, hc⟩
    obtain ⟨s, hs⟩ := hc.2.2
    have hcell : wz.cell? ⟨W.heap.size, 0, none⟩ = some (.int .i64 s) := hs.cell 0
    have HR := Lib.hid (show a ≤ r ∧ r < b ∧ RowN wz B g n c xs ∧ Turn (fun k => k = g) W wz from ⟨by have := HX.out; omega, by have := HX.out; omega, hc.1, turn_cnt H0.out.2 HG2.out hc.2.1⟩)
    clear ho hc hs
    by_cases hs0 : s = 0
    · have q0 : (s == 0) = true := by rw [hs0]; rfl
      clear hs0
      go_wp2_with fail
      go_ret2
      exact ⟨r, 1, rfl, HR.out.1, HR.out.2.1, HR.out.2.2.1, HR.out.2.2.2⟩
    · have q0 : (s == 0) = false := by simpa using hs0
      clear hs0
      by_cases hs12 : s = 12
      · have q12 : (s == 12) = true := by rw [hs12]; rfl
        clear hs12
        go_wp2_with fail
        go_ret2
        exact ⟨r, 2, rfl, HR.out.1, HR.out.2.1, HR.out.2.2.1, HR.out.2.2.2⟩
      · have q12 : (s == 12) = false := by simpa using hs12
        clear hs12
        go_wp2_with fail
        go_ret2
        exact ⟨r, 0, rfl, HR.out.1, HR.out.2.1, HR.out.2.2.1, HR.out.2.2.2⟩

end Go.Proofs.YthjikbhjciphiaaGreatDoor
