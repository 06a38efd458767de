/-
  The library's sort of words: patterns broken.
-/
import Derived.Test.YtgococpbhbcpmaaDoorSoI
namespace Go.Proofs.YtgococpbhbcpmaaDoor
open Go.RowKit
set_option linter.unusedVariables false
set_option linter.unusedSimpArgs false

/-- What the breaking of patterns keeps. -/
def BrkI (W : World) (B g n c gx a b : Nat) (xs ys : List Nat) (w : World) : Prop := RowN w B g n c ys ∧ (∃ v : Nat, v < 18446744073709551616 ∧ Blk w gx 100 [.int .u64 (v : Nat)]) ∧ Turn (fun k => k = g) W w ∧ Sws a b xs ys

set_option maxRecDepth 100000 in
set_option maxHeartbeats 8000000 in
theorem break_any (B g n c a b : Nat) (xs : List Nat) (W : World) (h : RowN W B g n c xs) (hab : a + 8 ≤ b) (hb : b ≤ n) (hn : n ≤ 1000000000) :
    Calls Tryd.prog 46 #[.slice (some ⟨g, 0, none⟩) n c, .int .i64 (a : Nat), .int .i64 (b : Nat)] W (SoPost W B g n c fun ys => Sws a b xs ys) := by
  obtain ⟨l, hl⟩ : ∃ x, b - a = x := ⟨_, rfl⟩
  obtain ⟨q, hq⟩ : ∃ x, l / 4 = x := ⟨_, rfl⟩
  obtain ⟨q2, hq2⟩ : ∃ x, q * 2 = x := ⟨_, rfl⟩
  obtain ⟨p, hp⟩ : ∃ x, a + q2 = x := ⟨_, rfl⟩
  obtain ⟨p0, hp0⟩ : ∃ x, p - 1 = x := ⟨_, rfl⟩
  obtain ⟨p1, hp1⟩ : ∃ x, p + 1 = x := ⟨_, rfl⟩
  obtain ⟨M, hM⟩ : ∃ x, 2 ^ Lib.bitLen l = x := ⟨_, rfl⟩
  obtain ⟨m1, hm1⟩ : ∃ x, M - 1 = x := ⟨_, rfl⟩
  have hMl : M ≤ 2 * l := by rw [← hM]; exact pow_len l (by omega) (by omega)
  have hM0 : 0 < M := by rw [← hM]; exact Nat.pow_pos (by decide)
  have hN := fun w => npow_any l M (by omega) (by omega) hM w
  have e1 : (b : Int) - (a : Int) = (l : Int) := by omega
  have e2 : (l : Int) / 4 = (q : Int) := by omega
  have e3 : Int.tdiv (l : Int) 4 = (q : Int) := by rw [Int.tdiv_eq_ediv_of_nonneg (by omega)]; exact e2
  have e4 : (q : Int) * 2 = (q2 : Int) := by omega
  have e5 : (a : Int) + (q2 : Int) = (p : Int) := by omega
  have e6 : (p : Int) - 1 = (p0 : Int) := by omega
  have e7 : (p : Int) + 1 = (p1 : Int) := by omega
  have e8 : (M : Int) - 1 = (m1 : Int) := by omega
  have e9 : IntKind.u64.wrap (l : Int) = (l : Int) := by rw [IntKind.wrap_u64]; omega
  have e10 : IntKind.u64.wrap (m1 : Int) = (m1 : Int) := by rw [IntKind.wrap_u64]; omega
  have t8 : (8 : Int) ≤ (l : Int) := by omega
  have b1 : a ≤ 1000000000 := by omega
  have b2 : b ≤ 1000000000 := by omega
  have b3 : l ≤ 1000000000 := by omega
  have b4 : q ≤ 1000000000 := by omega
  have b5 : q2 ≤ 1000000000 := by omega
  have b6 : p ≤ 1000000000 := by omega
  have b7 : p0 ≤ 1000000000 := by omega
  have b8 : p1 ≤ 1000000000 := by omega
  have b9 : M ≤ 2000000000 := by omega
  have b10 : m1 ≤ 2000000000 := by omega
  have HB := Lib.hid (show a ≤ p0 ∧ p0 + 2 = p1 ∧ p1 < b ∧ b ≤ n ∧ n ≤ 1000000000 ∧ a + l = b ∧ m1 < 2 * l from ⟨by omega, by omega, by omega, hb, hn, by omega, by omega⟩)
  have hlt := h.lt
  have hz := Blk.new (cs := [.int .u64 (l : Nat)]) W 100 _ rfl
  have H0 := Lib.hid (show BrkI W B g n c W.heap.size a b xs xs (W.alloc (.cells #[.int .u64 (l : Nat)] 100)) from
    ⟨h.below ((Below.refl _ _).alloc (Nat.le_refl _) _), ⟨l, by omega, hz⟩, Turn.of_below ((Below.refl _ _).alloc (Nat.le_refl _) _), .refl _⟩)
  have HG := Lib.hid (show W.heap.size ≠ g ∧ W.heap.size ≤ W.heap.size from ⟨by omega, Nat.le_refl _⟩)
  clear h hab hb hn hl hq hq2 hp hp0 hp1 hM hm1 hMl hM0 hlt hz
  go_enter Tryd.func46, Tryd.ntmps46
  go_wp2_with fail
  refine (hN _).mono ?_
  rintro e w1 ⟨rfl, rfl⟩
  obtain ⟨gx, hgx⟩ : ∃ x, W.heap.size = x := ⟨_, rfl⟩
  rw [hgx] at H0 HG ⊢
  have HGX := Lib.hid hgx
  clear hgx hN
  generalize W.alloc (.cells #[.int .u64 (l : Nat)] 100) = w0 at H0 ⊢
  go_wp2_with fail
  go_loopw [9] (fun vi wr => ∃ (i : Nat) (ys : List Nat), vi = .int .i64 i ∧ p0 ≤ i ∧ i ≤ p1 + 1 ∧ BrkI W B g n c gx a b xs ys wr) (fun vi _ => n - (intOf vi).toNat)
  case atStart => exact ⟨p0, xs, rfl, Nat.le_refl _, by have := HB.out; omega, H0.out⟩
  case round =>
    obtain ⟨i, ys, rfl, h0i, hi1, hI⟩ := hrel
    by_cases hlt : i ≤ p1
    · have t1 : (i : Int) ≤ (p1 : Int) := by omega
      have hi9 : i ≤ 1000000000 := by omega
      obtain ⟨hr, ⟨v, hv, hx⟩, ht, hs⟩ := hI
      have hX := xs_any gx v wr hx hv
      have HI := Lib.hid (show RowN wr B g n c ys ∧ Turn (fun k => k = g) W wr ∧ Sws a b xs ys ∧ p0 ≤ i ∧ i ≤ p1 from ⟨hr, ht, hs, h0i, hlt⟩)
      clear hr hx ht hs h0i hi1 hlt hv
      go_wp2_with fail
      refine hX.mono ?_
      rintro e w9 ⟨u, hu, rfl, hx9, ht9⟩
      obtain ⟨s, hs⟩ : ∃ x, u &&& m1 = x := ⟨_, rfl⟩
      have hsm : s ≤ m1 := by rw [← hs]; exact Nat.and_le_right
      have e11 : bits .and .u64 (u : Int) (m1 : Int) = (s : Int) := by rw [u64_and_nat u m1 hu (by omega), hs]
      have e12 : IntKind.i64.wrap (s : Int) = (s : Int) := by rw [IntKind.wrap_i64]; omega
      have hs9 : s ≤ 2000000000 := by omega
      have HS9 := Lib.hid (show RowN w9 B g n c ys ∧ Turn (fun k => k = g) W w9 ∧ Sws a b xs ys ∧ p0 ≤ i ∧ i ≤ p1 ∧ s ≤ m1 ∧ u < 18446744073709551616 ∧ Blk w9 gx 100 [.int .u64 (u : Nat)] from
        ⟨HI.out.1.turn ht9 (fun e => HG.out.1 e.symm), turn_cnt HI.out.2.1 (by have := HGX.out; omega) ht9, HI.out.2.2.1, HI.out.2.2.2.1, HI.out.2.2.2.2, hsm, hu, hx9⟩)
      clear HI hX hu hx9 ht9 hs hsm
      have h9 := HS9.out.2.2
      by_cases hsl : l ≤ s
      · skip
        have t2 : (l : Int) ≤ (s : Int) := by omega
        obtain ⟨s2, hs2⟩ : ∃ x, s - l = x := ⟨_, rfl⟩
        have e13 : (s : Int) - (l : Int) = (s2 : Int) := by omega
        obtain ⟨k, hk⟩ : ∃ x, a + s2 = x := ⟨_, rfl⟩
        have e14 : (a : Int) + (s2 : Int) = (k : Int) := by omega
        have hkb : a ≤ k ∧ k < b := by have := HB.out; omega
        have hib : a ≤ i ∧ i < b := by have := HB.out; omega
        have hk9 : k ≤ 1000000000 := by omega
        have e15 : IntKind.i64.wrap (k : Int) = (k : Int) := by rw [IntKind.wrap_i64]; omega
        have r9 := HS9.out.1
        have t9 := HS9.out.2.1
        have hln := r9.len
        have hb := HB.out
        obtain ⟨x, hx⟩ : ∃ x, atN ys i = x := ⟨_, rfl⟩
        obtain ⟨y, hy⟩ : ∃ y, atN ys k = y := ⟨_, rfl⟩
        have hpn : i < n := by omega
        have hqn : k < n := by omega
        have c1 := r9.cell i hpn x hx
        have c2 := r9.cell k hqn y hy
        have f1 := r9.frozen i
        have f2 := r9.frozen k
        obtain ⟨x3, hx3⟩ : ∃ x, atN (ys.set i y) k = x := ⟨_, rfl⟩
        have c3 := (r9.set i y).cell k hqn x3 hx3
        have f3 := (r9.set i y).frozen k
        have HRT := Lib.hid (show RowN ((w9.setCell ⟨g, i, none⟩ (.int .u64 (y : Nat))).setCell ⟨g, k, none⟩ (.int .u64 (x : Nat))).drew B g n c (swp ys i k) ∧ Turn (fun k => k = g) W ((w9.setCell ⟨g, i, none⟩ (.int .u64 (y : Nat))).setCell ⟨g, k, none⟩ (.int .u64 (x : Nat))).drew from ⟨r9.swap i k x y hx hy, turn_swap0 t9 i k (.int .u64 (y : Nat)) (.int .u64 (x : Nat))⟩)
        have hpni : (i : Int) < (n : Int) := by omega
        have hqni : (k : Int) < (n : Int) := by omega
        have HN := Lib.hid (show BrkI W B g n c gx a b xs (swp ys i k) ((w9.setCell ⟨g, i, none⟩ (.int .u64 (y : Nat))).setCell ⟨g, k, none⟩ (.int .u64 (x : Nat))).drew ∧ i + 1 ≤ p1 + 1 ∧ p0 ≤ i + 1 ∧ i < n from
          ⟨⟨HRT.out.1, ⟨u, h9.2.2.2.2.1, (h9.2.2.2.2.2.other ⟨g, i, none⟩ _ HG.out.1).other ⟨g, k, none⟩ _ HG.out.1⟩, HRT.out.2, Sws.step i k h9.1 hib.1 hib.2 hkb.1 hkb.2 (by omega)⟩, by omega, by omega, hpn⟩)
        clear r9 t9 hln hb hx hy hx3 hpn hqn hkb hib h9 hk hsl HRT HS9 hs2
        go_wp2_with fail
        go_region
        go_wp2_with fail
        go_roundw
        case rel => exact ⟨i + 1, swp ys i k, by go_num, HN.out.2.2.1, HN.out.2.1, HN.out.1⟩
        case measure => have := HN.out; simp [intOf]; omega
      · skip
        have t2 : ¬ (l : Int) ≤ (s : Int) := by omega
        obtain ⟨k, hk⟩ : ∃ x, a + s = x := ⟨_, rfl⟩
        have e14 : (a : Int) + (s : Int) = (k : Int) := by omega
        have hkb : a ≤ k ∧ k < b := by have := HB.out; omega
        have hib : a ≤ i ∧ i < b := by have := HB.out; omega
        have hk9 : k ≤ 1000000000 := by omega
        have e15 : IntKind.i64.wrap (k : Int) = (k : Int) := by rw [IntKind.wrap_i64]; omega
        have r9 := HS9.out.1
        have t9 := HS9.out.2.1
        have hln := r9.len
        have hb := HB.out
        obtain ⟨x, hx⟩ : ∃ x, atN ys i = x := ⟨_, rfl⟩
        obtain ⟨y, hy⟩ : ∃ y, atN ys k = y := ⟨_, rfl⟩
        have hpn : i < n := by omega
        have hqn : k < n := by omega
        have c1 := r9.cell i hpn x hx
        have c2 := r9.cell k hqn y hy
        have f1 := r9.frozen i
        have f2 := r9.frozen k
        obtain ⟨x3, hx3⟩ : ∃ x, atN (ys.set i y) k = x := ⟨_, rfl⟩
        have c3 := (r9.set i y).cell k hqn x3 hx3
        have f3 := (r9.set i y).frozen k
        have HRT := Lib.hid (show RowN ((w9.setCell ⟨g, i, none⟩ (.int .u64 (y : Nat))).setCell ⟨g, k, none⟩ (.int .u64 (x : Nat))).drew B g n c (swp ys i k) ∧ Turn (fun k => k = g) W ((w9.setCell ⟨g, i, none⟩ (.int .u64 (y : Nat))).setCell ⟨g, k, none⟩ (.int .u64 (x : Nat))).drew from ⟨r9.swap i k x y hx hy, turn_swap0 t9 i k (.int .u64 (y : Nat)) (.int .u64 (x : Nat))⟩)
        have hpni : (i : Int) < (n : Int) := by omega
        have hqni : (k : Int) < (n : Int) := by omega
        have HN := Lib.hid (show BrkI W B g n c gx a b xs (swp ys i k) ((w9.setCell ⟨g, i, none⟩ (.int .u64 (y : Nat))).setCell ⟨g, k, none⟩ (.int .u64 (x : Nat))).drew ∧ i + 1 ≤ p1 + 1 ∧ p0 ≤ i + 1 ∧ i < n from
          ⟨⟨HRT.out.1, ⟨u, h9.2.2.2.2.1, (h9.2.2.2.2.2.other ⟨g, i, none⟩ _ HG.out.1).other ⟨g, k, none⟩ _ HG.out.1⟩, HRT.out.2, Sws.step i k h9.1 hib.1 hib.2 hkb.1 hkb.2 (by omega)⟩, by omega, by omega, hpn⟩)
        clear r9 t9 hln hb hx hy hx3 hpn hqn hkb hib h9 hk hsl HRT HS9
        go_wp2_with fail
        go_region
        go_wp2_with fail
        go_roundw
        case rel => exact ⟨i + 1, swp ys i k, by go_num, HN.out.2.2.1, HN.out.2.1, HN.out.1⟩
        case measure => have := HN.out; simp [intOf]; omega
    · have t1 : ¬ (i : Int) ≤ (p1 : Int) := by omega
      have HN := Lib.hid hI
      clear hI h0i hi1 hlt
      go_wp2_with fail
      go_end0
      exact ⟨rfl, ys, HN.out.1, HN.out.2.2.1, HN.out.2.2.2⟩

end Go.Proofs.YtgococpbhbcpmaaDoor
