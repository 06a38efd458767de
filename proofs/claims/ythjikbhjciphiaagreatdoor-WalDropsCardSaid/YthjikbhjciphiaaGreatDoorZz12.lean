/-
  The library's sort of words: cutting a range at a pivot, the less ahead.
-/
import Derived.Test.YthjikbhjciphiaaGreatDoorZz11
namespace Go.Proofs.YthjikbhjciphiaaGreatDoor
open Go.RowKit
set_option linter.unusedVariables false
set_option linter.unusedSimpArgs false

set_option maxRecDepth 100000 in
set_option maxHeartbeats 32000000 in
theorem partition_any (B g n c a b p : Nat) (xs : List Nat) (W : World) (h : RowN W B g n c xs) (hap : a ≤ p) (hpb : p < b) (hb : b ≤ n) (hn : n ≤ 1000000000) :
    Calls Tryz.prog 110 #[.slice (some ⟨g, 0, none⟩) n c, .int .i64 (a : Nat), .int .i64 (b : Nat), .int .i64 (p : Nat)] W fun e W' => ∃ (m : Nat) (bl : Bool) (ys : List Nat), e = .returned (.tuple #[.int .i64 (m : Nat), .bool bl]) ∧ RowN W' B g n c ys ∧ Turn (fun k => k = g) W W' ∧ Sws a b xs ys ∧ a ≤ m ∧ m < b ∧ Cut a b m ys := by
  have HB := Lib.hid (show a ≤ p ∧ p < b ∧ b ≤ n ∧ n ≤ 1000000000 from ⟨hap, hpb, hb, hn⟩)
  obtain ⟨X, hX⟩ : ∃ x, atN xs p = x := ⟨_, rfl⟩
  obtain ⟨j, hb1⟩ : ∃ x, b - 1 = x := ⟨_, rfl⟩
  obtain ⟨i, hi1⟩ : ∃ x, a + 1 = x := ⟨_, rfl⟩
  have g0 : (b : Int) - 1 = (j : Int) := by omega
  have g00 : (a : Int) + 1 = (i : Int) := by omega
  have a9 : a ≤ 1000000000 := by omega
  have b9 : b ≤ 1000000000 := by omega
  have p9 : p ≤ 1000000000 := by omega
  have i9 : i ≤ 1000000000 := by omega
  have HS8 := Lib.hid (show RowN W B g n c xs ∧ Turn (fun k => k = g) W W ∧ True from ⟨h, Turn.refl _ _, trivial⟩)
  have HX := Lib.hid (And.intro hX (And.intro hb1 hi1))
  have r9 := HS8.out.1
  have t9 := HS8.out.2.1
  have hln := r9.len
  have hb := HB.out
  obtain ⟨x, hx⟩ : ∃ x, atN xs a = x := ⟨_, rfl⟩
  obtain ⟨y, hy⟩ : ∃ y, atN xs p = y := ⟨_, rfl⟩
  have hpn : a < n := by omega
  have hqn : p < n := by omega
  have c1 := r9.cell a hpn x hx
  have c2 := r9.cell p hqn y hy
  have f1 := r9.frozen a
  have f2 := r9.frozen p
  obtain ⟨x3, hx3⟩ : ∃ x, atN (xs.set a y) p = x := ⟨_, rfl⟩
  have c3 := (r9.set a y).cell p hqn x3 hx3
  have f3 := (r9.set a y).frozen p
  have HRT := Lib.hid (show RowN ((W.setCell ⟨g, a, none⟩ (.int .u64 (y : Nat))).setCell ⟨g, p, none⟩ (.int .u64 (x : Nat))).drew B g n c (swp xs a p) ∧ Turn (fun k => k = g) W ((W.setCell ⟨g, a, none⟩ (.int .u64 (y : Nat))).setCell ⟨g, p, none⟩ (.int .u64 (x : Nat))).drew from ⟨r9.swap a p x y hx hy, turn_swap0 t9 a p (.int .u64 (y : Nat)) (.int .u64 (x : Nat))⟩)
  have hpni : (a : Int) < (n : Int) := by omega
  have hqni : (p : Int) < (n : Int) := by omega
  have HS1 := Lib.hid (show Sws a b xs (swp xs a p) ∧ PtI a b i j X (swp xs a p) ∧ a < i ∧ i ≤ j + 1 ∧ j < b from by
    have h1 := HX.out
    obtain ⟨h1, h2, h3⟩ := h1
    refine ⟨Sws.step a p (.refl _) (by omega) (by omega) (by omega) (by omega) (by omega), ⟨fun t h4 h5 => by omega, fun t h4 h5 => by omega, ?_⟩, by omega, by omega, by omega⟩
    rw [at_sw _ _ _ _ (by omega) (by omega)]
    by_cases e : a = p
    · rw [if_pos e, e]; exact h1
    · rw [if_neg e, if_pos rfl]; exact h1)
  clear hX hb1 hi1 hap hpb hb hn hx hy hx3 r9 t9 hln h HS8 hpn hqn
  go_enter Tryz.func110, Tryz.ntmps110
  go_wp2_with fail
  go_region
  go_wp2_with fail
  obtain ⟨wr, hw1⟩ : ∃ v, ((W.setCell ⟨g, a, none⟩ (.int .u64 (y : Nat))).setCell ⟨g, p, none⟩ (.int .u64 (x : Nat))).drew = v := ⟨_, rfl⟩
  rw [hw1] at HRT ⊢
  obtain ⟨ys, hzs⟩ : ∃ z, swp xs a p = z := ⟨_, rfl⟩
  rw [hzs] at HRT HS1
  have HQ := Lib.hid (show RowN wr B g n c ys ∧ Turn (fun k => k = g) W wr ∧ PtI a b i j X ys ∧ a < i ∧ i ≤ j + 1 ∧ j < b from ⟨HRT.out.1, HRT.out.2, HS1.out.2⟩)
  have HSW := Lib.hid HS1.out.1
  clear hw1 c1 c2 c3 f1 f2 f3 hzs hpni hqni g0 g00 i9 HRT HS1
  obtain ⟨w0, hw0⟩ : ∃ w0, w0 = wr := ⟨_, rfl⟩
  have HQ0 := Lib.hid (show RowN w0 B g n c ys ∧ Turn (fun k => k = g) W w0 ∧ PtI a b i j X ys ∧ a < i ∧ i ≤ j + 1 ∧ j < b from by rw [hw0]; exact HQ.out)
  rw [← hw0]
  clear HQ hw0
  obtain ⟨i0, hi0⟩ : ∃ i0, i0 = i := ⟨_, rfl⟩
  rw [← hi0] at HQ0 ⊢
  have HI9 := Lib.hid hi0
  clear hi0
  go_loopw [10] (fun vi wr => ∃ (i : Nat), vi = .int .i64 i ∧ i0 ≤ i ∧ RowN wr B g n c ys ∧ Turn (fun k => k = g) W wr ∧ PtI a b i j X ys ∧ a < i ∧ i ≤ j + 1 ∧ j < b) (fun vi _ => n - (intOf vi).toNat)
  case atStart => exact ⟨i0, rfl, Nat.le_refl _, HQ0.out⟩
  case round =>
    obtain ⟨i, rfl, hi0, hr, ht, hv, hai, hij, hjb⟩ := hrel
    have HI0 := Lib.hid hi0
    clear hi0
    have hb := HB.out
    have hi9 : i ≤ 1000000000 := by omega
    have hj9 : j ≤ 1000000000 := by omega
    by_cases hlt : i ≤ j
    · have q1 : decide ((i : Int) ≤ (j : Int)) = true := decide_eq_true (by omega)
      have q2 : decide (i ≤ j) = true := decide_eq_true hlt
      obtain ⟨x, hx⟩ : ∃ x, atN ys i = x := ⟨_, rfl⟩
      have c1 := hr.cell i (by omega) x hx
      have c2 := hr.cell a (by omega) X hv.2.2
      have han : (a : Int) < (n : Int) := by omega
      have hvn : (i : Int) < (n : Int) := by omega
      by_cases hc : x < X
      · have hL := lessU_any x X true (decide_eq_true hc)
        have HS := Lib.hid (show RowN wr B g n c ys ∧ Turn (fun k => k = g) W wr ∧ PtI a b (i + 1) j X ys ∧ a < i + 1 ∧ i + 1 ≤ j + 1 ∧ j < b ∧ i < n from ⟨hr, ht, ptI_up hv (by rw [hx]; omega), by omega, by omega, hjb, by omega⟩)
        clear hr ht hv hai hij hjb hb hlt hx hc
        go_wp2_with fail
        go_quiet (first | (go_at_call 108; exact Calls.quiet_of_same (hL _)))
        go_wp2_with fail
        go_roundw
        case rel => exact ⟨i + 1, by go_num, by have := HI0.out; omega, HS.out.1.drewN _, HS.out.2.1.drewN _, HS.out.2.2.1, HS.out.2.2.2.1, HS.out.2.2.2.2.1, HS.out.2.2.2.2.2.1⟩
        case measure => have := HS.out; simp [intOf]; omega
      · have hL := lessU_any x X false (decide_eq_false hc)
        have HS := Lib.hid (show RowN wr B g n c ys ∧ Turn (fun k => k = g) W wr ∧ PtI a b i j X ys ∧ a < i ∧ i ≤ j + 1 ∧ j < b ∧ (i ≤ j → X ≤ atN ys i) from ⟨hr, ht, hv, hai, hij, hjb, fun _ => by rw [hx]; omega⟩)
        clear hr ht hv hai hij hjb hb hlt hx hc
        go_wp2_with fail
        go_quiet (first | (go_at_call 108; exact Calls.quiet_of_same (hL _)))
        go_wp2_with fail
        obtain ⟨w9, hw9⟩ : ∃ x, wr.drewN nq = x := ⟨_, rfl⟩
        have HS9 := Lib.hid (And.intro (show RowN w9 B g n c ys by rw [← hw9]; exact HS.out.1.drewN _) (And.intro (show Turn (fun k => k = g) W w9 by rw [← hw9]; exact HS.out.2.1.drewN _) HS.out.2.2))
        rw [hw9]
        clear hw9 HS c1 c2 q1 q2 hL hvn
        obtain ⟨wr, hwr⟩ : ∃ x, x = w9 := ⟨_, rfl⟩
        rw [← hwr] at HS9 ⊢
        have HQ2 := HS9
        clear HS9 hwr
        obtain ⟨w5, hw5⟩ : ∃ w0, w0 = wr := ⟨_, rfl⟩
        have HQ5 := Lib.hid (show RowN w5 B g n c ys ∧ Turn (fun k => k = g) W w5 ∧ PtI a b i j X ys ∧ a < i ∧ i ≤ j + 1 ∧ j < b ∧ (i ≤ j → X ≤ atN ys i) from by rw [hw5]; exact HQ2.out)
        rw [← hw5]
        clear HQ2 hw5
        obtain ⟨j0, hj0⟩ : ∃ j0, j0 = j := ⟨_, rfl⟩
        rw [← hj0] at HQ5 ⊢
        clear hj0
        go_loopw [11] (fun vj wr => ∃ (j : Nat), vj = .int .i64 j ∧ RowN wr B g n c ys ∧ Turn (fun k => k = g) W wr ∧ PtI a b i j X ys ∧ a < i ∧ i ≤ j + 1 ∧ j < b ∧ (i ≤ j → X ≤ atN ys i)) (fun vj _ => (intOf vj).toNat)
        case atStart => exact ⟨j0, rfl, HQ5.out⟩
        case round =>
          obtain ⟨j, rfl, hr, ht, hv, hai, hij, hjb, hst⟩ := hrel
          have hb := HB.out
          have hi9 : i ≤ 1000000000 := by omega
          have hj9 : j ≤ 1000000000 := by omega
          by_cases hlt : i ≤ j
          · have q1 : decide ((i : Int) ≤ (j : Int)) = true := decide_eq_true (by omega)
            have q2 : decide (i ≤ j) = true := decide_eq_true hlt
            obtain ⟨x, hx⟩ : ∃ x, atN ys j = x := ⟨_, rfl⟩
            have c1 := hr.cell j (by omega) x hx
            have c2 := hr.cell a (by omega) X hv.2.2
            have han : (a : Int) < (n : Int) := by omega
            have hvn : (j : Int) < (n : Int) := by omega
            by_cases hc : x < X
            · have hL := lessU_any x X true (decide_eq_true hc)
              have HS := Lib.hid (show RowN wr B g n c ys ∧ Turn (fun k => k = g) W wr ∧ PtI a b i j X ys ∧ a < i ∧ i < j ∧ j < b ∧ X ≤ atN ys i ∧ atN ys j < X from ⟨hr, ht, hv, hai, by
                have h1 := hst hlt
                rcases Nat.lt_or_ge i j with h2 | h2
                · exact h2
                · obtain rfl : i = j := by omega
                  rw [hx] at h1; omega, hjb, hst hlt, by rw [hx]; omega⟩)
              clear hr ht hv hai hij hjb hb hlt hx hc hst
              go_wp2_with fail
              go_quiet (first | (go_at_call 108; exact Calls.quiet_of_same (hL _)))
              obtain ⟨w9, hw9⟩ : ∃ x, wr.drewN nq = x := ⟨_, rfl⟩
              have HS9 := Lib.hid (And.intro (show RowN w9 B g n c ys by rw [← hw9]; exact HS.out.1.drewN _) (And.intro (show Turn (fun k => k = g) W w9 by rw [← hw9]; exact HS.out.2.1.drewN _) HS.out.2.2))
              rw [hw9]
              clear hw9 HS c1 c2 q1 q2 hL hvn
              have t1 : ¬ (j : Int) < (i : Int) := by have := HS9.out.2.2.2.2.1; omega
              have hij := HS9.out.2.2.2.2.1
              have hjb := HS9.out.2.2.2.2.2.1
              have r9 := HS9.out.1
              have t9 := HS9.out.2.1
              have hln := r9.len
              have hb := HB.out
              obtain ⟨x, hx⟩ : ∃ x, atN ys i = x := ⟨_, rfl⟩
              obtain ⟨y, hy⟩ : ∃ y, atN ys j = y := ⟨_, rfl⟩
              have hpn : i < n := by omega
              have hqn : j < n := by omega
              have c1 := r9.cell i hpn x hx
              have c2 := r9.cell j hqn y hy
              have f1 := r9.frozen i
              have f2 := r9.frozen j
              obtain ⟨x3, hx3⟩ : ∃ x, atN (ys.set i y) j = x := ⟨_, rfl⟩
              have c3 := (r9.set i y).cell j hqn x3 hx3
              have f3 := (r9.set i y).frozen j
              have HRT := Lib.hid (show RowN ((w9.setCell ⟨g, i, none⟩ (.int .u64 (y : Nat))).setCell ⟨g, j, none⟩ (.int .u64 (x : Nat))).drew B g n c (swp ys i j) ∧ Turn (fun k => k = g) W ((w9.setCell ⟨g, i, none⟩ (.int .u64 (y : Nat))).setCell ⟨g, j, none⟩ (.int .u64 (x : Nat))).drew from ⟨r9.swap i j x y hx hy, turn_swap0 t9 i j (.int .u64 (y : Nat)) (.int .u64 (x : Nat))⟩)
              have hpni : (i : Int) < (n : Int) := by omega
              have hqni : (j : Int) < (n : Int) := by omega
              obtain ⟨j1, hj1⟩ : ∃ x, j - 1 = x := ⟨_, rfl⟩
              have g1 : (j : Int) - 1 = (j1 : Int) := by omega
              have HN := Lib.hid (show PtI a b (i + 1) j1 X (swp ys i j) ∧ a < i + 1 ∧ i + 1 ≤ j1 + 1 ∧ j1 < b ∧ Sws a b xs (swp ys i j) ∧ i < n from ⟨ptI_swap HS9.out.2.2.1 HS9.out.2.2.2.1 hij (by omega) (by omega) HS9.out.2.2.2.2.2.2.2 HS9.out.2.2.2.2.2.2.1, by have := HS9.out.2.2.2.1; omega, by omega, by omega, Sws.step i j HSW.out (by have := HS9.out.2.2.2.1; omega) (by omega) (by have := HS9.out.2.2.2.1; omega) (by omega) (by omega), by omega⟩)
              clear r9 t9 hln hb hx hy hx3 hj1 hij hjb hpn hqn
              go_wp2_with fail
              go_region
              go_wp2_with fail
              obtain ⟨w1, hw1⟩ : ∃ v, ((w9.setCell ⟨g, i, none⟩ (.int .u64 (y : Nat))).setCell ⟨g, j, none⟩ (.int .u64 (x : Nat))).drew = v := ⟨_, rfl⟩
              rw [hw1] at HRT ⊢
              obtain ⟨zs, hzs⟩ : ∃ z, swp ys i j = z := ⟨_, rfl⟩
              rw [hzs] at HRT HN
              have HN1 := Lib.hid (And.intro HRT.out HN.out)
              obtain ⟨i5, hi5⟩ : ∃ z, i = z := ⟨_, rfl⟩
              rw [hi5] at HN1 ⊢
              clear hw1 c1 c2 c3 f1 f2 f3 hzs hpni hqni HRT HN HS9 hi5 HSW t1 HI0 HI9 han
              go_loopw [10, 11] (fun vi vj wr => ∃ (i j : Nat) (ys : List Nat), vi = .int .i64 i ∧ vj = .int .i64 j ∧ RowN wr B g n c ys ∧ Turn (fun k => k = g) W wr ∧ PtI a b i j X ys ∧ a < i ∧ i ≤ j + 1 ∧ j < b ∧ Sws a b xs ys) (fun vi vj _ => n - (intOf vi).toNat)
              case atStart => exact ⟨i5 + 1, j1, zs, by go_num, rfl, HN1.out.1.1, HN1.out.1.2, HN1.out.2.1, HN1.out.2.2.1, HN1.out.2.2.2.1, HN1.out.2.2.2.2.1, HN1.out.2.2.2.2.2.1⟩
              case round =>
                obtain ⟨i, j, ys, rfl, rfl, hr, ht, hv, hai, hij, hjb, hs⟩ := hrel
                have hi9 : i ≤ 1000000000 := by have := HB.out; omega
                have hj9 : j ≤ 1000000000 := by have := HB.out; omega
                have HQ := Lib.hid (show RowN wr B g n c ys ∧ Turn (fun k => k = g) W wr ∧ PtI a b i j X ys ∧ a < i ∧ i ≤ j + 1 ∧ j < b from ⟨hr, ht, hv, hai, hij, hjb⟩)
                have HSW := Lib.hid hs
                clear hr ht hv hai hij hjb hs HN1
                go_wp2_with fail
                obtain ⟨w0, hw0⟩ : ∃ w0, w0 = wr := ⟨_, rfl⟩
                have HQ0 := Lib.hid (show RowN w0 B g n c ys ∧ Turn (fun k => k = g) W w0 ∧ PtI a b i j X ys ∧ a < i ∧ i ≤ j + 1 ∧ j < b from by rw [hw0]; exact HQ.out)
                rw [← hw0]
                clear HQ hw0
                obtain ⟨i0, hi0⟩ : ∃ i0, i0 = i := ⟨_, rfl⟩
                rw [← hi0] at HQ0 ⊢
                have HI9 := Lib.hid hi0
                clear hi0
                go_loopw [10] (fun vi wr => ∃ (i : Nat), vi = .int .i64 i ∧ i0 ≤ i ∧ RowN wr B g n c ys ∧ Turn (fun k => k = g) W wr ∧ PtI a b i j X ys ∧ a < i ∧ i ≤ j + 1 ∧ j < b) (fun vi _ => n - (intOf vi).toNat)
                case atStart => exact ⟨i0, rfl, Nat.le_refl _, HQ0.out⟩
                case round =>
                  obtain ⟨i, rfl, hi0, hr, ht, hv, hai, hij, hjb⟩ := hrel
                  have HI0 := Lib.hid hi0
                  clear hi0
                  have hb := HB.out
                  have hi9 : i ≤ 1000000000 := by omega
                  have hj9 : j ≤ 1000000000 := by omega
                  by_cases hlt : i ≤ j
                  · have q1 : decide ((i : Int) ≤ (j : Int)) = true := decide_eq_true (by omega)
                    have q2 : decide (i ≤ j) = true := decide_eq_true hlt
                    obtain ⟨x, hx⟩ : ∃ x, atN ys i = x := ⟨_, rfl⟩
                    have c1 := hr.cell i (by omega) x hx
                    have c2 := hr.cell a (by omega) X hv.2.2
                    have han : (a : Int) < (n : Int) := by omega
                    have hvn : (i : Int) < (n : Int) := by omega
                    by_cases hc : x < X
                    · have hL := lessU_any x X true (decide_eq_true hc)
                      have HS := Lib.hid (show RowN wr B g n c ys ∧ Turn (fun k => k = g) W wr ∧ PtI a b (i + 1) j X ys ∧ a < i + 1 ∧ i + 1 ≤ j + 1 ∧ j < b ∧ i < n from ⟨hr, ht, ptI_up hv (by rw [hx]; omega), by omega, by omega, hjb, by omega⟩)
                      clear hr ht hv hai hij hjb hb hlt hx hc
                      go_wp2_with fail
                      go_quiet (first | (go_at_call 108; exact Calls.quiet_of_same (hL _)))
                      go_wp2_with fail
                      go_roundw
                      case rel => exact ⟨i + 1, by go_num, by have := HI0.out; omega, HS.out.1.drewN _, HS.out.2.1.drewN _, HS.out.2.2.1, HS.out.2.2.2.1, HS.out.2.2.2.2.1, HS.out.2.2.2.2.2.1⟩
                      case measure => have := HS.out; simp [intOf]; omega
                    · have hL := lessU_any x X false (decide_eq_false hc)
                      have HS := Lib.hid (show RowN wr B g n c ys ∧ Turn (fun k => k = g) W wr ∧ PtI a b i j X ys ∧ a < i ∧ i ≤ j + 1 ∧ j < b ∧ (i ≤ j → X ≤ atN ys i) from ⟨hr, ht, hv, hai, hij, hjb, fun _ => by rw [hx]; omega⟩)
                      clear hr ht hv hai hij hjb hb hlt hx hc
                      go_wp2_with fail
                      go_quiet (first | (go_at_call 108; exact Calls.quiet_of_same (hL _)))
                      go_wp2_with fail
                      obtain ⟨w9, hw9⟩ : ∃ x, wr.drewN nq = x := ⟨_, rfl⟩
                      have HS9 := Lib.hid (And.intro (show RowN w9 B g n c ys by rw [← hw9]; exact HS.out.1.drewN _) (And.intro (show Turn (fun k => k = g) W w9 by rw [← hw9]; exact HS.out.2.1.drewN _) HS.out.2.2))
                      rw [hw9]
                      clear hw9 HS c1 c2 q1 q2 hL hvn
                      obtain ⟨wr, hwr⟩ : ∃ x, x = w9 := ⟨_, rfl⟩
                      rw [← hwr] at HS9 ⊢
                      have HQ2 := HS9
                      clear HS9 hwr
                      obtain ⟨w5, hw5⟩ : ∃ w0, w0 = wr := ⟨_, rfl⟩
                      have HQ5 := Lib.hid (show RowN w5 B g n c ys ∧ Turn (fun k => k = g) W w5 ∧ PtI a b i j X ys ∧ a < i ∧ i ≤ j + 1 ∧ j < b ∧ (i ≤ j → X ≤ atN ys i) from by rw [hw5]; exact HQ2.out)
                      rw [← hw5]
                      clear HQ2 hw5
                      obtain ⟨j0, hj0⟩ : ∃ j0, j0 = j := ⟨_, rfl⟩
                      rw [← hj0] at HQ5 ⊢
                      clear hj0
                      go_loopw [11] (fun vj wr => ∃ (j : Nat), vj = .int .i64 j ∧ RowN wr B g n c ys ∧ Turn (fun k => k = g) W wr ∧ PtI a b i j X ys ∧ a < i ∧ i ≤ j + 1 ∧ j < b ∧ (i ≤ j → X ≤ atN ys i)) (fun vj _ => (intOf vj).toNat)
                      case atStart => exact ⟨j0, rfl, HQ5.out⟩
                      case round =>
                        obtain ⟨j, rfl, hr, ht, hv, hai, hij, hjb, hst⟩ := hrel
                        have hb := HB.out
                        have hi9 : i ≤ 1000000000 := by omega
                        have hj9 : j ≤ 1000000000 := by omega
                        by_cases hlt : i ≤ j
                        · have q1 : decide ((i : Int) ≤ (j : Int)) = true := decide_eq_true (by omega)
                          have q2 : decide (i ≤ j) = true := decide_eq_true hlt
                          obtain ⟨x, hx⟩ : ∃ x, atN ys j = x := ⟨_, rfl⟩
                          have c1 := hr.cell j (by omega) x hx
                          have c2 := hr.cell a (by omega) X hv.2.2
                          have han : (a : Int) < (n : Int) := by omega
                          have hvn : (j : Int) < (n : Int) := by omega
                          by_cases hc : x < X
                          · have hL := lessU_any x X true (decide_eq_true hc)
                            have HS := Lib.hid (show RowN wr B g n c ys ∧ Turn (fun k => k = g) W wr ∧ PtI a b i j X ys ∧ a < i ∧ i < j ∧ j < b ∧ X ≤ atN ys i ∧ atN ys j < X from ⟨hr, ht, hv, hai, by
                              have h1 := hst hlt
                              rcases Nat.lt_or_ge i j with h2 | h2
                              · exact h2
                              · obtain rfl : i = j := by omega
                                rw [hx] at h1; omega, hjb, hst hlt, by rw [hx]; omega⟩)
                            clear hr ht hv hai hij hjb hb hlt hx hc hst
                            go_wp2_with fail
                            go_quiet (first | (go_at_call 108; exact Calls.quiet_of_same (hL _)))
                            obtain ⟨w9, hw9⟩ : ∃ x, wr.drewN nq = x := ⟨_, rfl⟩
                            have HS9 := Lib.hid (And.intro (show RowN w9 B g n c ys by rw [← hw9]; exact HS.out.1.drewN _) (And.intro (show Turn (fun k => k = g) W w9 by rw [← hw9]; exact HS.out.2.1.drewN _) HS.out.2.2))
                            rw [hw9]
                            clear hw9 HS c1 c2 q1 q2 hL hvn
                            have t1 : ¬ (j : Int) < (i : Int) := by have := HS9.out.2.2.2.2.1; omega
                            have hij := HS9.out.2.2.2.2.1
                            have hjb := HS9.out.2.2.2.2.2.1
                            have r9 := HS9.out.1
                            have t9 := HS9.out.2.1
                            have hln := r9.len
                            have hb := HB.out
                            obtain ⟨x, hx⟩ : ∃ x, atN ys i = x := ⟨_, rfl⟩
                            obtain ⟨y, hy⟩ : ∃ y, atN ys j = y := ⟨_, rfl⟩
                            have hpn : i < n := by omega
                            have hqn : j < n := by omega
                            have c1 := r9.cell i hpn x hx
                            have c2 := r9.cell j hqn y hy
                            have f1 := r9.frozen i
                            have f2 := r9.frozen j
                            obtain ⟨x3, hx3⟩ : ∃ x, atN (ys.set i y) j = x := ⟨_, rfl⟩
                            have c3 := (r9.set i y).cell j hqn x3 hx3
                            have f3 := (r9.set i y).frozen j
                            have HRT := Lib.hid (show RowN ((w9.setCell ⟨g, i, none⟩ (.int .u64 (y : Nat))).setCell ⟨g, j, none⟩ (.int .u64 (x : Nat))).drew B g n c (swp ys i j) ∧ Turn (fun k => k = g) W ((w9.setCell ⟨g, i, none⟩ (.int .u64 (y : Nat))).setCell ⟨g, j, none⟩ (.int .u64 (x : Nat))).drew from ⟨r9.swap i j x y hx hy, turn_swap0 t9 i j (.int .u64 (y : Nat)) (.int .u64 (x : Nat))⟩)
                            have hpni : (i : Int) < (n : Int) := by omega
                            have hqni : (j : Int) < (n : Int) := by omega
                            obtain ⟨j1, hj1⟩ : ∃ x, j - 1 = x := ⟨_, rfl⟩
                            have g1 : (j : Int) - 1 = (j1 : Int) := by omega
                            have HN := Lib.hid (show PtI a b (i + 1) j1 X (swp ys i j) ∧ a < i + 1 ∧ i + 1 ≤ j1 + 1 ∧ j1 < b ∧ Sws a b xs (swp ys i j) ∧ i < n from ⟨ptI_swap HS9.out.2.2.1 HS9.out.2.2.2.1 hij (by omega) (by omega) HS9.out.2.2.2.2.2.2.2 HS9.out.2.2.2.2.2.2.1, by have := HS9.out.2.2.2.1; omega, by omega, by omega, Sws.step i j HSW.out (by have := HS9.out.2.2.2.1; omega) (by omega) (by have := HS9.out.2.2.2.1; omega) (by omega) (by omega), by omega⟩)
                            clear r9 t9 hln hb hx hy hx3 hj1 hij hjb hpn hqn
                            go_wp2_with fail
                            go_region
                            go_wp2_with fail
                            go_roundw
                            case rel => exact ⟨i + 1, j1, swp ys i j, by go_num, rfl, HRT.out.1, HRT.out.2, HN.out.1, HN.out.2.1, HN.out.2.2.1, HN.out.2.2.2.1, HN.out.2.2.2.2.1⟩
                            case measure => have := HN.out; have := HI0.out; have := HI9.out; simp [intOf]; omega
                          · have hL := lessU_any x X false (decide_eq_false hc)
                            obtain ⟨j1, hj1⟩ : ∃ x, j - 1 = x := ⟨_, rfl⟩
                            have g1 : (j : Int) - 1 = (j1 : Int) := by omega
                            have HS := Lib.hid (show RowN wr B g n c ys ∧ Turn (fun k => k = g) W wr ∧ PtI a b i j1 X ys ∧ a < i ∧ i ≤ j1 + 1 ∧ j1 < b ∧ (i ≤ j1 → X ≤ atN ys i) ∧ j1 < j from ⟨hr, ht, ptI_down hv (by omega) (by rw [hx]; omega), hai, by omega, by omega, fun h => hst (by omega), by omega⟩)
                            clear hr ht hv hai hij hjb hb hlt hx hc hst hj1
                            go_wp2_with fail
                            go_quiet (first | (go_at_call 108; exact Calls.quiet_of_same (hL _)))
                            go_wp2_with fail
                            go_roundw
                            case rel => exact ⟨j1, rfl, HS.out.1.drewN _, HS.out.2.1.drewN _, HS.out.2.2.1, HS.out.2.2.2.1, HS.out.2.2.2.2.1, HS.out.2.2.2.2.2.1, HS.out.2.2.2.2.2.2.1⟩
                            case measure => have := HS.out; simp [intOf]; omega
                        · have q1 : decide ((i : Int) ≤ (j : Int)) = false := decide_eq_false (by omega)
                          have q2 : decide (i ≤ j) = false := decide_eq_false hlt
                          have HS := Lib.hid (show RowN wr B g n c ys ∧ Turn (fun k => k = g) W wr ∧ PtI a b i j X ys ∧ a < i ∧ i ≤ j + 1 ∧ j < b ∧ j < i from ⟨hr, ht, hv, hai, hij, hjb, by omega⟩)
                          clear hr ht hv hai hij hjb hb hlt hst
                          go_wp2_with fail
                          go_quiet (fail)
                          obtain ⟨w9, hw9⟩ : ∃ x, wr.drewN nq = x := ⟨_, rfl⟩
                          have HS9 := Lib.hid (And.intro (show RowN w9 B g n c ys by rw [← hw9]; exact HS.out.1.drewN _) (And.intro (show Turn (fun k => k = g) W w9 by rw [← hw9]; exact HS.out.2.1.drewN _) HS.out.2.2))
                          rw [hw9]
                          clear hw9 HS q1 q2
                          have t1 : (j : Int) < (i : Int) := by have := HS9.out.2.2.2.2.2.2; omega
                          have hja := HS9.out.2.2
                          have r9 := HS9.out.1
                          have t9 := HS9.out.2.1
                          have hln := r9.len
                          have hb := HB.out
                          obtain ⟨x, hx⟩ : ∃ x, atN ys j = x := ⟨_, rfl⟩
                          obtain ⟨y, hy⟩ : ∃ y, atN ys a = y := ⟨_, rfl⟩
                          have hpn : j < n := by omega
                          have hqn : a < n := by omega
                          have c1 := r9.cell j hpn x hx
                          have c2 := r9.cell a hqn y hy
                          have f1 := r9.frozen j
                          have f2 := r9.frozen a
                          obtain ⟨x3, hx3⟩ : ∃ x, atN (ys.set j y) a = x := ⟨_, rfl⟩
                          have c3 := (r9.set j y).cell a hqn x3 hx3
                          have f3 := (r9.set j y).frozen a
                          have HRT := Lib.hid (show RowN ((w9.setCell ⟨g, j, none⟩ (.int .u64 (y : Nat))).setCell ⟨g, a, none⟩ (.int .u64 (x : Nat))).drew B g n c (swp ys j a) ∧ Turn (fun k => k = g) W ((w9.setCell ⟨g, j, none⟩ (.int .u64 (y : Nat))).setCell ⟨g, a, none⟩ (.int .u64 (x : Nat))).drew from ⟨r9.swap j a x y hx hy, turn_swap0 t9 j a (.int .u64 (y : Nat)) (.int .u64 (x : Nat))⟩)
                          have hpni : (j : Int) < (n : Int) := by omega
                          have hqni : (a : Int) < (n : Int) := by omega
                          have HN := Lib.hid (show Sws a b xs (swp ys j a) ∧ a ≤ j ∧ j < b ∧ Cut a b j (swp ys j a) from by
                            have hij : i = j + 1 := by omega
                            refine ⟨Sws.step j a HSW.out (by omega) (by omega) (by omega) (by omega) (by omega), by omega, by omega, ptI_cut (P := X) ?_ (by omega) (by omega) (by omega)⟩
                            rw [← hij]; exact hja.1)
                          clear r9 t9 hln hb hx hy hx3 hja hpn hqn
                          go_wp2_with fail
                          go_region
                          go_wp2_with fail
                          go_ret2
                          exact ⟨j, false, swp ys j a, rfl, HRT.out.1, HRT.out.2, HN.out.1, HN.out.2.1, HN.out.2.2.1, HN.out.2.2.2⟩
                  · have q1 : decide ((i : Int) ≤ (j : Int)) = false := decide_eq_false (by omega)
                    have q2 : decide (i ≤ j) = false := decide_eq_false hlt
                    have HS := Lib.hid (show RowN wr B g n c ys ∧ Turn (fun k => k = g) W wr ∧ PtI a b i j X ys ∧ a < i ∧ i ≤ j + 1 ∧ j < b ∧ (i ≤ j → X ≤ atN ys i) from ⟨hr, ht, hv, hai, hij, hjb, fun h => absurd h hlt⟩)
                    clear hr ht hv hai hij hjb hb hlt
                    go_wp2_with fail
                    go_quiet (fail)
                    go_wp2_with fail
                    obtain ⟨w9, hw9⟩ : ∃ x, wr.drewN nq = x := ⟨_, rfl⟩
                    have HS9 := Lib.hid (And.intro (show RowN w9 B g n c ys by rw [← hw9]; exact HS.out.1.drewN _) (And.intro (show Turn (fun k => k = g) W w9 by rw [← hw9]; exact HS.out.2.1.drewN _) HS.out.2.2))
                    rw [hw9]
                    clear hw9 HS q1 q2
                    obtain ⟨wr, hwr⟩ : ∃ x, x = w9 := ⟨_, rfl⟩
                    rw [← hwr] at HS9 ⊢
                    have HQ2 := HS9
                    clear HS9 hwr
                    obtain ⟨w5, hw5⟩ : ∃ w0, w0 = wr := ⟨_, rfl⟩
                    have HQ5 := Lib.hid (show RowN w5 B g n c ys ∧ Turn (fun k => k = g) W w5 ∧ PtI a b i j X ys ∧ a < i ∧ i ≤ j + 1 ∧ j < b ∧ (i ≤ j → X ≤ atN ys i) from by rw [hw5]; exact HQ2.out)
                    rw [← hw5]
                    clear HQ2 hw5
                    obtain ⟨j0, hj0⟩ : ∃ j0, j0 = j := ⟨_, rfl⟩
                    rw [← hj0] at HQ5 ⊢
                    clear hj0
                    go_loopw [11] (fun vj wr => ∃ (j : Nat), vj = .int .i64 j ∧ RowN wr B g n c ys ∧ Turn (fun k => k = g) W wr ∧ PtI a b i j X ys ∧ a < i ∧ i ≤ j + 1 ∧ j < b ∧ (i ≤ j → X ≤ atN ys i)) (fun vj _ => (intOf vj).toNat)
                    case atStart => exact ⟨j0, rfl, HQ5.out⟩
                    case round =>
                      obtain ⟨j, rfl, hr, ht, hv, hai, hij, hjb, hst⟩ := hrel
                      have hb := HB.out
                      have hi9 : i ≤ 1000000000 := by omega
                      have hj9 : j ≤ 1000000000 := by omega
                      by_cases hlt : i ≤ j
                      · have q1 : decide ((i : Int) ≤ (j : Int)) = true := decide_eq_true (by omega)
                        have q2 : decide (i ≤ j) = true := decide_eq_true hlt
                        obtain ⟨x, hx⟩ : ∃ x, atN ys j = x := ⟨_, rfl⟩
                        have c1 := hr.cell j (by omega) x hx
                        have c2 := hr.cell a (by omega) X hv.2.2
                        have han : (a : Int) < (n : Int) := by omega
                        have hvn : (j : Int) < (n : Int) := by omega
                        by_cases hc : x < X
                        · have hL := lessU_any x X true (decide_eq_true hc)
                          have HS := Lib.hid (show RowN wr B g n c ys ∧ Turn (fun k => k = g) W wr ∧ PtI a b i j X ys ∧ a < i ∧ i < j ∧ j < b ∧ X ≤ atN ys i ∧ atN ys j < X from ⟨hr, ht, hv, hai, by
                            have h1 := hst hlt
                            rcases Nat.lt_or_ge i j with h2 | h2
                            · exact h2
                            · obtain rfl : i = j := by omega
                              rw [hx] at h1; omega, hjb, hst hlt, by rw [hx]; omega⟩)
                          clear hr ht hv hai hij hjb hb hlt hx hc hst
                          go_wp2_with fail
                          go_quiet (first | (go_at_call 108; exact Calls.quiet_of_same (hL _)))
                          obtain ⟨w9, hw9⟩ : ∃ x, wr.drewN nq = x := ⟨_, rfl⟩
                          have HS9 := Lib.hid (And.intro (show RowN w9 B g n c ys by rw [← hw9]; exact HS.out.1.drewN _) (And.intro (show Turn (fun k => k = g) W w9 by rw [← hw9]; exact HS.out.2.1.drewN _) HS.out.2.2))
                          rw [hw9]
                          clear hw9 HS c1 c2 q1 q2 hL hvn
                          have t1 : ¬ (j : Int) < (i : Int) := by have := HS9.out.2.2.2.2.1; omega
                          have hij := HS9.out.2.2.2.2.1
                          have hjb := HS9.out.2.2.2.2.2.1
                          have r9 := HS9.out.1
                          have t9 := HS9.out.2.1
                          have hln := r9.len
                          have hb := HB.out
                          obtain ⟨x, hx⟩ : ∃ x, atN ys i = x := ⟨_, rfl⟩
                          obtain ⟨y, hy⟩ : ∃ y, atN ys j = y := ⟨_, rfl⟩
                          have hpn : i < n := by omega
                          have hqn : j < n := by omega
                          have c1 := r9.cell i hpn x hx
                          have c2 := r9.cell j hqn y hy
                          have f1 := r9.frozen i
                          have f2 := r9.frozen j
                          obtain ⟨x3, hx3⟩ : ∃ x, atN (ys.set i y) j = x := ⟨_, rfl⟩
                          have c3 := (r9.set i y).cell j hqn x3 hx3
                          have f3 := (r9.set i y).frozen j
                          have HRT := Lib.hid (show RowN ((w9.setCell ⟨g, i, none⟩ (.int .u64 (y : Nat))).setCell ⟨g, j, none⟩ (.int .u64 (x : Nat))).drew B g n c (swp ys i j) ∧ Turn (fun k => k = g) W ((w9.setCell ⟨g, i, none⟩ (.int .u64 (y : Nat))).setCell ⟨g, j, none⟩ (.int .u64 (x : Nat))).drew from ⟨r9.swap i j x y hx hy, turn_swap0 t9 i j (.int .u64 (y : Nat)) (.int .u64 (x : Nat))⟩)
                          have hpni : (i : Int) < (n : Int) := by omega
                          have hqni : (j : Int) < (n : Int) := by omega
                          obtain ⟨j1, hj1⟩ : ∃ x, j - 1 = x := ⟨_, rfl⟩
                          have g1 : (j : Int) - 1 = (j1 : Int) := by omega
                          have HN := Lib.hid (show PtI a b (i + 1) j1 X (swp ys i j) ∧ a < i + 1 ∧ i + 1 ≤ j1 + 1 ∧ j1 < b ∧ Sws a b xs (swp ys i j) ∧ i < n from ⟨ptI_swap HS9.out.2.2.1 HS9.out.2.2.2.1 hij (by omega) (by omega) HS9.out.2.2.2.2.2.2.2 HS9.out.2.2.2.2.2.2.1, by have := HS9.out.2.2.2.1; omega, by omega, by omega, Sws.step i j HSW.out (by have := HS9.out.2.2.2.1; omega) (by omega) (by have := HS9.out.2.2.2.1; omega) (by omega) (by omega), by omega⟩)
                          clear r9 t9 hln hb hx hy hx3 hj1 hij hjb hpn hqn
                          go_wp2_with fail
                          go_region
                          go_wp2_with fail
                          go_roundw
                          case rel => exact ⟨i + 1, j1, swp ys i j, by go_num, rfl, HRT.out.1, HRT.out.2, HN.out.1, HN.out.2.1, HN.out.2.2.1, HN.out.2.2.2.1, HN.out.2.2.2.2.1⟩
                          case measure => have := HN.out; have := HI0.out; have := HI9.out; simp [intOf]; omega
                        · have hL := lessU_any x X false (decide_eq_false hc)
                          obtain ⟨j1, hj1⟩ : ∃ x, j - 1 = x := ⟨_, rfl⟩
                          have g1 : (j : Int) - 1 = (j1 : Int) := by omega
                          have HS := Lib.hid (show RowN wr B g n c ys ∧ Turn (fun k => k = g) W wr ∧ PtI a b i j1 X ys ∧ a < i ∧ i ≤ j1 + 1 ∧ j1 < b ∧ (i ≤ j1 → X ≤ atN ys i) ∧ j1 < j from ⟨hr, ht, ptI_down hv (by omega) (by rw [hx]; omega), hai, by omega, by omega, fun h => hst (by omega), by omega⟩)
                          clear hr ht hv hai hij hjb hb hlt hx hc hst hj1
                          go_wp2_with fail
                          go_quiet (first | (go_at_call 108; exact Calls.quiet_of_same (hL _)))
                          go_wp2_with fail
                          go_roundw
                          case rel => exact ⟨j1, rfl, HS.out.1.drewN _, HS.out.2.1.drewN _, HS.out.2.2.1, HS.out.2.2.2.1, HS.out.2.2.2.2.1, HS.out.2.2.2.2.2.1, HS.out.2.2.2.2.2.2.1⟩
                          case measure => have := HS.out; simp [intOf]; omega
                      · have q1 : decide ((i : Int) ≤ (j : Int)) = false := decide_eq_false (by omega)
                        have q2 : decide (i ≤ j) = false := decide_eq_false hlt
                        have HS := Lib.hid (show RowN wr B g n c ys ∧ Turn (fun k => k = g) W wr ∧ PtI a b i j X ys ∧ a < i ∧ i ≤ j + 1 ∧ j < b ∧ j < i from ⟨hr, ht, hv, hai, hij, hjb, by omega⟩)
                        clear hr ht hv hai hij hjb hb hlt hst
                        go_wp2_with fail
                        go_quiet (fail)
                        obtain ⟨w9, hw9⟩ : ∃ x, wr.drewN nq = x := ⟨_, rfl⟩
                        have HS9 := Lib.hid (And.intro (show RowN w9 B g n c ys by rw [← hw9]; exact HS.out.1.drewN _) (And.intro (show Turn (fun k => k = g) W w9 by rw [← hw9]; exact HS.out.2.1.drewN _) HS.out.2.2))
                        rw [hw9]
                        clear hw9 HS q1 q2
                        have t1 : (j : Int) < (i : Int) := by have := HS9.out.2.2.2.2.2.2; omega
                        have hja := HS9.out.2.2
                        have r9 := HS9.out.1
                        have t9 := HS9.out.2.1
                        have hln := r9.len
                        have hb := HB.out
                        obtain ⟨x, hx⟩ : ∃ x, atN ys j = x := ⟨_, rfl⟩
                        obtain ⟨y, hy⟩ : ∃ y, atN ys a = y := ⟨_, rfl⟩
                        have hpn : j < n := by omega
                        have hqn : a < n := by omega
                        have c1 := r9.cell j hpn x hx
                        have c2 := r9.cell a hqn y hy
                        have f1 := r9.frozen j
                        have f2 := r9.frozen a
                        obtain ⟨x3, hx3⟩ : ∃ x, atN (ys.set j y) a = x := ⟨_, rfl⟩
                        have c3 := (r9.set j y).cell a hqn x3 hx3
                        have f3 := (r9.set j y).frozen a
                        have HRT := Lib.hid (show RowN ((w9.setCell ⟨g, j, none⟩ (.int .u64 (y : Nat))).setCell ⟨g, a, none⟩ (.int .u64 (x : Nat))).drew B g n c (swp ys j a) ∧ Turn (fun k => k = g) W ((w9.setCell ⟨g, j, none⟩ (.int .u64 (y : Nat))).setCell ⟨g, a, none⟩ (.int .u64 (x : Nat))).drew from ⟨r9.swap j a x y hx hy, turn_swap0 t9 j a (.int .u64 (y : Nat)) (.int .u64 (x : Nat))⟩)
                        have hpni : (j : Int) < (n : Int) := by omega
                        have hqni : (a : Int) < (n : Int) := by omega
                        have HN := Lib.hid (show Sws a b xs (swp ys j a) ∧ a ≤ j ∧ j < b ∧ Cut a b j (swp ys j a) from by
                          have hij : i = j + 1 := by omega
                          refine ⟨Sws.step j a HSW.out (by omega) (by omega) (by omega) (by omega) (by omega), by omega, by omega, ptI_cut (P := X) ?_ (by omega) (by omega) (by omega)⟩
                          rw [← hij]; exact hja.1)
                        clear r9 t9 hln hb hx hy hx3 hja hpn hqn
                        go_wp2_with fail
                        go_region
                        go_wp2_with fail
                        go_ret2
                        exact ⟨j, false, swp ys j a, rfl, HRT.out.1, HRT.out.2, HN.out.1, HN.out.2.1, HN.out.2.2.1, HN.out.2.2.2⟩
            · have hL := lessU_any x X false (decide_eq_false hc)
              obtain ⟨j1, hj1⟩ : ∃ x, j - 1 = x := ⟨_, rfl⟩
              have g1 : (j : Int) - 1 = (j1 : Int) := by omega
              have HS := Lib.hid (show RowN wr B g n c ys ∧ Turn (fun k => k = g) W wr ∧ PtI a b i j1 X ys ∧ a < i ∧ i ≤ j1 + 1 ∧ j1 < b ∧ (i ≤ j1 → X ≤ atN ys i) ∧ j1 < j from ⟨hr, ht, ptI_down hv (by omega) (by rw [hx]; omega), hai, by omega, by omega, fun h => hst (by omega), by omega⟩)
              clear hr ht hv hai hij hjb hb hlt hx hc hst hj1
              go_wp2_with fail
              go_quiet (first | (go_at_call 108; exact Calls.quiet_of_same (hL _)))
              go_wp2_with fail
              go_roundw
              case rel => exact ⟨j1, rfl, HS.out.1.drewN _, HS.out.2.1.drewN _, HS.out.2.2.1, HS.out.2.2.2.1, HS.out.2.2.2.2.1, HS.out.2.2.2.2.2.1, HS.out.2.2.2.2.2.2.1⟩
              case measure => have := HS.out; simp [intOf]; omega
          · have q1 : decide ((i : Int) ≤ (j : Int)) = false := decide_eq_false (by omega)
            have q2 : decide (i ≤ j) = false := decide_eq_false hlt
            have HS := Lib.hid (show RowN wr B g n c ys ∧ Turn (fun k => k = g) W wr ∧ PtI a b i j X ys ∧ a < i ∧ i ≤ j + 1 ∧ j < b ∧ j < i from ⟨hr, ht, hv, hai, hij, hjb, by omega⟩)
            clear hr ht hv hai hij hjb hb hlt hst
            go_wp2_with fail
            go_quiet (fail)
            obtain ⟨w9, hw9⟩ : ∃ x, wr.drewN nq = x := ⟨_, rfl⟩
            have HS9 := Lib.hid (And.intro (show RowN w9 B g n c ys by rw [← hw9]; exact HS.out.1.drewN _) (And.intro (show Turn (fun k => k = g) W w9 by rw [← hw9]; exact HS.out.2.1.drewN _) HS.out.2.2))
            rw [hw9]
            clear hw9 HS q1 q2
            have t1 : (j : Int) < (i : Int) := by have := HS9.out.2.2.2.2.2.2; omega
            have hja := HS9.out.2.2
            have r9 := HS9.out.1
            have t9 := HS9.out.2.1
            have hln := r9.len
            have hb := HB.out
            obtain ⟨x, hx⟩ : ∃ x, atN ys j = x := ⟨_, rfl⟩
            obtain ⟨y, hy⟩ : ∃ y, atN ys a = y := ⟨_, rfl⟩
            have hpn : j < n := by omega
            have hqn : a < n := by omega
            have c1 := r9.cell j hpn x hx
            have c2 := r9.cell a hqn y hy
            have f1 := r9.frozen j
            have f2 := r9.frozen a
            obtain ⟨x3, hx3⟩ : ∃ x, atN (ys.set j y) a = x := ⟨_, rfl⟩
            have c3 := (r9.set j y).cell a hqn x3 hx3
            have f3 := (r9.set j y).frozen a
            have HRT := Lib.hid (show RowN ((w9.setCell ⟨g, j, none⟩ (.int .u64 (y : Nat))).setCell ⟨g, a, none⟩ (.int .u64 (x : Nat))).drew B g n c (swp ys j a) ∧ Turn (fun k => k = g) W ((w9.setCell ⟨g, j, none⟩ (.int .u64 (y : Nat))).setCell ⟨g, a, none⟩ (.int .u64 (x : Nat))).drew from ⟨r9.swap j a x y hx hy, turn_swap0 t9 j a (.int .u64 (y : Nat)) (.int .u64 (x : Nat))⟩)
            have hpni : (j : Int) < (n : Int) := by omega
            have hqni : (a : Int) < (n : Int) := by omega
            have HN := Lib.hid (show Sws a b xs (swp ys j a) ∧ a ≤ j ∧ j < b ∧ Cut a b j (swp ys j a) from by
              have hij : i = j + 1 := by omega
              refine ⟨Sws.step j a HSW.out (by omega) (by omega) (by omega) (by omega) (by omega), by omega, by omega, ptI_cut (P := X) ?_ (by omega) (by omega) (by omega)⟩
              rw [← hij]; exact hja.1)
            clear r9 t9 hln hb hx hy hx3 hja hpn hqn
            go_wp2_with fail
            go_region
            go_wp2_with fail
            go_ret2
            exact ⟨j, true, swp ys j a, rfl, HRT.out.1, HRT.out.2, HN.out.1, HN.out.2.1, HN.out.2.2.1, HN.out.2.2.2⟩
    · have q1 : decide ((i : Int) ≤ (j : Int)) = false := decide_eq_false (by omega)
      have q2 : decide (i ≤ j) = false := decide_eq_false hlt
      have HS := Lib.hid (show RowN wr B g n c ys ∧ Turn (fun k => k = g) W wr ∧ PtI a b i j X ys ∧ a < i ∧ i ≤ j + 1 ∧ j < b ∧ (i ≤ j → X ≤ atN ys i) from ⟨hr, ht, hv, hai, hij, hjb, fun h => absurd h hlt⟩)
      clear hr ht hv hai hij hjb hb hlt
      go_wp2_with fail
      go_quiet (fail)
      go_wp2_with fail
      obtain ⟨w9, hw9⟩ : ∃ x, wr.drewN nq = x := ⟨_, rfl⟩
      have HS9 := Lib.hid (And.intro (show RowN w9 B g n c ys by rw [← hw9]; exact HS.out.1.drewN _) (And.intro (show Turn (fun k => k = g) W w9 by rw [← hw9]; exact HS.out.2.1.drewN _) HS.out.2.2))
      rw [hw9]
      clear hw9 HS q1 q2
      obtain ⟨wr, hwr⟩ : ∃ x, x = w9 := ⟨_, rfl⟩
      rw [← hwr] at HS9 ⊢
      have HQ2 := HS9
      clear HS9 hwr
      obtain ⟨w5, hw5⟩ : ∃ w0, w0 = wr := ⟨_, rfl⟩
      have HQ5 := Lib.hid (show RowN w5 B g n c ys ∧ Turn (fun k => k = g) W w5 ∧ PtI a b i j X ys ∧ a < i ∧ i ≤ j + 1 ∧ j < b ∧ (i ≤ j → X ≤ atN ys i) from by rw [hw5]; exact HQ2.out)
      rw [← hw5]
      clear HQ2 hw5
      obtain ⟨j0, hj0⟩ : ∃ j0, j0 = j := ⟨_, rfl⟩
      rw [← hj0] at HQ5 ⊢
      clear hj0
      go_loopw [11] (fun vj wr => ∃ (j : Nat), vj = .int .i64 j ∧ RowN wr B g n c ys ∧ Turn (fun k => k = g) W wr ∧ PtI a b i j X ys ∧ a < i ∧ i ≤ j + 1 ∧ j < b ∧ (i ≤ j → X ≤ atN ys i)) (fun vj _ => (intOf vj).toNat)
      case atStart => exact ⟨j0, rfl, HQ5.out⟩
      case round =>
        obtain ⟨j, rfl, hr, ht, hv, hai, hij, hjb, hst⟩ := hrel
        have hb := HB.out
        have hi9 : i ≤ 1000000000 := by omega
        have hj9 : j ≤ 1000000000 := by omega
        by_cases hlt : i ≤ j
        · have q1 : decide ((i : Int) ≤ (j : Int)) = true := decide_eq_true (by omega)
          have q2 : decide (i ≤ j) = true := decide_eq_true hlt
          obtain ⟨x, hx⟩ : ∃ x, atN ys j = x := ⟨_, rfl⟩
          have c1 := hr.cell j (by omega) x hx
          have c2 := hr.cell a (by omega) X hv.2.2
          have han : (a : Int) < (n : Int) := by omega
          have hvn : (j : Int) < (n : Int) := by omega
          by_cases hc : x < X
          · have hL := lessU_any x X true (decide_eq_true hc)
            have HS := Lib.hid (show RowN wr B g n c ys ∧ Turn (fun k => k = g) W wr ∧ PtI a b i j X ys ∧ a < i ∧ i < j ∧ j < b ∧ X ≤ atN ys i ∧ atN ys j < X from ⟨hr, ht, hv, hai, by
              have h1 := hst hlt
              rcases Nat.lt_or_ge i j with h2 | h2
              · exact h2
              · obtain rfl : i = j := by omega
                rw [hx] at h1; omega, hjb, hst hlt, by rw [hx]; omega⟩)
            clear hr ht hv hai hij hjb hb hlt hx hc hst
            go_wp2_with fail
            go_quiet (first | (go_at_call 108; exact Calls.quiet_of_same (hL _)))
            obtain ⟨w9, hw9⟩ : ∃ x, wr.drewN nq = x := ⟨_, rfl⟩
            have HS9 := Lib.hid (And.intro (show RowN w9 B g n c ys by rw [← hw9]; exact HS.out.1.drewN _) (And.intro (show Turn (fun k => k = g) W w9 by rw [← hw9]; exact HS.out.2.1.drewN _) HS.out.2.2))
            rw [hw9]
            clear hw9 HS c1 c2 q1 q2 hL hvn
            have t1 : ¬ (j : Int) < (i : Int) := by have := HS9.out.2.2.2.2.1; omega
            have hij := HS9.out.2.2.2.2.1
            have hjb := HS9.out.2.2.2.2.2.1
            have r9 := HS9.out.1
            have t9 := HS9.out.2.1
            have hln := r9.len
            have hb := HB.out
            obtain ⟨x, hx⟩ : ∃ x, atN ys i = x := ⟨_, rfl⟩
            obtain ⟨y, hy⟩ : ∃ y, atN ys j = y := ⟨_, rfl⟩
            have hpn : i < n := by omega
            have hqn : j < n := by omega
            have c1 := r9.cell i hpn x hx
            have c2 := r9.cell j hqn y hy
            have f1 := r9.frozen i
            have f2 := r9.frozen j
            obtain ⟨x3, hx3⟩ : ∃ x, atN (ys.set i y) j = x := ⟨_, rfl⟩
            have c3 := (r9.set i y).cell j hqn x3 hx3
            have f3 := (r9.set i y).frozen j
            have HRT := Lib.hid (show RowN ((w9.setCell ⟨g, i, none⟩ (.int .u64 (y : Nat))).setCell ⟨g, j, none⟩ (.int .u64 (x : Nat))).drew B g n c (swp ys i j) ∧ Turn (fun k => k = g) W ((w9.setCell ⟨g, i, none⟩ (.int .u64 (y : Nat))).setCell ⟨g, j, none⟩ (.int .u64 (x : Nat))).drew from ⟨r9.swap i j x y hx hy, turn_swap0 t9 i j (.int .u64 (y : Nat)) (.int .u64 (x : Nat))⟩)
            have hpni : (i : Int) < (n : Int) := by omega
            have hqni : (j : Int) < (n : Int) := by omega
            obtain ⟨j1, hj1⟩ : ∃ x, j - 1 = x := ⟨_, rfl⟩
            have g1 : (j : Int) - 1 = (j1 : Int) := by omega
            have HN := Lib.hid (show PtI a b (i + 1) j1 X (swp ys i j) ∧ a < i + 1 ∧ i + 1 ≤ j1 + 1 ∧ j1 < b ∧ Sws a b xs (swp ys i j) ∧ i < n from ⟨ptI_swap HS9.out.2.2.1 HS9.out.2.2.2.1 hij (by omega) (by omega) HS9.out.2.2.2.2.2.2.2 HS9.out.2.2.2.2.2.2.1, by have := HS9.out.2.2.2.1; omega, by omega, by omega, Sws.step i j HSW.out (by have := HS9.out.2.2.2.1; omega) (by omega) (by have := HS9.out.2.2.2.1; omega) (by omega) (by omega), by omega⟩)
            clear r9 t9 hln hb hx hy hx3 hj1 hij hjb hpn hqn
            go_wp2_with fail
            go_region
            go_wp2_with fail
            obtain ⟨w1, hw1⟩ : ∃ v, ((w9.setCell ⟨g, i, none⟩ (.int .u64 (y : Nat))).setCell ⟨g, j, none⟩ (.int .u64 (x : Nat))).drew = v := ⟨_, rfl⟩
            rw [hw1] at HRT ⊢
            obtain ⟨zs, hzs⟩ : ∃ z, swp ys i j = z := ⟨_, rfl⟩
            rw [hzs] at HRT HN
            have HN1 := Lib.hid (And.intro HRT.out HN.out)
            obtain ⟨i5, hi5⟩ : ∃ z, i = z := ⟨_, rfl⟩
            rw [hi5] at HN1 ⊢
            clear hw1 c1 c2 c3 f1 f2 f3 hzs hpni hqni HRT HN HS9 hi5 HSW t1 HI0 HI9 han
            go_loopw [10, 11] (fun vi vj wr => ∃ (i j : Nat) (ys : List Nat), vi = .int .i64 i ∧ vj = .int .i64 j ∧ RowN wr B g n c ys ∧ Turn (fun k => k = g) W wr ∧ PtI a b i j X ys ∧ a < i ∧ i ≤ j + 1 ∧ j < b ∧ Sws a b xs ys) (fun vi vj _ => n - (intOf vi).toNat)
            case atStart => exact ⟨i5 + 1, j1, zs, by go_num, rfl, HN1.out.1.1, HN1.out.1.2, HN1.out.2.1, HN1.out.2.2.1, HN1.out.2.2.2.1, HN1.out.2.2.2.2.1, HN1.out.2.2.2.2.2.1⟩
            case round =>
              obtain ⟨i, j, ys, rfl, rfl, hr, ht, hv, hai, hij, hjb, hs⟩ := hrel
              have hi9 : i ≤ 1000000000 := by have := HB.out; omega
              have hj9 : j ≤ 1000000000 := by have := HB.out; omega
              have HQ := Lib.hid (show RowN wr B g n c ys ∧ Turn (fun k => k = g) W wr ∧ PtI a b i j X ys ∧ a < i ∧ i ≤ j + 1 ∧ j < b from ⟨hr, ht, hv, hai, hij, hjb⟩)
              have HSW := Lib.hid hs
              clear hr ht hv hai hij hjb hs HN1
              go_wp2_with fail
              obtain ⟨w0, hw0⟩ : ∃ w0, w0 = wr := ⟨_, rfl⟩
              have HQ0 := Lib.hid (show RowN w0 B g n c ys ∧ Turn (fun k => k = g) W w0 ∧ PtI a b i j X ys ∧ a < i ∧ i ≤ j + 1 ∧ j < b from by rw [hw0]; exact HQ.out)
              rw [← hw0]
              clear HQ hw0
              obtain ⟨i0, hi0⟩ : ∃ i0, i0 = i := ⟨_, rfl⟩
              rw [← hi0] at HQ0 ⊢
              have HI9 := Lib.hid hi0
              clear hi0
              go_loopw [10] (fun vi wr => ∃ (i : Nat), vi = .int .i64 i ∧ i0 ≤ i ∧ RowN wr B g n c ys ∧ Turn (fun k => k = g) W wr ∧ PtI a b i j X ys ∧ a < i ∧ i ≤ j + 1 ∧ j < b) (fun vi _ => n - (intOf vi).toNat)
              case atStart => exact ⟨i0, rfl, Nat.le_refl _, HQ0.out⟩
              case round =>
                obtain ⟨i, rfl, hi0, hr, ht, hv, hai, hij, hjb⟩ := hrel
                have HI0 := Lib.hid hi0
                clear hi0
                have hb := HB.out
                have hi9 : i ≤ 1000000000 := by omega
                have hj9 : j ≤ 1000000000 := by omega
                by_cases hlt : i ≤ j
                · have q1 : decide ((i : Int) ≤ (j : Int)) = true := decide_eq_true (by omega)
                  have q2 : decide (i ≤ j) = true := decide_eq_true hlt
                  obtain ⟨x, hx⟩ : ∃ x, atN ys i = x := ⟨_, rfl⟩
                  have c1 := hr.cell i (by omega) x hx
                  have c2 := hr.cell a (by omega) X hv.2.2
                  have han : (a : Int) < (n : Int) := by omega
                  have hvn : (i : Int) < (n : Int) := by omega
                  by_cases hc : x < X
                  · have hL := lessU_any x X true (decide_eq_true hc)
                    have HS := Lib.hid (show RowN wr B g n c ys ∧ Turn (fun k => k = g) W wr ∧ PtI a b (i + 1) j X ys ∧ a < i + 1 ∧ i + 1 ≤ j + 1 ∧ j < b ∧ i < n from ⟨hr, ht, ptI_up hv (by rw [hx]; omega), by omega, by omega, hjb, by omega⟩)
                    clear hr ht hv hai hij hjb hb hlt hx hc
                    go_wp2_with fail
                    go_quiet (first | (go_at_call 108; exact Calls.quiet_of_same (hL _)))
                    go_wp2_with fail
                    go_roundw
                    case rel => exact ⟨i + 1, by go_num, by have := HI0.out; omega, HS.out.1.drewN _, HS.out.2.1.drewN _, HS.out.2.2.1, HS.out.2.2.2.1, HS.out.2.2.2.2.1, HS.out.2.2.2.2.2.1⟩
                    case measure => have := HS.out; simp [intOf]; omega
                  · have hL := lessU_any x X false (decide_eq_false hc)
                    have HS := Lib.hid (show RowN wr B g n c ys ∧ Turn (fun k => k = g) W wr ∧ PtI a b i j X ys ∧ a < i ∧ i ≤ j + 1 ∧ j < b ∧ (i ≤ j → X ≤ atN ys i) from ⟨hr, ht, hv, hai, hij, hjb, fun _ => by rw [hx]; omega⟩)
                    clear hr ht hv hai hij hjb hb hlt hx hc
                    go_wp2_with fail
                    go_quiet (first | (go_at_call 108; exact Calls.quiet_of_same (hL _)))
                    go_wp2_with fail
                    obtain ⟨w9, hw9⟩ : ∃ x, wr.drewN nq = x := ⟨_, rfl⟩
                    have HS9 := Lib.hid (And.intro (show RowN w9 B g n c ys by rw [← hw9]; exact HS.out.1.drewN _) (And.intro (show Turn (fun k => k = g) W w9 by rw [← hw9]; exact HS.out.2.1.drewN _) HS.out.2.2))
                    rw [hw9]
                    clear hw9 HS c1 c2 q1 q2 hL hvn
                    obtain ⟨wr, hwr⟩ : ∃ x, x = w9 := ⟨_, rfl⟩
                    rw [← hwr] at HS9 ⊢
                    have HQ2 := HS9
                    clear HS9 hwr
                    obtain ⟨w5, hw5⟩ : ∃ w0, w0 = wr := ⟨_, rfl⟩
                    have HQ5 := Lib.hid (show RowN w5 B g n c ys ∧ Turn (fun k => k = g) W w5 ∧ PtI a b i j X ys ∧ a < i ∧ i ≤ j + 1 ∧ j < b ∧ (i ≤ j → X ≤ atN ys i) from by rw [hw5]; exact HQ2.out)
                    rw [← hw5]
                    clear HQ2 hw5
                    obtain ⟨j0, hj0⟩ : ∃ j0, j0 = j := ⟨_, rfl⟩
                    rw [← hj0] at HQ5 ⊢
                    clear hj0
                    go_loopw [11] (fun vj wr => ∃ (j : Nat), vj = .int .i64 j ∧ RowN wr B g n c ys ∧ Turn (fun k => k = g) W wr ∧ PtI a b i j X ys ∧ a < i ∧ i ≤ j + 1 ∧ j < b ∧ (i ≤ j → X ≤ atN ys i)) (fun vj _ => (intOf vj).toNat)
                    case atStart => exact ⟨j0, rfl, HQ5.out⟩
                    case round =>
                      obtain ⟨j, rfl, hr, ht, hv, hai, hij, hjb, hst⟩ := hrel
                      have hb := HB.out
                      have hi9 : i ≤ 1000000000 := by omega
                      have hj9 : j ≤ 1000000000 := by omega
                      by_cases hlt : i ≤ j
                      · have q1 : decide ((i : Int) ≤ (j : Int)) = true := decide_eq_true (by omega)
                        have q2 : decide (i ≤ j) = true := decide_eq_true hlt
                        obtain ⟨x, hx⟩ : ∃ x, atN ys j = x := ⟨_, rfl⟩
                        have c1 := hr.cell j (by omega) x hx
                        have c2 := hr.cell a (by omega) X hv.2.2
                        have han : (a : Int) < (n : Int) := by omega
                        have hvn : (j : Int) < (n : Int) := by omega
                        by_cases hc : x < X
                        · have hL := lessU_any x X true (decide_eq_true hc)
                          have HS := Lib.hid (show RowN wr B g n c ys ∧ Turn (fun k => k = g) W wr ∧ PtI a b i j X ys ∧ a < i ∧ i < j ∧ j < b ∧ X ≤ atN ys i ∧ atN ys j < X from ⟨hr, ht, hv, hai, by
                            have h1 := hst hlt
                            rcases Nat.lt_or_ge i j with h2 | h2
                            · exact h2
                            · obtain rfl : i = j := by omega
                              rw [hx] at h1; omega, hjb, hst hlt, by rw [hx]; omega⟩)
                          clear hr ht hv hai hij hjb hb hlt hx hc hst
                          go_wp2_with fail
                          go_quiet (first | (go_at_call 108; exact Calls.quiet_of_same (hL _)))
                          obtain ⟨w9, hw9⟩ : ∃ x, wr.drewN nq = x := ⟨_, rfl⟩
                          have HS9 := Lib.hid (And.intro (show RowN w9 B g n c ys by rw [← hw9]; exact HS.out.1.drewN _) (And.intro (show Turn (fun k => k = g) W w9 by rw [← hw9]; exact HS.out.2.1.drewN _) HS.out.2.2))
                          rw [hw9]
                          clear hw9 HS c1 c2 q1 q2 hL hvn
                          have t1 : ¬ (j : Int) < (i : Int) := by have := HS9.out.2.2.2.2.1; omega
                          have hij := HS9.out.2.2.2.2.1
                          have hjb := HS9.out.2.2.2.2.2.1
                          have r9 := HS9.out.1
                          have t9 := HS9.out.2.1
                          have hln := r9.len
                          have hb := HB.out
                          obtain ⟨x, hx⟩ : ∃ x, atN ys i = x := ⟨_, rfl⟩
                          obtain ⟨y, hy⟩ : ∃ y, atN ys j = y := ⟨_, rfl⟩
                          have hpn : i < n := by omega
                          have hqn : j < n := by omega
                          have c1 := r9.cell i hpn x hx
                          have c2 := r9.cell j hqn y hy
                          have f1 := r9.frozen i
                          have f2 := r9.frozen j
                          obtain ⟨x3, hx3⟩ : ∃ x, atN (ys.set i y) j = x := ⟨_, rfl⟩
                          have c3 := (r9.set i y).cell j hqn x3 hx3
                          have f3 := (r9.set i y).frozen j
                          have HRT := Lib.hid (show RowN ((w9.setCell ⟨g, i, none⟩ (.int .u64 (y : Nat))).setCell ⟨g, j, none⟩ (.int .u64 (x : Nat))).drew B g n c (swp ys i j) ∧ Turn (fun k => k = g) W ((w9.setCell ⟨g, i, none⟩ (.int .u64 (y : Nat))).setCell ⟨g, j, none⟩ (.int .u64 (x : Nat))).drew from ⟨r9.swap i j x y hx hy, turn_swap0 t9 i j (.int .u64 (y : Nat)) (.int .u64 (x : Nat))⟩)
                          have hpni : (i : Int) < (n : Int) := by omega
                          have hqni : (j : Int) < (n : Int) := by omega
                          obtain ⟨j1, hj1⟩ : ∃ x, j - 1 = x := ⟨_, rfl⟩
                          have g1 : (j : Int) - 1 = (j1 : Int) := by omega
                          have HN := Lib.hid (show PtI a b (i + 1) j1 X (swp ys i j) ∧ a < i + 1 ∧ i + 1 ≤ j1 + 1 ∧ j1 < b ∧ Sws a b xs (swp ys i j) ∧ i < n from ⟨ptI_swap HS9.out.2.2.1 HS9.out.2.2.2.1 hij (by omega) (by omega) HS9.out.2.2.2.2.2.2.2 HS9.out.2.2.2.2.2.2.1, by have := HS9.out.2.2.2.1; omega, by omega, by omega, Sws.step i j HSW.out (by have := HS9.out.2.2.2.1; omega) (by omega) (by have := HS9.out.2.2.2.1; omega) (by omega) (by omega), by omega⟩)
                          clear r9 t9 hln hb hx hy hx3 hj1 hij hjb hpn hqn
                          go_wp2_with fail
                          go_region
                          go_wp2_with fail
                          go_roundw
                          case rel => exact ⟨i + 1, j1, swp ys i j, by go_num, rfl, HRT.out.1, HRT.out.2, HN.out.1, HN.out.2.1, HN.out.2.2.1, HN.out.2.2.2.1, HN.out.2.2.2.2.1⟩
                          case measure => have := HN.out; have := HI0.out; have := HI9.out; simp [intOf]; omega
                        · have hL := lessU_any x X false (decide_eq_false hc)
                          obtain ⟨j1, hj1⟩ : ∃ x, j - 1 = x := ⟨_, rfl⟩
                          have g1 : (j : Int) - 1 = (j1 : Int) := by omega
                          have HS := Lib.hid (show RowN wr B g n c ys ∧ Turn (fun k => k = g) W wr ∧ PtI a b i j1 X ys ∧ a < i ∧ i ≤ j1 + 1 ∧ j1 < b ∧ (i ≤ j1 → X ≤ atN ys i) ∧ j1 < j from ⟨hr, ht, ptI_down hv (by omega) (by rw [hx]; omega), hai, by omega, by omega, fun h => hst (by omega), by omega⟩)
                          clear hr ht hv hai hij hjb hb hlt hx hc hst hj1
                          go_wp2_with fail
                          go_quiet (first | (go_at_call 108; exact Calls.quiet_of_same (hL _)))
                          go_wp2_with fail
                          go_roundw
                          case rel => exact ⟨j1, rfl, HS.out.1.drewN _, HS.out.2.1.drewN _, HS.out.2.2.1, HS.out.2.2.2.1, HS.out.2.2.2.2.1, HS.out.2.2.2.2.2.1, HS.out.2.2.2.2.2.2.1⟩
                          case measure => have := HS.out; simp [intOf]; omega
                      · have q1 : decide ((i : Int) ≤ (j : Int)) = false := decide_eq_false (by omega)
                        have q2 : decide (i ≤ j) = false := decide_eq_false hlt
                        have HS := Lib.hid (show RowN wr B g n c ys ∧ Turn (fun k => k = g) W wr ∧ PtI a b i j X ys ∧ a < i ∧ i ≤ j + 1 ∧ j < b ∧ j < i from ⟨hr, ht, hv, hai, hij, hjb, by omega⟩)
                        clear hr ht hv hai hij hjb hb hlt hst
                        go_wp2_with fail
                        go_quiet (fail)
                        obtain ⟨w9, hw9⟩ : ∃ x, wr.drewN nq = x := ⟨_, rfl⟩
                        have HS9 := Lib.hid (And.intro (show RowN w9 B g n c ys by rw [← hw9]; exact HS.out.1.drewN _) (And.intro (show Turn (fun k => k = g) W w9 by rw [← hw9]; exact HS.out.2.1.drewN _) HS.out.2.2))
                        rw [hw9]
                        clear hw9 HS q1 q2
                        have t1 : (j : Int) < (i : Int) := by have := HS9.out.2.2.2.2.2.2; omega
                        have hja := HS9.out.2.2
                        have r9 := HS9.out.1
                        have t9 := HS9.out.2.1
                        have hln := r9.len
                        have hb := HB.out
                        obtain ⟨x, hx⟩ : ∃ x, atN ys j = x := ⟨_, rfl⟩
                        obtain ⟨y, hy⟩ : ∃ y, atN ys a = y := ⟨_, rfl⟩
                        have hpn : j < n := by omega
                        have hqn : a < n := by omega
                        have c1 := r9.cell j hpn x hx
                        have c2 := r9.cell a hqn y hy
                        have f1 := r9.frozen j
                        have f2 := r9.frozen a
                        obtain ⟨x3, hx3⟩ : ∃ x, atN (ys.set j y) a = x := ⟨_, rfl⟩
                        have c3 := (r9.set j y).cell a hqn x3 hx3
                        have f3 := (r9.set j y).frozen a
                        have HRT := Lib.hid (show RowN ((w9.setCell ⟨g, j, none⟩ (.int .u64 (y : Nat))).setCell ⟨g, a, none⟩ (.int .u64 (x : Nat))).drew B g n c (swp ys j a) ∧ Turn (fun k => k = g) W ((w9.setCell ⟨g, j, none⟩ (.int .u64 (y : Nat))).setCell ⟨g, a, none⟩ (.int .u64 (x : Nat))).drew from ⟨r9.swap j a x y hx hy, turn_swap0 t9 j a (.int .u64 (y : Nat)) (.int .u64 (x : Nat))⟩)
                        have hpni : (j : Int) < (n : Int) := by omega
                        have hqni : (a : Int) < (n : Int) := by omega
                        have HN := Lib.hid (show Sws a b xs (swp ys j a) ∧ a ≤ j ∧ j < b ∧ Cut a b j (swp ys j a) from by
                          have hij : i = j + 1 := by omega
                          refine ⟨Sws.step j a HSW.out (by omega) (by omega) (by omega) (by omega) (by omega), by omega, by omega, ptI_cut (P := X) ?_ (by omega) (by omega) (by omega)⟩
                          rw [← hij]; exact hja.1)
                        clear r9 t9 hln hb hx hy hx3 hja hpn hqn
                        go_wp2_with fail
                        go_region
                        go_wp2_with fail
                        go_ret2
                        exact ⟨j, false, swp ys j a, rfl, HRT.out.1, HRT.out.2, HN.out.1, HN.out.2.1, HN.out.2.2.1, HN.out.2.2.2⟩
                · have q1 : decide ((i : Int) ≤ (j : Int)) = false := decide_eq_false (by omega)
                  have q2 : decide (i ≤ j) = false := decide_eq_false hlt
                  have HS := Lib.hid (show RowN wr B g n c ys ∧ Turn (fun k => k = g) W wr ∧ PtI a b i j X ys ∧ a < i ∧ i ≤ j + 1 ∧ j < b ∧ (i ≤ j → X ≤ atN ys i) from ⟨hr, ht, hv, hai, hij, hjb, fun h => absurd h hlt⟩)
                  clear hr ht hv hai hij hjb hb hlt
                  go_wp2_with fail
                  go_quiet (fail)
                  go_wp2_with fail
                  obtain ⟨w9, hw9⟩ : ∃ x, wr.drewN nq = x := ⟨_, rfl⟩
                  have HS9 := Lib.hid (And.intro (show RowN w9 B g n c ys by rw [← hw9]; exact HS.out.1.drewN _) (And.intro (show Turn (fun k => k = g) W w9 by rw [← hw9]; exact HS.out.2.1.drewN _) HS.out.2.2))
                  rw [hw9]
                  clear hw9 HS q1 q2
                  obtain ⟨wr, hwr⟩ : ∃ x, x = w9 := ⟨_, rfl⟩
                  rw [← hwr] at HS9 ⊢
                  have HQ2 := HS9
                  clear HS9 hwr
                  obtain ⟨w5, hw5⟩ : ∃ w0, w0 = wr := ⟨_, rfl⟩
                  have HQ5 := Lib.hid (show RowN w5 B g n c ys ∧ Turn (fun k => k = g) W w5 ∧ PtI a b i j X ys ∧ a < i ∧ i ≤ j + 1 ∧ j < b ∧ (i ≤ j → X ≤ atN ys i) from by rw [hw5]; exact HQ2.out)
                  rw [← hw5]
                  clear HQ2 hw5
                  obtain ⟨j0, hj0⟩ : ∃ j0, j0 = j := ⟨_, rfl⟩
                  rw [← hj0] at HQ5 ⊢
                  clear hj0
                  go_loopw [11] (fun vj wr => ∃ (j : Nat), vj = .int .i64 j ∧ RowN wr B g n c ys ∧ Turn (fun k => k = g) W wr ∧ PtI a b i j X ys ∧ a < i ∧ i ≤ j + 1 ∧ j < b ∧ (i ≤ j → X ≤ atN ys i)) (fun vj _ => (intOf vj).toNat)
                  case atStart => exact ⟨j0, rfl, HQ5.out⟩
                  case round =>
                    obtain ⟨j, rfl, hr, ht, hv, hai, hij, hjb, hst⟩ := hrel
                    have hb := HB.out
                    have hi9 : i ≤ 1000000000 := by omega
                    have hj9 : j ≤ 1000000000 := by omega
                    by_cases hlt : i ≤ j
                    · have q1 : decide ((i : Int) ≤ (j : Int)) = true := decide_eq_true (by omega)
                      have q2 : decide (i ≤ j) = true := decide_eq_true hlt
                      obtain ⟨x, hx⟩ : ∃ x, atN ys j = x := ⟨_, rfl⟩
                      have c1 := hr.cell j (by omega) x hx
                      have c2 := hr.cell a (by omega) X hv.2.2
                      have han : (a : Int) < (n : Int) := by omega
                      have hvn : (j : Int) < (n : Int) := by omega
                      by_cases hc : x < X
                      · have hL := lessU_any x X true (decide_eq_true hc)
                        have HS := Lib.hid (show RowN wr B g n c ys ∧ Turn (fun k => k = g) W wr ∧ PtI a b i j X ys ∧ a < i ∧ i < j ∧ j < b ∧ X ≤ atN ys i ∧ atN ys j < X from ⟨hr, ht, hv, hai, by
                          have h1 := hst hlt
                          rcases Nat.lt_or_ge i j with h2 | h2
                          · exact h2
                          · obtain rfl : i = j := by omega
                            rw [hx] at h1; omega, hjb, hst hlt, by rw [hx]; omega⟩)
                        clear hr ht hv hai hij hjb hb hlt hx hc hst
                        go_wp2_with fail
                        go_quiet (first | (go_at_call 108; exact Calls.quiet_of_same (hL _)))
                        obtain ⟨w9, hw9⟩ : ∃ x, wr.drewN nq = x := ⟨_, rfl⟩
                        have HS9 := Lib.hid (And.intro (show RowN w9 B g n c ys by rw [← hw9]; exact HS.out.1.drewN _) (And.intro (show Turn (fun k => k = g) W w9 by rw [← hw9]; exact HS.out.2.1.drewN _) HS.out.2.2))
                        rw [hw9]
                        clear hw9 HS c1 c2 q1 q2 hL hvn
                        have t1 : ¬ (j : Int) < (i : Int) := by have := HS9.out.2.2.2.2.1; omega
                        have hij := HS9.out.2.2.2.2.1
                        have hjb := HS9.out.2.2.2.2.2.1
                        have r9 := HS9.out.1
                        have t9 := HS9.out.2.1
                        have hln := r9.len
                        have hb := HB.out
                        obtain ⟨x, hx⟩ : ∃ x, atN ys i = x := ⟨_, rfl⟩
                        obtain ⟨y, hy⟩ : ∃ y, atN ys j = y := ⟨_, rfl⟩
                        have hpn : i < n := by omega
                        have hqn : j < n := by omega
                        have c1 := r9.cell i hpn x hx
                        have c2 := r9.cell j hqn y hy
                        have f1 := r9.frozen i
                        have f2 := r9.frozen j
                        obtain ⟨x3, hx3⟩ : ∃ x, atN (ys.set i y) j = x := ⟨_, rfl⟩
                        have c3 := (r9.set i y).cell j hqn x3 hx3
                        have f3 := (r9.set i y).frozen j
                        have HRT := Lib.hid (show RowN ((w9.setCell ⟨g, i, none⟩ (.int .u64 (y : Nat))).setCell ⟨g, j, none⟩ (.int .u64 (x : Nat))).drew B g n c (swp ys i j) ∧ Turn (fun k => k = g) W ((w9.setCell ⟨g, i, none⟩ (.int .u64 (y : Nat))).setCell ⟨g, j, none⟩ (.int .u64 (x : Nat))).drew from ⟨r9.swap i j x y hx hy, turn_swap0 t9 i j (.int .u64 (y : Nat)) (.int .u64 (x : Nat))⟩)
                        have hpni : (i : Int) < (n : Int) := by omega
                        have hqni : (j : Int) < (n : Int) := by omega
                        obtain ⟨j1, hj1⟩ : ∃ x, j - 1 = x := ⟨_, rfl⟩
                        have g1 : (j : Int) - 1 = (j1 : Int) := by omega
                        have HN := Lib.hid (show PtI a b (i + 1) j1 X (swp ys i j) ∧ a < i + 1 ∧ i + 1 ≤ j1 + 1 ∧ j1 < b ∧ Sws a b xs (swp ys i j) ∧ i < n from ⟨ptI_swap HS9.out.2.2.1 HS9.out.2.2.2.1 hij (by omega) (by omega) HS9.out.2.2.2.2.2.2.2 HS9.out.2.2.2.2.2.2.1, by have := HS9.out.2.2.2.1; omega, by omega, by omega, Sws.step i j HSW.out (by have := HS9.out.2.2.2.1; omega) (by omega) (by have := HS9.out.2.2.2.1; omega) (by omega) (by omega), by omega⟩)
                        clear r9 t9 hln hb hx hy hx3 hj1 hij hjb hpn hqn
                        go_wp2_with fail
                        go_region
                        go_wp2_with fail
                        go_roundw
                        case rel => exact ⟨i + 1, j1, swp ys i j, by go_num, rfl, HRT.out.1, HRT.out.2, HN.out.1, HN.out.2.1, HN.out.2.2.1, HN.out.2.2.2.1, HN.out.2.2.2.2.1⟩
                        case measure => have := HN.out; have := HI0.out; have := HI9.out; simp [intOf]; omega
                      · have hL := lessU_any x X false (decide_eq_false hc)
                        obtain ⟨j1, hj1⟩ : ∃ x, j - 1 = x := ⟨_, rfl⟩
                        have g1 : (j : Int) - 1 = (j1 : Int) := by omega
                        have HS := Lib.hid (show RowN wr B g n c ys ∧ Turn (fun k => k = g) W wr ∧ PtI a b i j1 X ys ∧ a < i ∧ i ≤ j1 + 1 ∧ j1 < b ∧ (i ≤ j1 → X ≤ atN ys i) ∧ j1 < j from ⟨hr, ht, ptI_down hv (by omega) (by rw [hx]; omega), hai, by omega, by omega, fun h => hst (by omega), by omega⟩)
                        clear hr ht hv hai hij hjb hb hlt hx hc hst hj1
                        go_wp2_with fail
                        go_quiet (first | (go_at_call 108; exact Calls.quiet_of_same (hL _)))
                        go_wp2_with fail
                        go_roundw
                        case rel => exact ⟨j1, rfl, HS.out.1.drewN _, HS.out.2.1.drewN _, HS.out.2.2.1, HS.out.2.2.2.1, HS.out.2.2.2.2.1, HS.out.2.2.2.2.2.1, HS.out.2.2.2.2.2.2.1⟩
                        case measure => have := HS.out; simp [intOf]; omega
                    · have q1 : decide ((i : Int) ≤ (j : Int)) = false := decide_eq_false (by omega)
                      have q2 : decide (i ≤ j) = false := decide_eq_false hlt
                      have HS := Lib.hid (show RowN wr B g n c ys ∧ Turn (fun k => k = g) W wr ∧ PtI a b i j X ys ∧ a < i ∧ i ≤ j + 1 ∧ j < b ∧ j < i from ⟨hr, ht, hv, hai, hij, hjb, by omega⟩)
                      clear hr ht hv hai hij hjb hb hlt hst
                      go_wp2_with fail
                      go_quiet (fail)
                      obtain ⟨w9, hw9⟩ : ∃ x, wr.drewN nq = x := ⟨_, rfl⟩
                      have HS9 := Lib.hid (And.intro (show RowN w9 B g n c ys by rw [← hw9]; exact HS.out.1.drewN _) (And.intro (show Turn (fun k => k = g) W w9 by rw [← hw9]; exact HS.out.2.1.drewN _) HS.out.2.2))
                      rw [hw9]
                      clear hw9 HS q1 q2
                      have t1 : (j : Int) < (i : Int) := by have := HS9.out.2.2.2.2.2.2; omega
                      have hja := HS9.out.2.2
                      have r9 := HS9.out.1
                      have t9 := HS9.out.2.1
                      have hln := r9.len
                      have hb := HB.out
                      obtain ⟨x, hx⟩ : ∃ x, atN ys j = x := ⟨_, rfl⟩
                      obtain ⟨y, hy⟩ : ∃ y, atN ys a = y := ⟨_, rfl⟩
                      have hpn : j < n := by omega
                      have hqn : a < n := by omega
                      have c1 := r9.cell j hpn x hx
                      have c2 := r9.cell a hqn y hy
                      have f1 := r9.frozen j
                      have f2 := r9.frozen a
                      obtain ⟨x3, hx3⟩ : ∃ x, atN (ys.set j y) a = x := ⟨_, rfl⟩
                      have c3 := (r9.set j y).cell a hqn x3 hx3
                      have f3 := (r9.set j y).frozen a
                      have HRT := Lib.hid (show RowN ((w9.setCell ⟨g, j, none⟩ (.int .u64 (y : Nat))).setCell ⟨g, a, none⟩ (.int .u64 (x : Nat))).drew B g n c (swp ys j a) ∧ Turn (fun k => k = g) W ((w9.setCell ⟨g, j, none⟩ (.int .u64 (y : Nat))).setCell ⟨g, a, none⟩ (.int .u64 (x : Nat))).drew from ⟨r9.swap j a x y hx hy, turn_swap0 t9 j a (.int .u64 (y : Nat)) (.int .u64 (x : Nat))⟩)
                      have hpni : (j : Int) < (n : Int) := by omega
                      have hqni : (a : Int) < (n : Int) := by omega
                      have HN := Lib.hid (show Sws a b xs (swp ys j a) ∧ a ≤ j ∧ j < b ∧ Cut a b j (swp ys j a) from by
                        have hij : i = j + 1 := by omega
                        refine ⟨Sws.step j a HSW.out (by omega) (by omega) (by omega) (by omega) (by omega), by omega, by omega, ptI_cut (P := X) ?_ (by omega) (by omega) (by omega)⟩
                        rw [← hij]; exact hja.1)
                      clear r9 t9 hln hb hx hy hx3 hja hpn hqn
                      go_wp2_with fail
                      go_region
                      go_wp2_with fail
                      go_ret2
                      exact ⟨j, false, swp ys j a, rfl, HRT.out.1, HRT.out.2, HN.out.1, HN.out.2.1, HN.out.2.2.1, HN.out.2.2.2⟩
          · have hL := lessU_any x X false (decide_eq_false hc)
            obtain ⟨j1, hj1⟩ : ∃ x, j - 1 = x := ⟨_, rfl⟩
            have g1 : (j : Int) - 1 = (j1 : Int) := by omega
            have HS := Lib.hid (show RowN wr B g n c ys ∧ Turn (fun k => k = g) W wr ∧ PtI a b i j1 X ys ∧ a < i ∧ i ≤ j1 + 1 ∧ j1 < b ∧ (i ≤ j1 → X ≤ atN ys i) ∧ j1 < j from ⟨hr, ht, ptI_down hv (by omega) (by rw [hx]; omega), hai, by omega, by omega, fun h => hst (by omega), by omega⟩)
            clear hr ht hv hai hij hjb hb hlt hx hc hst hj1
            go_wp2_with fail
            go_quiet (first | (go_at_call 108; exact Calls.quiet_of_same (hL _)))
            go_wp2_with fail
            go_roundw
            case rel => exact ⟨j1, rfl, HS.out.1.drewN _, HS.out.2.1.drewN _, HS.out.2.2.1, HS.out.2.2.2.1, HS.out.2.2.2.2.1, HS.out.2.2.2.2.2.1, HS.out.2.2.2.2.2.2.1⟩
            case measure => have := HS.out; simp [intOf]; omega
        · have q1 : decide ((i : Int) ≤ (j : Int)) = false := decide_eq_false (by omega)
          have q2 : decide (i ≤ j) = false := decide_eq_false hlt
          have HS := Lib.hid (show RowN wr B g n c ys ∧ Turn (fun k => k = g) W wr ∧ PtI a b i j X ys ∧ a < i ∧ i ≤ j + 1 ∧ j < b ∧ j < i from ⟨hr, ht, hv, hai, hij, hjb, by omega⟩)
          clear hr ht hv hai hij hjb hb hlt hst
          go_wp2_with fail
          go_quiet (fail)
          obtain ⟨w9, hw9⟩ : ∃ x, wr.drewN nq = x := ⟨_, rfl⟩
          have HS9 := Lib.hid (And.intro (show RowN w9 B g n c ys by rw [← hw9]; exact HS.out.1.drewN _) (And.intro (show Turn (fun k => k = g) W w9 by rw [← hw9]; exact HS.out.2.1.drewN _) HS.out.2.2))
          rw [hw9]
          clear hw9 HS q1 q2
          have t1 : (j : Int) < (i : Int) := by have := HS9.out.2.2.2.2.2.2; omega
          have hja := HS9.out.2.2
          have r9 := HS9.out.1
          have t9 := HS9.out.2.1
          have hln := r9.len
          have hb := HB.out
          obtain ⟨x, hx⟩ : ∃ x, atN ys j = x := ⟨_, rfl⟩
          obtain ⟨y, hy⟩ : ∃ y, atN ys a = y := ⟨_, rfl⟩
          have hpn : j < n := by omega
          have hqn : a < n := by omega
          have c1 := r9.cell j hpn x hx
          have c2 := r9.cell a hqn y hy
          have f1 := r9.frozen j
          have f2 := r9.frozen a
          obtain ⟨x3, hx3⟩ : ∃ x, atN (ys.set j y) a = x := ⟨_, rfl⟩
          have c3 := (r9.set j y).cell a hqn x3 hx3
          have f3 := (r9.set j y).frozen a
          have HRT := Lib.hid (show RowN ((w9.setCell ⟨g, j, none⟩ (.int .u64 (y : Nat))).setCell ⟨g, a, none⟩ (.int .u64 (x : Nat))).drew B g n c (swp ys j a) ∧ Turn (fun k => k = g) W ((w9.setCell ⟨g, j, none⟩ (.int .u64 (y : Nat))).setCell ⟨g, a, none⟩ (.int .u64 (x : Nat))).drew from ⟨r9.swap j a x y hx hy, turn_swap0 t9 j a (.int .u64 (y : Nat)) (.int .u64 (x : Nat))⟩)
          have hpni : (j : Int) < (n : Int) := by omega
          have hqni : (a : Int) < (n : Int) := by omega
          have HN := Lib.hid (show Sws a b xs (swp ys j a) ∧ a ≤ j ∧ j < b ∧ Cut a b j (swp ys j a) from by
            have hij : i = j + 1 := by omega
            refine ⟨Sws.step j a HSW.out (by omega) (by omega) (by omega) (by omega) (by omega), by omega, by omega, ptI_cut (P := X) ?_ (by omega) (by omega) (by omega)⟩
            rw [← hij]; exact hja.1)
          clear r9 t9 hln hb hx hy hx3 hja hpn hqn
          go_wp2_with fail
          go_region
          go_wp2_with fail
          go_ret2
          exact ⟨j, true, swp ys j a, rfl, HRT.out.1, HRT.out.2, HN.out.1, HN.out.2.1, HN.out.2.2.1, HN.out.2.2.2⟩

end Go.Proofs.YthjikbhjciphiaaGreatDoor
