/-
  The library's sort of words: sifting down, the heap's sort, turning round.
-/
import Derived.Test.YthjikbhjciphiaaGreatDoorZz9
namespace Go.Proofs.YthjikbhjciphiaaGreatDoor
open Go.RowKit
set_option linter.unusedVariables false
set_option linter.unusedSimpArgs false

set_option maxRecDepth 100000 in
set_option maxHeartbeats 8000000 in
theorem sift_any (B g n c lo hi f : Nat) (xs : List Nat) (W : World) (h : RowN W B g n c xs) (hf : f + hi ≤ n) (hlo : lo ≤ n) (hn : n ≤ 1000000000) (hh : Hp f (lo + 1) hi xs) :
    Calls Tryz.prog 151 #[.slice (some ⟨g, 0, none⟩) n c, .int .i64 (lo : Nat), .int .i64 (hi : Nat), .int .i64 (f : Nat)] W (SoPost W B g n c fun ys => Sws f (f + hi) xs ys ∧ Hp f lo hi ys) := by
  have HB := Lib.hid (And.intro hf (And.intro hlo hn))
  have hf9 : f ≤ 1000000000 := by omega
  have hh9 : hi ≤ 1000000000 := by omega
  have hl9 : lo ≤ 1000000000 := by omega
  clear hf hlo hn
  go_enter Tryz.func151, Tryz.ntmps151
  go_wp2_with fail
  go_loopw [8] (fun vr wr => ∃ (r : Nat) (ys : List Nat), vr = .int .i64 r ∧ lo ≤ r ∧ r ≤ n ∧ RowN wr B g n c ys ∧ Turn (fun k => k = g) W wr ∧ Sws f (f + hi) xs ys ∧ HpX f lo hi r ys) (fun vr _ => n - (intOf vr).toNat)
  case atStart => exact ⟨lo, xs, rfl, Nat.le_refl _, HB.out.2.1, h, Turn.refl _ _, .refl _, hpx_start hh⟩
  case round =>
    obtain ⟨r, ys, rfl, hlr, hrn, hr, ht, hs, hq⟩ := hrel
    have hb := HB.out
    have hln := hr.len
    have hr9 : r ≤ 1000000000 := by omega
    obtain ⟨r2, hr2⟩ : ∃ x, 2 * r = x := ⟨_, rfl⟩
    obtain ⟨k1, hk1⟩ : ∃ x, r2 + 1 = x := ⟨_, rfl⟩
    obtain ⟨k2, hk2⟩ : ∃ x, k1 + 1 = x := ⟨_, rfl⟩
    have e1 : 2 * (r : Int) = (r2 : Int) := by omega
    have e2 : (r2 : Int) + 1 = (k1 : Int) := by omega
    have e3 : (k1 : Int) + 1 = (k2 : Int) := by omega
    have b1 : r2 ≤ 2000000000 := by omega
    have b2 : k1 ≤ 2000000001 := by omega
    have b3 : k2 ≤ 2000000002 := by omega
    have hkid : ∀ q, Kid r q → q = k1 ∨ q = k2 := fun q hq => by unfold Kid at hq; omega
    by_cases hk : hi ≤ k1
    · have t1 : (hi : Int) ≤ (k1 : Int) := by omega
      have HQ := Lib.hid (show RowN wr B g n c ys ∧ Turn (fun k => k = g) W wr ∧ Sws f (f + hi) xs ys ∧ Hp f lo hi ys from ⟨hr, ht, hs, hpx_stop hq fun q h1 h2 => by have := hkid q h1; omega⟩)
      clear hlr hrn hr ht hs hq hb hln hr2 hk1 hk2 hkid hk hh h
      go_wp2_with fail
      refine bodyPost_ret (results_none rfl _ _ _) rfl ?_
      exact ⟨rfl, ys, HQ.out.1, HQ.out.2.1, HQ.out.2.2.1, HQ.out.2.2.2⟩
    · have t1 : ¬ (hi : Int) ≤ (k1 : Int) := by omega
      obtain ⟨p0, hp0⟩ : ∃ x, f + r = x := ⟨_, rfl⟩
      obtain ⟨p1, hp1⟩ : ∃ x, f + k1 = x := ⟨_, rfl⟩
      obtain ⟨p2, hp2⟩ : ∃ x, f + k2 = x := ⟨_, rfl⟩
      have g0 : (f : Int) + (r : Int) = (p0 : Int) := by omega
      have g1 : (f : Int) + (k1 : Int) = (p1 : Int) := by omega
      have g2 : (f : Int) + (k2 : Int) = (p2 : Int) := by omega
      have g3 : (p1 : Int) + 1 = (p2 : Int) := by omega
      have n0 : (p0 : Int) < (n : Int) := by omega
      have n1 : (p1 : Int) < (n : Int) := by omega
      have m0 : p0 ≤ 2000000000 := by omega
      have m1 : p1 ≤ 3000000001 := by omega
      have m2 : p2 ≤ 3000000002 := by omega
      obtain ⟨x0, hx0⟩ : ∃ x, atN ys p0 = x := ⟨_, rfl⟩
      obtain ⟨x1, hx1⟩ : ∃ x, atN ys p1 = x := ⟨_, rfl⟩
      obtain ⟨x2, hx2⟩ : ∃ x, atN ys p2 = x := ⟨_, rfl⟩
      have c0 := hr.cell p0 (by omega) x0 hx0
      have c1 := hr.cell p1 (by omega) x1 hx1
      have w0 : IntKind.i64.wrap (p0 : Int) = (p0 : Int) := by rw [IntKind.wrap_i64]; omega
      have w1 : IntKind.i64.wrap (p1 : Int) = (p1 : Int) := by rw [IntKind.wrap_i64]; omega
      have w2 : IntKind.i64.wrap (p2 : Int) = (p2 : Int) := by rw [IntKind.wrap_i64]; omega
      have f0 := hr.frozen p0
      have f1 := hr.frozen p1
      have f2 := hr.frozen p2
      by_cases hk2h : k2 < hi
      · have n2 : (p2 : Int) < (n : Int) := by omega
        have c2 := hr.cell p2 (by omega) x2 hx2
        by_cases hc1 : x1 < x2
        · have hL1 := lessU_any x1 x2 true (decide_eq_true hc1)
          by_cases hc2 : x0 < x2
          · skip
            have hmax : ∀ q, Kid r q → q < hi → atN ys (f + q) ≤ atN ys (f + k2) := fun q h1 h2 => by
              rcases hkid q h1 with e | e
              · rw [e, hp1, hp2, hx1, hx2]; omega
              · rw [e]; exact Nat.le_refl _
            have hkk : Kid r k2 := by unfold Kid; omega
            have hkh : k2 < hi := by omega
            have hL2 := lessU_any x0 x2 true (decide_eq_true hc2)
            have HC := Lib.hid (show RowN wr B g n c ys ∧ Turn (fun k => k = g) W wr ∧ atN ys p0 = x0 ∧ atN ys p2 = x2 ∧ p0 < n ∧ p2 < n from ⟨hr, ht, hx0, hx2, by omega, by omega⟩)
            have HS := Lib.hid (show Sws f (f + hi) xs (swp ys p0 p2) ∧ HpX f lo hi k2 (swp ys p0 p2) ∧ lo ≤ k2 ∧ k2 ≤ n ∧ r < k2 from ⟨Sws.step p0 p2 hs (by omega) (by omega) (by omega) (by omega) (by omega), by
              have := hpx_step hq hlr hkk hkh (by omega) hmax (by rw [hp0, hp2, hx0, hx2]; exact hc2)
              rwa [hp0, hp2] at this, by omega, by omega, by omega⟩)
            have q1 : decide ((k2 : Int) < (hi : Int)) = true := decide_eq_true (by omega)
            have q2 : decide (k2 < hi) = true := decide_eq_true hk2h
            clear hlr hrn hr ht hs hq hb hln hr2 hk1 hk2 hkid hk hmax hkk hkh hx0 hx1 hx2 hp0 hp1 hp2 hc2 hh h hk2h hc1
            go_wp2_with fail
            go_quiet (first | (go_at_call 108; exact Calls.quiet_of_same (hL1 _)))
            go_wp2_with fail
            obtain ⟨w9, hw9⟩ : ∃ x, wr.drewN nq = x := ⟨_, rfl⟩
            have r9 : RowN w9 B g n c ys := by rw [← hw9]; exact HC.out.1.drewN _
            have t9 : Turn (fun k => k = g) W w9 := by rw [← hw9]; exact HC.out.2.1.drewN _
            rw [hw9]
            have d0 := r9.cell p0 HC.out.2.2.2.2.1 x0 HC.out.2.2.1
            have d1 := r9.cell p2 HC.out.2.2.2.2.2 x2 HC.out.2.2.2.1
            have z0 := r9.frozen p0
            have z1 := r9.frozen p2
            have HR := fun q => Lib.hid (show RowN (((w9.drewN q).setCell ⟨g, p0, none⟩ (.int .u64 (x2 : Nat))).setCell ⟨g, p2, none⟩ (.int .u64 (x0 : Nat))) B g n c (swp ys p0 p2) from (r9.drewN q).swap p0 p2 x0 x2 HC.out.2.2.1 HC.out.2.2.2.1)
            have HT := fun q => Lib.hid (turn_swap t9 q p0 p2 (.int .u64 (x2 : Nat)) (.int .u64 (x0 : Nat)))
            clear hw9 c0 c1 c2 f0 f1 f2 r9 t9
            go_quiet (first | (go_at_call 108; exact Calls.quiet_of_same (hL2 _)))
            go_wp2_with fail
            go_region
            go_wp2_with fail
            go_roundw
            case rel => exact ⟨k2, swp ys p0 p2, rfl, HS.out.2.2.1, HS.out.2.2.2.1, (HR _).out, (HT _).out, HS.out.1, HS.out.2.1⟩
            case measure => have := HS.out; simp [intOf]; omega
          · skip
            have hmax : ∀ q, Kid r q → q < hi → atN ys (f + q) ≤ atN ys (f + k2) := fun q h1 h2 => by
              rcases hkid q h1 with e | e
              · rw [e, hp1, hp2, hx1, hx2]; omega
              · rw [e]; exact Nat.le_refl _
            have hkk : Kid r k2 := by unfold Kid; omega
            have hkh : k2 < hi := by omega
            have hL2 := lessU_any x0 x2 false (decide_eq_false hc2)
            have HC := Lib.hid (show RowN wr B g n c ys ∧ Turn (fun k => k = g) W wr ∧ atN ys p0 = x0 ∧ atN ys p2 = x2 ∧ p0 < n ∧ p2 < n from ⟨hr, ht, hx0, hx2, by omega, by omega⟩)
            have HS := Lib.hid (show Sws f (f + hi) xs ys ∧ Hp f lo hi ys from ⟨hs, hpx_stop hq fun q h1 h2 => Nat.le_trans (hmax q h1 h2) (by rw [hp0, hp2, hx0, hx2]; omega)⟩)
            have q1 : decide ((k2 : Int) < (hi : Int)) = true := decide_eq_true (by omega)
            have q2 : decide (k2 < hi) = true := decide_eq_true hk2h
            clear hlr hrn hr ht hs hq hb hln hr2 hk1 hk2 hkid hk hmax hkk hkh hx0 hx1 hx2 hp0 hp1 hp2 hc2 hh h hk2h hc1
            go_wp2_with fail
            go_quiet (first | (go_at_call 108; exact Calls.quiet_of_same (hL1 _)))
            go_wp2_with fail
            obtain ⟨w9, hw9⟩ : ∃ x, wr.drewN nq = x := ⟨_, rfl⟩
            have r9 : RowN w9 B g n c ys := by rw [← hw9]; exact HC.out.1.drewN _
            have t9 : Turn (fun k => k = g) W w9 := by rw [← hw9]; exact HC.out.2.1.drewN _
            rw [hw9]
            have d0 := r9.cell p0 HC.out.2.2.2.2.1 x0 HC.out.2.2.1
            have d1 := r9.cell p2 HC.out.2.2.2.2.2 x2 HC.out.2.2.2.1
            have z0 := r9.frozen p0
            have z1 := r9.frozen p2
            have HR := Lib.hid (And.intro r9 t9)
            clear hw9 c0 c1 c2 f0 f1 f2 r9 t9
            go_quiet (first | (go_at_call 108; exact Calls.quiet_of_same (hL2 _)))
            go_wp2_with fail
            refine bodyPost_ret (results_none rfl _ _ _) rfl ?_
            exact ⟨rfl, ys, HR.out.1.drewN _, HR.out.2.drewN _, HS.out.1, HS.out.2⟩
        · have hL1 := lessU_any x1 x2 false (decide_eq_false hc1)
          by_cases hc2 : x0 < x1
          · skip
            have hmax : ∀ q, Kid r q → q < hi → atN ys (f + q) ≤ atN ys (f + k1) := fun q h1 h2 => by
              rcases hkid q h1 with e | e
              · rw [e]; exact Nat.le_refl _
              · rw [e, hp1, hp2, hx1, hx2]; omega
            have hkk : Kid r k1 := by unfold Kid; omega
            have hkh : k1 < hi := by omega
            have hL2 := lessU_any x0 x1 true (decide_eq_true hc2)
            have HC := Lib.hid (show RowN wr B g n c ys ∧ Turn (fun k => k = g) W wr ∧ atN ys p0 = x0 ∧ atN ys p1 = x1 ∧ p0 < n ∧ p1 < n from ⟨hr, ht, hx0, hx1, by omega, by omega⟩)
            have HS := Lib.hid (show Sws f (f + hi) xs (swp ys p0 p1) ∧ HpX f lo hi k1 (swp ys p0 p1) ∧ lo ≤ k1 ∧ k1 ≤ n ∧ r < k1 from ⟨Sws.step p0 p1 hs (by omega) (by omega) (by omega) (by omega) (by omega), by
              have := hpx_step hq hlr hkk hkh (by omega) hmax (by rw [hp0, hp1, hx0, hx1]; exact hc2)
              rwa [hp0, hp1] at this, by omega, by omega, by omega⟩)
            have q1 : decide ((k2 : Int) < (hi : Int)) = true := decide_eq_true (by omega)
            have q2 : decide (k2 < hi) = true := decide_eq_true hk2h
            clear hlr hrn hr ht hs hq hb hln hr2 hk1 hk2 hkid hk hmax hkk hkh hx0 hx1 hx2 hp0 hp1 hp2 hc2 hh h hk2h hc1
            go_wp2_with fail
            go_quiet (first | (go_at_call 108; exact Calls.quiet_of_same (hL1 _)))
            go_wp2_with fail
            obtain ⟨w9, hw9⟩ : ∃ x, wr.drewN nq = x := ⟨_, rfl⟩
            have r9 : RowN w9 B g n c ys := by rw [← hw9]; exact HC.out.1.drewN _
            have t9 : Turn (fun k => k = g) W w9 := by rw [← hw9]; exact HC.out.2.1.drewN _
            rw [hw9]
            have d0 := r9.cell p0 HC.out.2.2.2.2.1 x0 HC.out.2.2.1
            have d1 := r9.cell p1 HC.out.2.2.2.2.2 x1 HC.out.2.2.2.1
            have z0 := r9.frozen p0
            have z1 := r9.frozen p1
            have HR := fun q => Lib.hid (show RowN (((w9.drewN q).setCell ⟨g, p0, none⟩ (.int .u64 (x1 : Nat))).setCell ⟨g, p1, none⟩ (.int .u64 (x0 : Nat))) B g n c (swp ys p0 p1) from (r9.drewN q).swap p0 p1 x0 x1 HC.out.2.2.1 HC.out.2.2.2.1)
            have HT := fun q => Lib.hid (turn_swap t9 q p0 p1 (.int .u64 (x1 : Nat)) (.int .u64 (x0 : Nat)))
            clear hw9 c0 c1 c2 f0 f1 f2 r9 t9
            go_quiet (first | (go_at_call 108; exact Calls.quiet_of_same (hL2 _)))
            go_wp2_with fail
            go_region
            go_wp2_with fail
            go_roundw
            case rel => exact ⟨k1, swp ys p0 p1, rfl, HS.out.2.2.1, HS.out.2.2.2.1, (HR _).out, (HT _).out, HS.out.1, HS.out.2.1⟩
            case measure => have := HS.out; simp [intOf]; omega
          · skip
            have hmax : ∀ q, Kid r q → q < hi → atN ys (f + q) ≤ atN ys (f + k1) := fun q h1 h2 => by
              rcases hkid q h1 with e | e
              · rw [e]; exact Nat.le_refl _
              · rw [e, hp1, hp2, hx1, hx2]; omega
            have hkk : Kid r k1 := by unfold Kid; omega
            have hkh : k1 < hi := by omega
            have hL2 := lessU_any x0 x1 false (decide_eq_false hc2)
            have HC := Lib.hid (show RowN wr B g n c ys ∧ Turn (fun k => k = g) W wr ∧ atN ys p0 = x0 ∧ atN ys p1 = x1 ∧ p0 < n ∧ p1 < n from ⟨hr, ht, hx0, hx1, by omega, by omega⟩)
            have HS := Lib.hid (show Sws f (f + hi) xs ys ∧ Hp f lo hi ys from ⟨hs, hpx_stop hq fun q h1 h2 => Nat.le_trans (hmax q h1 h2) (by rw [hp0, hp1, hx0, hx1]; omega)⟩)
            have q1 : decide ((k2 : Int) < (hi : Int)) = true := decide_eq_true (by omega)
            have q2 : decide (k2 < hi) = true := decide_eq_true hk2h
            clear hlr hrn hr ht hs hq hb hln hr2 hk1 hk2 hkid hk hmax hkk hkh hx0 hx1 hx2 hp0 hp1 hp2 hc2 hh h hk2h hc1
            go_wp2_with fail
            go_quiet (first | (go_at_call 108; exact Calls.quiet_of_same (hL1 _)))
            go_wp2_with fail
            obtain ⟨w9, hw9⟩ : ∃ x, wr.drewN nq = x := ⟨_, rfl⟩
            have r9 : RowN w9 B g n c ys := by rw [← hw9]; exact HC.out.1.drewN _
            have t9 : Turn (fun k => k = g) W w9 := by rw [← hw9]; exact HC.out.2.1.drewN _
            rw [hw9]
            have d0 := r9.cell p0 HC.out.2.2.2.2.1 x0 HC.out.2.2.1
            have d1 := r9.cell p1 HC.out.2.2.2.2.2 x1 HC.out.2.2.2.1
            have z0 := r9.frozen p0
            have z1 := r9.frozen p1
            have HR := Lib.hid (And.intro r9 t9)
            clear hw9 c0 c1 c2 f0 f1 f2 r9 t9
            go_quiet (first | (go_at_call 108; exact Calls.quiet_of_same (hL2 _)))
            go_wp2_with fail
            refine bodyPost_ret (results_none rfl _ _ _) rfl ?_
            exact ⟨rfl, ys, HR.out.1.drewN _, HR.out.2.drewN _, HS.out.1, HS.out.2⟩
      · by_cases hc2 : x0 < x1
        · skip
          have hmax : ∀ q, Kid r q → q < hi → atN ys (f + q) ≤ atN ys (f + k1) := fun q h1 h2 => by
            rcases hkid q h1 with e | e
            · rw [e]; exact Nat.le_refl _
            · omega
          have hkk : Kid r k1 := by unfold Kid; omega
          have hkh : k1 < hi := by omega
          have hL2 := lessU_any x0 x1 true (decide_eq_true hc2)
          have HC := Lib.hid (show RowN wr B g n c ys ∧ Turn (fun k => k = g) W wr ∧ atN ys p0 = x0 ∧ atN ys p1 = x1 ∧ p0 < n ∧ p1 < n from ⟨hr, ht, hx0, hx1, by omega, by omega⟩)
          have HS := Lib.hid (show Sws f (f + hi) xs (swp ys p0 p1) ∧ HpX f lo hi k1 (swp ys p0 p1) ∧ lo ≤ k1 ∧ k1 ≤ n ∧ r < k1 from ⟨Sws.step p0 p1 hs (by omega) (by omega) (by omega) (by omega) (by omega), by
            have := hpx_step hq hlr hkk hkh (by omega) hmax (by rw [hp0, hp1, hx0, hx1]; exact hc2)
            rwa [hp0, hp1] at this, by omega, by omega, by omega⟩)
          have q1 : decide ((k2 : Int) < (hi : Int)) = false := decide_eq_false (by omega)
          have q2 : decide (k2 < hi) = false := decide_eq_false hk2h
          clear hlr hrn hr ht hs hq hb hln hr2 hk1 hk2 hkid hk hmax hkk hkh hx0 hx1 hx2 hp0 hp1 hp2 hc2 hh h hk2h
          go_wp2_with fail
          go_quiet (fail)
          go_wp2_with fail
          obtain ⟨w9, hw9⟩ : ∃ x, wr.drewN nq = x := ⟨_, rfl⟩
          have r9 : RowN w9 B g n c ys := by rw [← hw9]; exact HC.out.1.drewN _
          have t9 : Turn (fun k => k = g) W w9 := by rw [← hw9]; exact HC.out.2.1.drewN _
          rw [hw9]
          have d0 := r9.cell p0 HC.out.2.2.2.2.1 x0 HC.out.2.2.1
          have d1 := r9.cell p1 HC.out.2.2.2.2.2 x1 HC.out.2.2.2.1
          have z0 := r9.frozen p0
          have z1 := r9.frozen p1
          have HR := fun q => Lib.hid (show RowN (((w9.drewN q).setCell ⟨g, p0, none⟩ (.int .u64 (x1 : Nat))).setCell ⟨g, p1, none⟩ (.int .u64 (x0 : Nat))) B g n c (swp ys p0 p1) from (r9.drewN q).swap p0 p1 x0 x1 HC.out.2.2.1 HC.out.2.2.2.1)
          have HT := fun q => Lib.hid (turn_swap t9 q p0 p1 (.int .u64 (x1 : Nat)) (.int .u64 (x0 : Nat)))
          clear hw9 c0 c1 f0 f1 f2 r9 t9
          go_quiet (first | (go_at_call 108; exact Calls.quiet_of_same (hL2 _)))
          go_wp2_with fail
          go_region
          go_wp2_with fail
          go_roundw
          case rel => exact ⟨k1, swp ys p0 p1, rfl, HS.out.2.2.1, HS.out.2.2.2.1, (HR _).out, (HT _).out, HS.out.1, HS.out.2.1⟩
          case measure => have := HS.out; simp [intOf]; omega
        · skip
          have hmax : ∀ q, Kid r q → q < hi → atN ys (f + q) ≤ atN ys (f + k1) := fun q h1 h2 => by
            rcases hkid q h1 with e | e
            · rw [e]; exact Nat.le_refl _
            · omega
          have hkk : Kid r k1 := by unfold Kid; omega
          have hkh : k1 < hi := by omega
          have hL2 := lessU_any x0 x1 false (decide_eq_false hc2)
          have HC := Lib.hid (show RowN wr B g n c ys ∧ Turn (fun k => k = g) W wr ∧ atN ys p0 = x0 ∧ atN ys p1 = x1 ∧ p0 < n ∧ p1 < n from ⟨hr, ht, hx0, hx1, by omega, by omega⟩)
          have HS := Lib.hid (show Sws f (f + hi) xs ys ∧ Hp f lo hi ys from ⟨hs, hpx_stop hq fun q h1 h2 => Nat.le_trans (hmax q h1 h2) (by rw [hp0, hp1, hx0, hx1]; omega)⟩)
          have q1 : decide ((k2 : Int) < (hi : Int)) = false := decide_eq_false (by omega)
          have q2 : decide (k2 < hi) = false := decide_eq_false hk2h
          clear hlr hrn hr ht hs hq hb hln hr2 hk1 hk2 hkid hk hmax hkk hkh hx0 hx1 hx2 hp0 hp1 hp2 hc2 hh h hk2h
          go_wp2_with fail
          go_quiet (fail)
          go_wp2_with fail
          obtain ⟨w9, hw9⟩ : ∃ x, wr.drewN nq = x := ⟨_, rfl⟩
          have r9 : RowN w9 B g n c ys := by rw [← hw9]; exact HC.out.1.drewN _
          have t9 : Turn (fun k => k = g) W w9 := by rw [← hw9]; exact HC.out.2.1.drewN _
          rw [hw9]
          have d0 := r9.cell p0 HC.out.2.2.2.2.1 x0 HC.out.2.2.1
          have d1 := r9.cell p1 HC.out.2.2.2.2.2 x1 HC.out.2.2.2.1
          have z0 := r9.frozen p0
          have z1 := r9.frozen p1
          have HR := Lib.hid (And.intro r9 t9)
          clear hw9 c0 c1 f0 f1 f2 r9 t9
          go_quiet (first | (go_at_call 108; exact Calls.quiet_of_same (hL2 _)))
          go_wp2_with fail
          refine bodyPost_ret (results_none rfl _ _ _) rfl ?_
          exact ⟨rfl, ys, HR.out.1.drewN _, HR.out.2.drewN _, HS.out.1, HS.out.2⟩

end Go.Proofs.YthjikbhjciphiaaGreatDoor

/-
  The library's sort of words: the heap's sort, turning round.
-/
namespace Go.Proofs.YthjikbhjciphiaaGreatDoor
open Go.RowKit
set_option linter.unusedVariables false
set_option linter.unusedSimpArgs false

theorem turn_swap0 {W w : World} {g : Nat} (h : Turn (fun k => k = g) W w) (i j : Nat) (u v : Value) : Turn (fun k => k = g) W ((w.setCell ⟨g, i, none⟩ u).setCell ⟨g, j, none⟩ v).drew :=
  let k := (h.setCell (p := ⟨g, i, none⟩) rfl u).setCell (p := ⟨g, j, none⟩) rfl v
  ⟨k.os, k.tape, k.output, k.size, k.block⟩

set_option maxRecDepth 100000 in
set_option maxHeartbeats 8000000 in
theorem heap_any (B g n c a b : Nat) (xs : List Nat) (W : World) (h : RowN W B g n c xs) (hab : a < b) (hb : b ≤ n) (hn : n ≤ 1000000000) :
    Calls Tryz.prog 103 #[.slice (some ⟨g, 0, none⟩) n c, .int .i64 (a : Nat), .int .i64 (b : Nat)] W (SoPost W B g n c fun ys => Sws a b xs ys ∧ Srt a b ys) := by
  obtain ⟨m, hm⟩ : ∃ x, b - a = x := ⟨_, rfl⟩
  obtain ⟨m1, hm1⟩ : ∃ x, m - 1 = x := ⟨_, rfl⟩
  obtain ⟨q, hq⟩ : ∃ x, m1 / 2 = x := ⟨_, rfl⟩
  have e1 : (b : Int) - (a : Int) = (m : Int) := by omega
  have e2 : (m : Int) - 1 = (m1 : Int) := by omega
  have e3 : (m1 : Int) / 2 = (q : Int) := by omega
  have e4 : Int.tdiv (m1 : Int) 2 = (q : Int) := by rw [Int.tdiv_eq_ediv_of_nonneg (by omega)]; exact e3
  have b1 : a ≤ 1000000000 := by omega
  have b2 : b ≤ 1000000000 := by omega
  have b3 : m ≤ 1000000000 := by omega
  have b4 : m1 ≤ 1000000000 := by omega
  have b5 : q ≤ 1000000000 := by omega
  have HM := Lib.hid (show a + m = b ∧ m - 1 = m1 ∧ m1 / 2 = q ∧ 0 < m ∧ b ≤ n ∧ n ≤ 1000000000 from ⟨by omega, hm1, hq, by omega, hb, hn⟩)
  clear hm hm1 hq hab hb hn
  go_enter Tryz.func103, Tryz.ntmps103
  go_wp2_with fail
  go_loopw [9] (fun vi wr => ∃ (t : Nat) (ys : List Nat), vi = .int .i64 ((t : Int) - 1) ∧ t ≤ q + 1 ∧ RowN wr B g n c ys ∧ Turn (fun k => k = g) W wr ∧ Sws a (a + m) xs ys ∧ Hp a t m ys) (fun vi _ => (intOf vi + 1).toNat)
  case atStart => exact ⟨q + 1, xs, by go_num, Nat.le_refl _, h, Turn.refl _ _, .refl _, fun i k h1 h2 h3 => by have := HM.out; unfold Kid at h2; omega⟩
  case round =>
    obtain ⟨t, ys, rfl, htq, hr, ht, hs, hh⟩ := hrel
    cases t with
    | succ s =>
      have hv : (((s + 1 : Nat) : Int) - 1) = (s : Int) := by omega
      rw [hv]
      have hS := sift_any B g n c s m a ys wr hr (by have := HM.out; omega) (by have := HM.out; omega) (by have := HM.out; omega) hh
      have HT := Lib.hid (And.intro ht (And.intro hs htq))
      have hs9 : s ≤ 1000000000 := by omega
      clear hr ht hs hh hv htq h
      go_wp2_with fail
      refine hS.mono ?_
      rintro e w2 ⟨rfl, zs, hr2, ht2, hs2, hh2⟩
      have H2 := Lib.hid (show RowN w2 B g n c zs ∧ Turn (fun k => k = g) W w2 ∧ Sws a (a + m) xs zs ∧ Hp a s m zs from ⟨hr2, HT.out.1.trans ht2, HT.out.2.1.trans hs2, hh2⟩)
      clear hr2 ht2 hs2 hh2
      go_wp2_with fail
      go_roundw
      case rel => exact ⟨s, zs, rfl, by have := HT.out; omega, H2.out.1, H2.out.2.1, H2.out.2.2.1, H2.out.2.2.2⟩
      case measure => simp [intOf] <;> omega
    | zero =>
      rw [show (((0 : Nat) : Int) - 1) = -1 from rfl]
      have H1 := Lib.hid (And.intro hr (And.intro ht (And.intro hs hh)))
      clear hr ht hs hh htq h
      go_wp2_with fail
      obtain ⟨w1, rfl⟩ : ∃ x, x = wr := ⟨_, rfl⟩
      go_loopw [10] (fun vi wr => ∃ (t : Nat) (zs : List Nat), vi = .int .i64 ((t : Int) - 1) ∧ t ≤ m ∧ RowN wr B g n c zs ∧ Turn (fun k => k = g) W wr ∧ Sws a (a + m) xs zs ∧ HeapI a m t zs) (fun vi _ => (intOf vi + 1).toNat)
      case atStart => exact ⟨m, ys, by rw [e2], Nat.le_refl _, H1.out.1, H1.out.2.1, H1.out.2.2.1, H1.out.2.2.2, fun p q h1 h2 h3 => by omega⟩
      case round =>
        obtain ⟨t, zs, rfl, htm, hr, ht, hs, hh⟩ := hrel
        have hb := HM.out
        have hln := hr.len
        cases t with
        | succ s =>
          have hv : (((s + 1 : Nat) : Int) - 1) = (s : Int) := by omega
          rw [hv]
          obtain ⟨p, hp⟩ : ∃ x, a + s = x := ⟨_, rfl⟩
          have g1 : (a : Int) + (s : Int) = (p : Int) := by omega
          have n1 : (p : Int) < (n : Int) := by omega
          have n2 : (a : Int) < (n : Int) := by omega
          have wp : IntKind.i64.wrap (p : Int) = (p : Int) := by rw [IntKind.wrap_i64]; omega
          obtain ⟨x, hx⟩ : ∃ x, atN zs a = x := ⟨_, rfl⟩
          obtain ⟨y, hy⟩ : ∃ y, atN zs p = y := ⟨_, rfl⟩
          have c1 := hr.cell a (by omega) x hx
          have c2 := hr.cell p (by omega) y hy
          have f1 := hr.frozen a
          have f2 := hr.frozen p
          obtain ⟨x3, hx3⟩ : ∃ x, atN (zs.set a y) p = x := ⟨_, rfl⟩
          have c3 := (hr.set a y).cell p (by omega) x3 hx3
          have f3 := (hr.set a y).frozen p
          obtain ⟨k1, k2⟩ := heapI_swap hh (by omega) (by omega)
          rw [hp] at k1 k2
          have HR := hr.swap a p x y hx hy
          have HT := turn_swap0 ht a p (.int .u64 (y : Nat)) (.int .u64 (x : Nat))
          have HRT := Lib.hid (show RowN ((wr.setCell ⟨g, a, none⟩ (.int .u64 (y : Nat))).setCell ⟨g, p, none⟩ (.int .u64 (x : Nat))).drew B g n c (swp zs a p) ∧ Turn (fun k => k = g) W ((wr.setCell ⟨g, a, none⟩ (.int .u64 (y : Nat))).setCell ⟨g, p, none⟩ (.int .u64 (x : Nat))).drew from ⟨HR, HT⟩)
          clear HR HT
          have HS := Lib.hid (show Sws a (a + m) xs (swp zs a p) ∧ Hp a 1 s (swp zs a p) ∧ (∀ p_1 q, p_1 < q → q < m → s ≤ q → atN (swp zs a p) (a + p_1) ≤ atN (swp zs a p) (a + q)) ∧ s < m from ⟨Sws.step a p hs (by omega) (by omega) (by omega) (by omega) (by omega), k1, k2, by omega⟩)
          have hs9 : s ≤ 1000000000 := by omega
          clear hr ht hs hh hv htm hb hln hp hx hy hx3 k1 k2
          go_wp2_with fail
          go_region
          obtain ⟨w2, hw2⟩ : ∃ v, ((wr.setCell ⟨g, a, none⟩ (.int .u64 (y : Nat))).setCell ⟨g, p, none⟩ (.int .u64 (x : Nat))).drew = v := ⟨_, rfl⟩
          rw [hw2] at HRT ⊢
          have hS := sift_any B g n c 0 s a (swp zs a p) w2 HRT.out.1 (by have := HM.out; have := HS.out.2.2.2; omega) (Nat.zero_le _) (by have := HM.out; omega) HS.out.2.1
          clear hw2 c1 c2 c3 f1 f2 f3
          go_wp2_with fail
          refine hS.mono ?_
          rintro e w3 ⟨rfl, us, hr3, ht3, hs3, hh3⟩
          have H3 := Lib.hid (show RowN w3 B g n c us ∧ Turn (fun k => k = g) W w3 ∧ Sws a (a + m) xs us ∧ HeapI a m s us from ⟨hr3, HRT.out.2.trans ht3, HS.out.1.trans (hs3.mono (Nat.le_refl _) (by have := HS.out.2.2.2; omega) (by rw [HRT.out.1.len]; have := HM.out; omega)), hh3, tail_sws HS.out.2.2.1 hs3⟩)
          clear hr3 ht3 hs3 hh3
          go_wp2_with fail
          go_roundw
          case rel => exact ⟨s, us, rfl, by have := HS.out.2.2.2; omega, H3.out.1, H3.out.2.1, H3.out.2.2.1, H3.out.2.2.2⟩
          case measure => simp [intOf] <;> omega
        | zero =>
          rw [show (((0 : Nat) : Int) - 1) = -1 from rfl]
          have hbm : a + m = b := hb.1
          have H3 := Lib.hid (show RowN wr B g n c zs ∧ Turn (fun k => k = g) W wr ∧ Sws a b xs zs ∧ Srt a b zs from ⟨hr, ht, by rw [← hbm]; exact hs, fun i j h1 h2 h3 => by
            have := hh.2 (i - a) (j - a) (by omega) (by omega) (Nat.zero_le _)
            rwa [show a + (i - a) = i by omega, show a + (j - a) = j by omega] at this⟩)
          clear hr ht hs hh htm hb hln hbm
          go_wp2_with fail
          go_end0
          exact ⟨rfl, zs, H3.out.1, H3.out.2.1, H3.out.2.2.1, H3.out.2.2.2⟩

set_option maxRecDepth 100000 in
set_option maxHeartbeats 4000000 in
theorem reverse_any (B g n c a b : Nat) (xs : List Nat) (W : World) (h : RowN W B g n c xs) (hab : a < b) (hb : b ≤ n) (hn : n ≤ 1000000000) :
    Calls Tryz.prog 106 #[.slice (some ⟨g, 0, none⟩) n c, .int .i64 (a : Nat), .int .i64 (b : Nat)] W (SoPost W B g n c fun ys => Sws a b xs ys) := by
  obtain ⟨m, hm⟩ : ∃ x, b - 1 = x := ⟨_, rfl⟩
  have e1 : (b : Int) - 1 = (m : Int) := by omega
  have HM := Lib.hid (show m + 1 = b ∧ a < b ∧ b ≤ n ∧ n ≤ 1000000000 from ⟨by omega, hab, hb, hn⟩)
  have hb9 : b ≤ 1000000000 := by omega
  clear hm hab hb hn
  go_enter Tryz.func106, Tryz.ntmps106
  go_wp2_with fail
  go_loopw [6, 7] (fun vi vj wr => ∃ (i j : Nat) (ys : List Nat), vi = .int .i64 i ∧ vj = .int .i64 j ∧ a ≤ i ∧ j < b ∧ i ≤ j + 1 ∧ RowN wr B g n c ys ∧ Turn (fun k => k = g) W wr ∧ Sws a b xs ys) (fun vi vj _ => b - (intOf vi).toNat)
  case atStart => exact ⟨a, m, xs, rfl, rfl, Nat.le_refl _, by have := HM.out; omega, by have := HM.out; omega, h, Turn.refl _ _, .refl _⟩
  case round =>
    obtain ⟨i, j, ys, rfl, rfl, hai, hjb, hij, hr, ht, hs⟩ := hrel
    have hb := HM.out
    have hln := hr.len
    by_cases hlt : i < j
    · have t1 : (i : Int) < (j : Int) := by omega
      obtain ⟨x, hx⟩ : ∃ x, atN ys i = x := ⟨_, rfl⟩
      obtain ⟨y, hy⟩ : ∃ y, atN ys j = y := ⟨_, rfl⟩
      have c1 := hr.cell i (by omega) x hx
      have c2 := hr.cell j (by omega) y hy
      have f1 := hr.frozen i
      have f2 := hr.frozen j
      obtain ⟨x3, hx3⟩ : ∃ x, atN (ys.set i y) j = x := ⟨_, rfl⟩
      have c3 := (hr.set i y).cell j (by omega) x3 hx3
      have f3 := (hr.set i y).frozen j
      obtain ⟨j1, hj1⟩ : ∃ x, j - 1 = x := ⟨_, rfl⟩
      have g1 : (j : Int) - 1 = (j1 : Int) := by omega
      have hin : (i : Int) < (n : Int) := by omega
      have hjn : (j : Int) < (n : Int) := by omega
      have hi9 : i ≤ 1000000000 := by omega
      have hj9 : j ≤ 1000000000 := by omega
      have HR := hr.swap i j x y hx hy
      have HT := turn_swap0 ht i j (.int .u64 (y : Nat)) (.int .u64 (x : Nat))
      have HRT := Lib.hid (show RowN ((wr.setCell ⟨g, i, none⟩ (.int .u64 (y : Nat))).setCell ⟨g, j, none⟩ (.int .u64 (x : Nat))).drew B g n c (swp ys i j) ∧ Turn (fun k => k = g) W ((wr.setCell ⟨g, i, none⟩ (.int .u64 (y : Nat))).setCell ⟨g, j, none⟩ (.int .u64 (x : Nat))).drew from ⟨HR, HT⟩)
      have HS := Lib.hid (show Sws a b xs (swp ys i j) ∧ a ≤ i + 1 ∧ j1 < b ∧ i + 1 ≤ j1 + 1 ∧ i < b from ⟨Sws.step i j hs (by omega) (by omega) (by omega) (by omega) (by omega), by omega, by omega, by omega, by omega⟩)
      clear HR HT hr ht hs hai hjb hij hb hln hlt hx hy hx3 hj1
      go_wp2_with fail
      go_region
      go_wp2_with fail
      go_roundw
      case rel => exact ⟨i + 1, j1, swp ys i j, by go_num, rfl, HS.out.2.1, HS.out.2.2.1, HS.out.2.2.2.1, HRT.out.1, HRT.out.2, HS.out.1⟩
      case measure => have := HS.out.2.2.2.2; simp [intOf]; omega
    · have t1 : ¬ (i : Int) < (j : Int) := by omega
      have H3 := Lib.hid (show RowN wr B g n c ys ∧ Turn (fun k => k = g) W wr ∧ Sws a b xs ys from ⟨hr, ht, hs⟩)
      clear hr ht hs hai hjb hij hb hln hlt
      go_wp2_with fail
      go_end0
      exact ⟨rfl, ys, H3.out.1, H3.out.2.1, H3.out.2.2⟩

end Go.Proofs.YthjikbhjciphiaaGreatDoor
