/-
  The library's sort of words: comparing, a row of words, insertion.
-/
import Derived.Test.YthjikbhjciphiaaGreatDoorZz4
import Derived.Test.YthjikbhjciphiaaGreatDoorZz8
import Derived.BigRegion
import Derived.BigQuiet
namespace Go.Proofs.YthjikbhjciphiaaGreatDoor
open Go.RowKit
set_option linter.unusedVariables false
set_option linter.unusedSimpArgs false

def nu (x : Nat) : Value := .int .u64 (x : Int)
/-- A row of words. -/
def RowN (w : World) (B g n c : Nat) (xs : List Nat) : Prop := w.ownsRow B 23 1 (.slice (some ⟨g, 0, none⟩) n c) n (xs.map nu)
section
variable {w w' : World} {B g n c : Nat} {xs : List Nat}
theorem RowN.len (h : RowN w B g n c xs) : xs.length = n := by have := h.1; rwa [List.length_map, Nat.mul_one] at this
theorem RowN.cell (h : RowN w B g n c xs) (i : Nat) (hi : i < n) (x : Nat) (hx : atN xs i = x) : w.cell? ⟨g, i, none⟩ = some (.int .u64 (x : Nat)) := by
  rw [World.ownsRow.cellAt h i (by omega), List.getElem?_map, atN_some (by rw [h.len]; exact hi), hx]
  rfl
theorem RowN.frozen (h : RowN w B g n c xs) (i : Nat) : w.frozen? ⟨g, i, none⟩ = false := World.ownsRow.frozenAt h i
theorem RowN.drewN (h : RowN w B g n c xs) (q : Nat) : RowN (w.drewN q) B g n c xs := h
theorem RowN.below (h : RowN w B g n c xs) (hb : Below w.heap.size w w') : RowN w' B g n c xs := own_below h hb
theorem RowN.set (h : RowN w B g n c xs) (i x : Nat) : RowN (w.setCell ⟨g, i, none⟩ (.int .u64 (x : Nat))) B g n c (xs.set i x) := by
  have := (World.ownsRow.stored h i (.int .u64 (x : Nat))).1
  unfold RowN
  rw [List.map_set]
  exact this
theorem RowN.swap (h : RowN w B g n c xs) (i j x y : Nat) (hx : atN xs i = x) (hy : atN xs j = y) : RowN ((w.setCell ⟨g, i, none⟩ (.int .u64 (y : Nat))).setCell ⟨g, j, none⟩ (.int .u64 (x : Nat))) B g n c (swp xs i j) := by
  subst hx; subst hy
  exact (h.set i _).set j _
end
theorem turn_swap {W w : World} {g : Nat} (h : Turn (fun k => k = g) W w) (q i j : Nat) (u v : Value) : Turn (fun k => k = g) W (((w.drewN q).setCell ⟨g, i, none⟩ u).setCell ⟨g, j, none⟩ v) :=
  ((h.drewN q).setCell (p := ⟨g, i, none⟩) rfl u).setCell (p := ⟨g, j, none⟩) rfl v

theorem nan_any (x : Nat) (W : World) : Calls Tryz.prog 156 #[.int .u64 (x : Nat)] W fun e W' => e = .returned (.bool false) ∧ W' = W := by
  have h : ((x : Int) != (x : Int)) = false := by simp
  go_enter Tryz.func156, Tryz.ntmps156
  go_wp2
  go_ret
  exact ⟨rfl, rfl⟩
theorem lessU_any (x y : Nat) (b : Bool) (hb : decide (x < y) = b) (W : World) : Calls Tryz.prog 108 #[.int .u64 (x : Nat), .int .u64 (y : Nat)] W fun e W' => e = .returned (.bool b) ∧ W' = W := by
  have h : decide ((x : Int) < (y : Int)) = b := by rw [← hb]; exact decide_eq_decide.2 (by omega)
  go_enter Tryz.func108, Tryz.ntmps108
  go_wp2_with (go_at_call 156; refine (nan_any x _).mono ?_; rintro e w1 ⟨rfl, rfl⟩)
  go_ret
  exact ⟨rfl, rfl⟩

/-- What a sorter leaves. -/
def SoPost (W : World) (B g n c : Nat) (Q : List Nat → Prop) (e : Ending) (W' : World) : Prop := e = .returned (.tuple #[]) ∧ ∃ ys, RowN W' B g n c ys ∧ Turn (fun k => k = g) W W' ∧ Q ys

set_option maxRecDepth 100000 in
set_option maxHeartbeats 4000000 in
theorem insertion_any (B g n c a b : Nat) (xs : List Nat) (W : World) (h : RowN W B g n c xs) (hab : a ≤ b) (hb : b ≤ n) (hn : n ≤ 1000000000) :
    Calls Tryz.prog 102 #[.slice (some ⟨g, 0, none⟩) n c, .int .i64 (a : Nat), .int .i64 (b : Nat)] W (SoPost W B g n c fun ys => Sws a b xs ys ∧ Srt a b ys) := by
  have HB := Lib.hid (And.intro hb hn)
  have hb9 : b ≤ 1000000000 := by omega
  clear hb hn
  go_enter Tryz.func102, Tryz.ntmps102
  go_wp2_with fail
  go_loopw [6] (fun vi wr => ∃ (i : Nat) (ys : List Nat), vi = .int .i64 i ∧ a < i ∧ i ≤ b + 1 ∧ RowN wr B g n c ys ∧ Turn (fun k => k = g) W wr ∧ Sws a b xs ys ∧ Srt a i ys) (fun vi _ => b + 1 - (intOf vi).toNat)
  case atStart => exact ⟨a + 1, xs, by go_num, by omega, by omega, h, Turn.refl _ _, .refl _, srt_short _ (Nat.le_refl _)⟩
  case round =>
    obtain ⟨i, ys, rfl, hai, hib, hr, ht, hs, hq⟩ := hrel
    by_cases hlt : i < b
    · have hib' : (i : Int) < (b : Int) := by omega
      have HI := Lib.hid (And.intro hai hlt)
      have HQ := Lib.hid (show RowN wr B g n c ys ∧ Turn (fun k => k = g) W wr ∧ Sws a b xs ys ∧ InsI a i i ys from ⟨hr, ht, hs, ins_start hq⟩)
      clear hai hib hr ht hs hq hlt
      go_wp2_with fail
      obtain ⟨w0, rfl⟩ : ∃ w0, w0 = wr := ⟨_, rfl⟩
      go_loopw [7] (fun vj wr => ∃ (j : Nat) (zs : List Nat), vj = .int .i64 j ∧ a ≤ j ∧ j ≤ i ∧ RowN wr B g n c zs ∧ Turn (fun k => k = g) W wr ∧ Sws a b xs zs ∧ InsI a i j zs) (fun vj _ => (intOf vj).toNat)
      case atStart => exact ⟨i, ys, rfl, by have := HI.out; omega, Nat.le_refl _, HQ.out.1, HQ.out.2.1, HQ.out.2.2.1, HQ.out.2.2.2⟩
      case round =>
        obtain ⟨j, zs, rfl, haj, hji, hr, ht, hs, hq⟩ := hrel
        have hbn := HB.out.1
        have hi' := HI.out
        have hln := hr.len
        by_cases hja : a < j
        · obtain ⟨m, hm⟩ : ∃ m, j - 1 = m := ⟨_, rfl⟩
          have hjm : (j : Int) - 1 = (m : Int) := by omega
          obtain ⟨x, hx⟩ : ∃ x, atN zs j = x := ⟨_, rfl⟩
          obtain ⟨y, hy⟩ : ∃ y, atN zs m = y := ⟨_, rfl⟩
          have c1 := hr.cell j (by omega) x hx
          have c2 := hr.cell m (by omega) y hy
          have f1 := hr.frozen j
          have f2 := hr.frozen m
          have t1 : (a : Int) < (j : Int) := by omega
          have hjn : (j : Int) < (n : Int) := by omega
          have hmn : (m : Int) < (n : Int) := by omega
          have hjb : j < 1000000000 := by omega
          have hmb : m < 1000000000 := by omega
          by_cases hxy : x < y
          · have hL := lessU_any x y true (decide_eq_true hxy)
            have HR := fun q => Lib.hid (show RowN (((wr.drewN q).setCell ⟨g, j, none⟩ (.int .u64 (y : Nat))).setCell ⟨g, m, none⟩ (.int .u64 (x : Nat))) B g n c (swp zs j m) from (hr.drewN q).swap j m x y hx hy)
            have HT := fun q => Lib.hid (turn_swap ht q j m (.int .u64 (y : Nat)) (.int .u64 (x : Nat)))
            have HS := Lib.hid (show Sws a b xs (swp zs j m) ∧ InsI a i m (swp zs j m) ∧ a ≤ m ∧ m < j from ⟨Sws.step j m hs (by omega) (by omega) (by omega) (by omega) (by omega), by
              have := ins_step hq hja hji (by omega) (by rw [hm, hx, hy]; exact hxy)
              rwa [hm] at this, by omega, by omega⟩)
            have HJ := Lib.hid hji
            clear hr ht hs hq hln hx hy hm hja hji haj hi' hbn hxy
            go_wp2_with fail
            go_quiet (first | (go_at_call 108; exact Calls.quiet_of_same (hL _)))
            go_wp2_with fail
            go_region
            go_wp2_with fail
            go_roundw
            case rel => exact ⟨m, swp zs j m, rfl, HS.out.2.2.1, by have := HS.out; have := HJ.out; omega, (HR (nq + 1)).out, (HT (nq + 1)).out, HS.out.1, HS.out.2.1⟩
            case measure => have := HS.out; simp [intOf]; omega
          · have hL := lessU_any x y false (decide_eq_false hxy)
            have HS := Lib.hid (show RowN wr B g n c zs ∧ Turn (fun k => k = g) W wr ∧ Sws a b xs zs ∧ Srt a (i + 1) zs from ⟨hr, ht, hs, ins_stop hq hji (.inr (by rw [hm, hx, hy]; omega))⟩)
            clear hr ht hs hq hln hx hy hm hja hji haj hi' hbn hxy
            go_wp2_with fail
            go_quiet (first | (go_at_call 108; exact Calls.quiet_of_same (hL _)))
            go_wp2_with fail
            go_roundw
            case rel => exact ⟨i + 1, zs, by go_num, by have := HI.out; omega, by have := HI.out; omega, HS.out.1.drewN _, HS.out.2.1.drewN _, HS.out.2.2.1, HS.out.2.2.2⟩
            case measure => have := HI.out; simp [intOf]; omega
        · have q1 : decide ((a : Int) < (j : Int)) = false := decide_eq_false (by omega)
          have q2 : decide (a < j) = false := decide_eq_false hja
          have HS := Lib.hid (show RowN wr B g n c zs ∧ Turn (fun k => k = g) W wr ∧ Sws a b xs zs ∧ Srt a (i + 1) zs from ⟨hr, ht, hs, ins_stop hq hji (.inl (by omega))⟩)
          clear hr ht hs hq hln hja hji haj hi' hbn
          go_wp2_with fail
          go_quiet (fail)
          go_wp2_with fail
          go_roundw
          case rel => exact ⟨i + 1, zs, by go_num, by have := HI.out; omega, by have := HI.out; omega, HS.out.1.drewN _, HS.out.2.1.drewN _, HS.out.2.2.1, HS.out.2.2.2⟩
          case measure => have := HI.out; simp [intOf]; omega
    · have hib' : ¬ (i : Int) < (b : Int) := by omega
      have HQ := Lib.hid (show RowN wr B g n c ys ∧ Turn (fun k => k = g) W wr ∧ Sws a b xs ys ∧ Srt a b ys from ⟨hr, ht, hs, fun p q h1 h2 h3 => hq p q h1 h2 (by omega)⟩)
      clear hai hib hr ht hs hq hlt
      go_wp2_with fail
      go_end0
      exact ⟨rfl, ys, HQ.out.1, HQ.out.2.1, HQ.out.2.2.1, HQ.out.2.2.2⟩

end Go.Proofs.YthjikbhjciphiaaGreatDoor

/-
  The library's sort of words: sifting down, the heap's sort, turning round.
-/
namespace Go.Proofs.YthjikbhjciphiaaGreatDoor
open Go.RowKit
set_option linter.unusedVariables false
set_option linter.unusedSimpArgs false

set_option maxRecDepth 100000 in
set_option maxHeartbeats 8000000 in
theorem sift_any (B g n c lo hi f : Nat) (xs : List Nat) (W : World) (h : RowN W B g n c xs) (hf : f + hi ≤ n) (hlo : lo ≤ n) (hn : n ≤ 1000000000) (hh : Hp f (lo + 1) hi xs) :
    Calls Tryz.prog 151 #[.slice (some ⟨g, 0, none⟩) n c, .int .i64 (lo : Nat), .int .i64 (hi : Nat), .int .i64 (f : Nat)] W (SoPost W B g n c fun ys => Sws f (f + hi) xs ys ∧ Hp f lo hi ys) := by
  have HB := Lib.hid (And.intro hf (And.intro hlo hn))
  have hf9 : f ≤ 1000000000 := by omega
  have hh9 : hi ≤ 1000000000 := by omega
  have hl9 : lo ≤ 1000000000 := by omega
  clear hf hlo hn
  go_enter Tryz.func151, Tryz.ntmps151
  go_wp2_with fail
  go_loopw [8] (fun vr wr => ∃ (r : Nat) (ys : List Nat), vr = .int .i64 r ∧ lo ≤ r ∧ r ≤ n ∧ RowN wr B g n c ys ∧ Turn (fun k => k = g) W wr ∧ Sws f (f + hi) xs ys ∧ HpX f lo hi r ys) (fun vr _ => n - (intOf vr).toNat)
  case atStart => exact ⟨lo, xs, rfl, Nat.le_refl _, HB.out.2.1, h, Turn.refl _ _, .refl _, hpx_start hh⟩
  case round =>
    obtain ⟨r, ys, rfl, hlr, hrn, hr, ht, hs, hq⟩ := hrel
    have hb := HB.out
    have hln := hr.len
    have hr9 : r ≤ 1000000000 := by omega
    obtain ⟨r2, hr2⟩ : ∃ x, 2 * r = x := ⟨_, rfl⟩
    obtain ⟨k1, hk1⟩ : ∃ x, r2 + 1 = x := ⟨_, rfl⟩
    obtain ⟨k2, hk2⟩ : ∃ x, k1 + 1 = x := ⟨_, rfl⟩
    have e1 : 2 * (r : Int) = (r2 : Int) := by omega
    have e2 : (r2 : Int) + 1 = (k1 : Int) := by omega
    have e3 : (k1 : Int) + 1 = (k2 : Int) := by omega
    have b1 : r2 ≤ 2000000000 := by omega
    have b2 : k1 ≤ 2000000001 := by omega
    have b3 : k2 ≤ 2000000002 := by omega
    have hkid : ∀ q, Kid r q → q = k1 ∨ q = k2 := fun q hq => by unfold Kid at hq; omega
    by_cases hk : hi ≤ k1
    · have t1 : (hi : Int) ≤ (k1 : Int) := by omega
      have HQ := Lib.hid (show RowN wr B g n c ys ∧ Turn (fun k => k = g) W wr ∧ Sws f (f + hi) xs ys ∧ Hp f lo hi ys from ⟨hr, ht, hs, hpx_stop hq fun q h1 h2 => by have := hkid q h1; omega⟩)
      clear hlr hrn hr ht hs hq hb hln hr2 hk1 hk2 hkid hk hh h
      go_wp2_with fail
      refine bodyPost_ret (results_none rfl _ _ _) rfl ?_
      exact ⟨rfl, ys, HQ.out.1, HQ.out.2.1, HQ.out.2.2.1, HQ.out.2.2.2⟩
    · have t1 : ¬ (hi : Int) ≤ (k1 : Int) := by omega
      obtain ⟨p0, hp0⟩ : ∃ x, f + r = x := ⟨_, rfl⟩
      obtain ⟨p1, hp1⟩ : ∃ x, f + k1 = x := ⟨_, rfl⟩
      obtain ⟨p2, hp2⟩ : ∃ x, f + k2 = x := ⟨_, rfl⟩
      have g0 : (f : Int) + (r : Int) = (p0 : Int) := by omega
      have g1 : (f : Int) + (k1 : Int) = (p1 : Int) := by omega
      have g2 : (f : Int) + (k2 : Int) = (p2 : Int) := by omega
      have g3 : (p1 : Int) + 1 = (p2 : Int) := by omega
      have n0 : (p0 : Int) < (n : Int) := by omega
      have n1 : (p1 : Int) < (n : Int) := by omega
      have m0 : p0 ≤ 2000000000 := by omega
      have m1 : p1 ≤ 3000000001 := by omega
      have m2 : p2 ≤ 3000000002 := by omega
      obtain ⟨x0, hx0⟩ : ∃ x, atN ys p0 = x := ⟨_, rfl⟩
      obtain ⟨x1, hx1⟩ : ∃ x, atN ys p1 = x := ⟨_, rfl⟩
      obtain ⟨x2, hx2⟩ : ∃ x, atN ys p2 = x := ⟨_, rfl⟩
      have c0 := hr.cell p0 (by omega) x0 hx0
      have c1 := hr.cell p1 (by omega) x1 hx1
      have w0 : IntKind.i64.wrap (p0 : Int) = (p0 : Int) := by rw [IntKind.wrap_i64]; omega
      have w1 : IntKind.i64.wrap (p1 : Int) = (p1 : Int) := by rw [IntKind.wrap_i64]; omega
      have w2 : IntKind.i64.wrap (p2 : Int) = (p2 : Int) := by rw [IntKind.wrap_i64]; omega
      have f0 := hr.frozen p0
      have f1 := hr.frozen p1
      have f2 := hr.frozen p2
      by_cases hk2h : k2 < hi
      · have n2 : (p2 : Int) < (n : Int) := by omega
        have c2 := hr.cell p2 (by omega) x2 hx2
        by_cases hc1 : x1 < x2
        · have hL1 := lessU_any x1 x2 true (decide_eq_true hc1)
          by_cases hc2 : x0 < x2
          · skip
            have hmax : ∀ q, Kid r q → q < hi → atN ys (f + q) ≤ atN ys (f + k2) := fun q h1 h2 => by
              rcases hkid q h1 with e | e
              · rw [e, hp1, hp2, hx1, hx2]; omega
              · rw [e]; exact Nat.le_refl _
            have hkk : Kid r k2 := by unfold Kid; omega
            have hkh : k2 < hi := by omega
            have hL2 := lessU_any x0 x2 true (decide_eq_true hc2)
            have HC := Lib.hid (show RowN wr B g n c ys ∧ Turn (fun k => k = g) W wr ∧ atN ys p0 = x0 ∧ atN ys p2 = x2 ∧ p0 < n ∧ p2 < n from ⟨hr, ht, hx0, hx2, by omega, by omega⟩)
            have HS := Lib.hid (show Sws f (f + hi) xs (swp ys p0 p2) ∧ HpX f lo hi k2 (swp ys p0 p2) ∧ lo ≤ k2 ∧ k2 ≤ n ∧ r < k2 from ⟨Sws.step p0 p2 hs (by omega) (by omega) (by omega) (by omega) (by omega), by
              have := hpx_step hq hlr hkk hkh (by omega) hmax (by rw [hp0, hp2, hx0, hx2]; exact hc2)
              rwa [hp0, hp2] at this, by omega, by omega, by omega⟩)
            have q1 : decide ((k2 : Int) < (hi : Int)) = true := decide_eq_true (by omega)
            have q2 : decide (k2 < hi) = true := decide_eq_true hk2h
            clear hlr hrn hr ht hs hq hb hln hr2 hk1 hk2 hkid hk hmax hkk hkh hx0 hx1 hx2 hp0 hp1 hp2 hc2 hh h hk2h hc1
            go_wp2_with fail
            go_quiet (first | (go_at_call 108; exact Calls.quiet_of_same (hL1 _)))
            go_wp2_with fail
            obtain ⟨w9, hw9⟩ : ∃ x, wr.drewN nq = x := ⟨_, rfl⟩
            have r9 : RowN w9 B g n c ys := by rw [← hw9]; exact HC.out.1.drewN _
            have t9 : Turn (fun k => k = g) W w9 := by rw [← hw9]; exact HC.out.2.1.drewN _
            rw [hw9]
            have d0 := r9.cell p0 HC.out.2.2.2.2.1 x0 HC.out.2.2.1
            have d1 := r9.cell p2 HC.out.2.2.2.2.2 x2 HC.out.2.2.2.1
            have z0 := r9.frozen p0
            have z1 := r9.frozen p2
            have HR := fun q => Lib.hid (show RowN (((w9.drewN q).setCell ⟨g, p0, none⟩ (.int .u64 (x2 : Nat))).setCell ⟨g, p2, none⟩ (.int .u64 (x0 : Nat))) B g n c (swp ys p0 p2) from (r9.drewN q).swap p0 p2 x0 x2 HC.out.2.2.1 HC.out.2.2.2.1)
            have HT := fun q => Lib.hid (turn_swap t9 q p0 p2 (.int .u64 (x2 : Nat)) (.int .u64 (x0 : Nat)))
            clear hw9 c0 c1 c2 f0 f1 f2 r9 t9
            go_quiet (first | (go_at_call 108; exact Calls.quiet_of_same (hL2 _)))
            go_wp2_with fail
            go_region
            go_wp2_with fail
            go_roundw
            case rel => exact ⟨k2, swp ys p0 p2, rfl, HS.out.2.2.1, HS.out.2.2.2.1, (HR _).out, (HT _).out, HS.out.1, HS.out.2.1⟩
            case measure => have := HS.out; simp [intOf]; omega
          · skip
            have hmax : ∀ q, Kid r q → q < hi → atN ys (f + q) ≤ atN ys (f + k2) := fun q h1 h2 => by
              rcases hkid q h1 with e | e
              · rw [e, hp1, hp2, hx1, hx2]; omega
              · rw [e]; exact Nat.le_refl _
            have hkk : Kid r k2 := by unfold Kid; omega
            have hkh : k2 < hi := by omega
            have hL2 := lessU_any x0 x2 false (decide_eq_false hc2)
            have HC := Lib.hid (show RowN wr B g n c ys ∧ Turn (fun k => k = g) W wr ∧ atN ys p0 = x0 ∧ atN ys p2 = x2 ∧ p0 < n ∧ p2 < n from ⟨hr, ht, hx0, hx2, by omega, by omega⟩)
            have HS := Lib.hid (show Sws f (f + hi) xs ys ∧ Hp f lo hi ys from ⟨hs, hpx_stop hq fun q h1 h2 => Nat.le_trans (hmax q h1 h2) (by rw [hp0, hp2, hx0, hx2]; omega)⟩)
            have q1 : decide ((k2 : Int) < (hi : Int)) = true := decide_eq_true (by omega)
            have q2 : decide (k2 < hi) = true := decide_eq_true hk2h
            clear hlr hrn hr ht hs hq hb hln hr2 hk1 hk2 hkid hk hmax hkk hkh hx0 hx1 hx2 hp0 hp1 hp2 hc2 hh h hk2h hc1
            go_wp2_with fail
            go_quiet (first | (go_at_call 108; exact Calls.quiet_of_same (hL1 _)))
            go_wp2_with fail
            obtain ⟨w9, hw9⟩ : ∃ x, wr.drewN nq = x := ⟨_, rfl⟩
            have r9 : RowN w9 B g n c ys := by rw [← hw9]; exact HC.out.1.drewN _
            have t9 : Turn (fun k => k = g) W w9 := by rw [← hw9]; exact HC.out.2.1.drewN _
            rw [hw9]
            have d0 := r9.cell p0 HC.out.2.2.2.2.1 x0 HC.out.2.2.1
            have d1 := r9.cell p2 HC.out.2.2.2.2.2 x2 HC.out.2.2.2.1
            have z0 := r9.frozen p0
            have z1 := r9.frozen p2
            have HR := Lib.hid (And.intro r9 t9)
            clear hw9 c0 c1 c2 f0 f1 f2 r9 t9
            go_quiet (first | (go_at_call 108; exact Calls.quiet_of_same (hL2 _)))
            go_wp2_with fail
            refine bodyPost_ret (results_none rfl _ _ _) rfl ?_
            exact ⟨rfl, ys, HR.out.1.drewN _, HR.out.2.drewN _, HS.out.1, HS.out.2⟩
        · have hL1 := lessU_any x1 x2 false (decide_eq_false hc1)
          by_cases hc2 : x0 < x1
          · skip
            have hmax : ∀ q, Kid r q → q < hi → atN ys (f + q) ≤ atN ys (f + k1) := fun q h1 h2 => by
              rcases hkid q h1 with e | e
              · rw [e]; exact Nat.le_refl _
              · rw [e, hp1, hp2, hx1, hx2]; omega
            have hkk : Kid r k1 := by unfold Kid; omega
            have hkh : k1 < hi := by omega
            have hL2 := lessU_any x0 x1 true (decide_eq_true hc2)
            have HC := Lib.hid (show RowN wr B g n c ys ∧ Turn (fun k => k = g) W wr ∧ atN ys p0 = x0 ∧ atN ys p1 = x1 ∧ p0 < n ∧ p1 < n from ⟨hr, ht, hx0, hx1, by omega, by omega⟩)
            have HS := Lib.hid (show Sws f (f + hi) xs (swp ys p0 p1) ∧ HpX f lo hi k1 (swp ys p0 p1) ∧ lo ≤ k1 ∧ k1 ≤ n ∧ r < k1 from ⟨Sws.step p0 p1 hs (by omega) (by omega) (by omega) (by omega) (by omega), by
              have := hpx_step hq hlr hkk hkh (by omega) hmax (by rw [hp0, hp1, hx0, hx1]; exact hc2)
              rwa [hp0, hp1] at this, by omega, by omega, by omega⟩)
            have q1 : decide ((k2 : Int) < (hi : Int)) = true := decide_eq_true (by omega)
            have q2 : decide (k2 < hi) = true := decide_eq_true hk2h
            clear hlr hrn hr ht hs hq hb hln hr2 hk1 hk2 hkid hk hmax hkk hkh hx0 hx1 hx2 hp0 hp1 hp2 hc2 hh h hk2h hc1
            go_wp2_with fail
            go_quiet (first | (go_at_call 108; exact Calls.quiet_of_same (hL1 _)))
            go_wp2_with fail
            obtain ⟨w9, hw9⟩ : ∃ x, wr.drewN nq = x := ⟨_, rfl⟩
            have r9 : RowN w9 B g n c ys := by rw [← hw9]; exact HC.out.1.drewN _
            have t9 : Turn (fun k => k = g) W w9 := by rw [← hw9]; exact HC.out.2.1.drewN _
            rw [hw9]
            have d0 := r9.cell p0 HC.out.2.2.2.2.1 x0 HC.out.2.2.1
            have d1 := r9.cell p1 HC.out.2.2.2.2.2 x1 HC.out.2.2.2.1
            have z0 := r9.frozen p0
            have z1 := r9.frozen p1
            have HR := fun q => Lib.hid (show RowN (((w9.drewN q).setCell ⟨g, p0, none⟩ (.int .u64 (x1 : Nat))).setCell ⟨g, p1, none⟩ (.int .u64 (x0 : Nat))) B g n c (swp ys p0 p1) from (r9.drewN q).swap p0 p1 x0 x1 HC.out.2.2.1 HC.out.2.2.2.1)
            have HT := fun q => Lib.hid (turn_swap t9 q p0 p1 (.int .u64 (x1 : Nat)) (.int .u64 (x0 : Nat)))
            clear hw9 c0 c1 c2 f0 f1 f2 r9 t9
            go_quiet (first | (go_at_call 108; exact Calls.quiet_of_same (hL2 _)))
            go_wp2_with fail
            go_region
            go_wp2_with fail
            go_roundw
            case rel => exact ⟨k1, swp ys p0 p1, rfl, HS.out.2.2.1, HS.out.2.2.2.1, (HR _).out, (HT _).out, HS.out.1, HS.out.2.1⟩
            case measure => have := HS.out; simp [intOf]; omega
          · skip
            have hmax : ∀ q, Kid r q → q < hi → atN ys (f + q) ≤ atN ys (f + k1) := fun q h1 h2 => by
              rcases hkid q h1 with e | e
              · rw [e]; exact Nat.le_refl _
              · rw [e, hp1, hp2, hx1, hx2]; omega
            have hkk : Kid r k1 := by unfold Kid; omega
            have hkh : k1 < hi := by omega
            have hL2 := lessU_any x0 x1 false (decide_eq_false hc2)
            have HC := Lib.hid (show RowN wr B g n c ys ∧ Turn (fun k => k = g) W wr ∧ atN ys p0 = x0 ∧ atN ys p1 = x1 ∧ p0 < n ∧ p1 < n from ⟨hr, ht, hx0, hx1, by omega, by omega⟩)
            have HS := Lib.hid (show Sws f (f + hi) xs ys ∧ Hp f lo hi ys from ⟨hs, hpx_stop hq fun q h1 h2 => Nat.le_trans (hmax q h1 h2) (by rw [hp0, hp1, hx0, hx1]; omega)⟩)
            have q1 : decide ((k2 : Int) < (hi : Int)) = true := decide_eq_true (by omega)
            have q2 : decide (k2 < hi) = true := decide_eq_true hk2h
            clear hlr hrn hr ht hs hq hb hln hr2 hk1 hk2 hkid hk hmax hkk hkh hx0 hx1 hx2 hp0 hp1 hp2 hc2 hh h hk2h hc1
            go_wp2_with fail
            go_quiet (first | (go_at_call 108; exact Calls.quiet_of_same (hL1 _)))
            go_wp2_with fail
            obtain ⟨w9, hw9⟩ : ∃ x, wr.drewN nq = x := ⟨_, rfl⟩
            have r9 : RowN w9 B g n c ys := by rw [← hw9]; exact HC.out.1.drewN _
            have t9 : Turn (fun k => k = g) W w9 := by rw [← hw9]; exact HC.out.2.1.drewN _
            rw [hw9]
            have d0 := r9.cell p0 HC.out.2.2.2.2.1 x0 HC.out.2.2.1
            have d1 := r9.cell p1 HC.out.2.2.2.2.2 x1 HC.out.2.2.2.1
            have z0 := r9.frozen p0
            have z1 := r9.frozen p1
            have HR := Lib.hid (And.intro r9 t9)
            clear hw9 c0 c1 c2 f0 f1 f2 r9 t9
            go_quiet (first | (go_at_call 108; exact Calls.quiet_of_same (hL2 _)))
            go_wp2_with fail
            refine bodyPost_ret (results_none rfl _ _ _) rfl ?_
            exact ⟨rfl, ys, HR.out.1.drewN _, HR.out.2.drewN _, HS.out.1, HS.out.2⟩
      · by_cases hc2 : x0 < x1
        · skip
          have hmax : ∀ q, Kid r q → q < hi → atN ys (f + q) ≤ atN ys (f + k1) := fun q h1 h2 => by
            rcases hkid q h1 with e | e
            · rw [e]; exact Nat.le_refl _
            · omega
          have hkk : Kid r k1 := by unfold Kid; omega
          have hkh : k1 < hi := by omega
          have hL2 := lessU_any x0 x1 true (decide_eq_true hc2)
          have HC := Lib.hid (show RowN wr B g n c ys ∧ Turn (fun k => k = g) W wr ∧ atN ys p0 = x0 ∧ atN ys p1 = x1 ∧ p0 < n ∧ p1 < n from ⟨hr, ht, hx0, hx1, by omega, by omega⟩)
          have HS := Lib.hid (show Sws f (f + hi) xs (swp ys p0 p1) ∧ HpX f lo hi k1 (swp ys p0 p1) ∧ lo ≤ k1 ∧ k1 ≤ n ∧ r < k1 from ⟨Sws.step p0 p1 hs (by omega) (by omega) (by omega) (by omega) (by omega), by
            have := hpx_step hq hlr hkk hkh (by omega) hmax (by rw [hp0, hp1, hx0, hx1]; exact hc2)
            rwa [hp0, hp1] at this, by omega, by omega, by omega⟩)
          have q1 : decide ((k2 : Int) < (hi : Int)) = false := decide_eq_false (by omega)
          have q2 : decide (k2 < hi) = false := decide_eq_false hk2h
          clear hlr hrn hr ht hs hq hb hln hr2 hk1 hk2 hkid hk hmax hkk hkh hx0 hx1 hx2 hp0 hp1 hp2 hc2 hh h hk2h
          go_wp2_with fail
          go_quiet (fail)
          go_wp2_with fail
          obtain ⟨w9, hw9⟩ : ∃ x, wr.drewN nq = x := ⟨_, rfl⟩
          have r9 : RowN w9 B g n c ys := by rw [← hw9]; exact HC.out.1.drewN _
          have t9 : Turn (fun k => k = g) W w9 := by rw [← hw9]; exact HC.out.2.1.drewN _
          rw [hw9]
          have d0 := r9.cell p0 HC.out.2.2.2.2.1 x0 HC.out.2.2.1
          have d1 := r9.cell p1 HC.out.2.2.2.2.2 x1 HC.out.2.2.2.1
          have z0 := r9.frozen p0
          have z1 := r9.frozen p1
          have HR := fun q => Lib.hid (show RowN (((w9.drewN q).setCell ⟨g, p0, none⟩ (.int .u64 (x1 : Nat))).setCell ⟨g, p1, none⟩ (.int .u64 (x0 : Nat))) B g n c (swp ys p0 p1) from (r9.drewN q).swap p0 p1 x0 x1 HC.out.2.2.1 HC.out.2.2.2.1)
          have HT := fun q => Lib.hid (turn_swap t9 q p0 p1 (.int .u64 (x1 : Nat)) (.int .u64 (x0 : Nat)))
          clear hw9 c0 c1 f0 f1 f2 r9 t9
          go_quiet (first | (go_at_call 108; exact Calls.quiet_of_same (hL2 _)))
          go_wp2_with fail
          go_region
          go_wp2_with fail
          go_roundw
          case rel => exact ⟨k1, swp ys p0 p1, rfl, HS.out.2.2.1, HS.out.2.2.2.1, (HR _).out, (HT _).out, HS.out.1, HS.out.2.1⟩
          case measure => have := HS.out; simp [intOf]; omega
        · skip
          have hmax : ∀ q, Kid r q → q < hi → atN ys (f + q) ≤ atN ys (f + k1) := fun q h1 h2 => by
            rcases hkid q h1 with e | e
            · rw [e]; exact Nat.le_refl _
            · omega
          have hkk : Kid r k1 := by unfold Kid; omega
          have hkh : k1 < hi := by omega
          have hL2 := lessU_any x0 x1 false (decide_eq_false hc2)
          have HC := Lib.hid (show RowN wr B g n c ys ∧ Turn (fun k => k = g) W wr ∧ atN ys p0 = x0 ∧ atN ys p1 = x1 ∧ p0 < n ∧ p1 < n from ⟨hr, ht, hx0, hx1, by omega, by omega⟩)
          have HS := Lib.hid (show Sws f (f + hi) xs ys ∧ Hp f lo hi ys from ⟨hs, hpx_stop hq fun q h1 h2 => Nat.le_trans (hmax q h1 h2) (by rw [hp0, hp1, hx0, hx1]; omega)⟩)
          have q1 : decide ((k2 : Int) < (hi : Int)) = false := decide_eq_false (by omega)
          have q2 : decide (k2 < hi) = false := decide_eq_false hk2h
          clear hlr hrn hr ht hs hq hb hln hr2 hk1 hk2 hkid hk hmax hkk hkh hx0 hx1 hx2 hp0 hp1 hp2 hc2 hh h hk2h
          go_wp2_with fail
          go_quiet (fail)
          go_wp2_with fail
          obtain ⟨w9, hw9⟩ : ∃ x, wr.drewN nq = x := ⟨_, rfl⟩
          have r9 : RowN w9 B g n c ys := by rw [← hw9]; exact HC.out.1.drewN _
          have t9 : Turn (fun k => k = g) W w9 := by rw [← hw9]; exact HC.out.2.1.drewN _
          rw [hw9]
          have d0 := r9.cell p0 HC.out.2.2.2.2.1 x0 HC.out.2.2.1
          have d1 := r9.cell p1 HC.out.2.2.2.2.2 x1 HC.out.2.2.2.1
          have z0 := r9.frozen p0
          have z1 := r9.frozen p1
          have HR := Lib.hid (And.intro r9 t9)
          clear hw9 c0 c1 f0 f1 f2 r9 t9
          go_quiet (first | (go_at_call 108; exact Calls.quiet_of_same (hL2 _)))
          go_wp2_with fail
          refine bodyPost_ret (results_none rfl _ _ _) rfl ?_
          exact ⟨rfl, ys, HR.out.1.drewN _, HR.out.2.drewN _, HS.out.1, HS.out.2⟩

end Go.Proofs.YthjikbhjciphiaaGreatDoor
