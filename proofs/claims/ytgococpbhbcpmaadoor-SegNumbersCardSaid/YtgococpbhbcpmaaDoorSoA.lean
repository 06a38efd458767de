/-
  The library's sort of words: comparing, a row of words, insertion.
-/
import Derived.Test.YtgococpbhbcpmaaDoorSoM
import Derived.Test.YtgococpbhbcpmaaDoorPrt
import Derived.BigRegion
import Derived.BigQuiet
namespace Go.Proofs.YtgococpbhbcpmaaDoor
open Go.RowKit
set_option linter.unusedVariables false
set_option linter.unusedSimpArgs false

def nu (x : Nat) : Value := .int .u64 (x : Int)
/-- A row of words. -/
def RowN (w : World) (B g n c : Nat) (xs : List Nat) : Prop := w.ownsRow B 22 1 (.slice (some ⟨g, 0, none⟩) n c) n (xs.map nu)
section
variable {w w' : World} {B g n c : Nat} {xs : List Nat}
theorem RowN.len (h : RowN w B g n c xs) : xs.length = n := by have := h.1; rwa [List.length_map, Nat.mul_one] at this
theorem RowN.cell (h : RowN w B g n c xs) (i : Nat) (hi : i < n) (x : Nat) (hx : atN xs i = x) : w.cell? ⟨g, i, none⟩ = some (.int .u64 (x : Nat)) := by
  rw [World.ownsRow.cellAt h i (by omega), List.getElem?_map, atN_some (by rw [h.len]; exact hi), hx]
  rfl
theorem RowN.frozen (h : RowN w B g n c xs) (i : Nat) : w.frozen? ⟨g, i, none⟩ = false := World.ownsRow.frozenAt h i
theorem RowN.drewN (h : RowN w B g n c xs) (q : Nat) : RowN (w.drewN q) B g n c xs := h
theorem RowN.below (h : RowN w B g n c xs) (hb : Below w.heap.size w w') : RowN w' B g n c xs := own_below h hb
theorem RowN.set (h : RowN w B g n c xs) (i x : Nat) : RowN (w.setCell ⟨g, i, none⟩ (.int .u64 (x : Nat))) B g n c (xs.set i x) := by
  have := (World.ownsRow.stored h i (.int .u64 (x : Nat))).1
  unfold RowN
  rw [List.map_set]
  exact this
theorem RowN.swap (h : RowN w B g n c xs) (i j x y : Nat) (hx : atN xs i = x) (hy : atN xs j = y) : RowN ((w.setCell ⟨g, i, none⟩ (.int .u64 (y : Nat))).setCell ⟨g, j, none⟩ (.int .u64 (x : Nat))) B g n c (swp xs i j) := by
  subst hx; subst hy
  exact (h.set i _).set j _
end
theorem turn_swap {W w : World} {g : Nat} (h : Turn (fun k => k = g) W w) (q i j : Nat) (u v : Value) : Turn (fun k => k = g) W (((w.drewN q).setCell ⟨g, i, none⟩ u).setCell ⟨g, j, none⟩ v) :=
  ((h.drewN q).setCell (p := ⟨g, i, none⟩) rfl u).setCell (p := ⟨g, j, none⟩) rfl v

theorem nan_any (x : Nat) (W : World) : Calls Tryd.prog 69 #[.int .u64 (x : Nat)] W fun e W' => e = .returned (.bool false) ∧ W' = W := by
  have h : ((x : Int) != (x : Int)) = false := by simp
  go_enter Tryd.func69, Tryd.ntmps69
  go_wp2
  go_ret
  exact ⟨rfl, rfl⟩
theorem lessU_any (x y : Nat) (b : Bool) (hb : decide (x < y) = b) (W : World) : Calls Tryd.prog 50 #[.int .u64 (x : Nat), .int .u64 (y : Nat)] W fun e W' => e = .returned (.bool b) ∧ W' = W := by
  have h : decide ((x : Int) < (y : Int)) = b := by rw [← hb]; exact decide_eq_decide.2 (by omega)
  go_enter Tryd.func50, Tryd.ntmps50
  go_wp2_with (go_at_call 69; refine (nan_any x _).mono ?_; rintro e w1 ⟨rfl, rfl⟩)
  go_ret
  exact ⟨rfl, rfl⟩

/-- What a sorter leaves. -/
def SoPost (W : World) (B g n c : Nat) (Q : List Nat → Prop) (e : Ending) (W' : World) : Prop := e = .returned (.tuple #[]) ∧ ∃ ys, RowN W' B g n c ys ∧ Turn (fun k => k = g) W W' ∧ Q ys

set_option maxRecDepth 100000 in
set_option maxHeartbeats 4000000 in
theorem insertion_any (B g n c a b : Nat) (xs : List Nat) (W : World) (h : RowN W B g n c xs) (hab : a ≤ b) (hb : b ≤ n) (hn : n ≤ 1000000000) :
    Calls Tryd.prog 44 #[.slice (some ⟨g, 0, none⟩) n c, .int .i64 (a : Nat), .int .i64 (b : Nat)] W (SoPost W B g n c fun ys => Sws a b xs ys ∧ Srt a b ys) := by
  have HB := Lib.hid (And.intro hb hn)
  have hb9 : b ≤ 1000000000 := by omega
  clear hb hn
  go_enter Tryd.func44, Tryd.ntmps44
  go_wp2_with fail
  go_loopw [6] (fun vi wr => ∃ (i : Nat) (ys : List Nat), vi = .int .i64 i ∧ a < i ∧ i ≤ b + 1 ∧ RowN wr B g n c ys ∧ Turn (fun k => k = g) W wr ∧ Sws a b xs ys ∧ Srt a i ys) (fun vi _ => b + 1 - (intOf vi).toNat)
  case atStart => exact ⟨a + 1, xs, by go_num, by omega, by omega, h, Turn.refl _ _, .refl _, srt_short _ (Nat.le_refl _)⟩
  case round =>
    obtain ⟨i, ys, rfl, hai, hib, hr, ht, hs, hq⟩ := hrel
    by_cases hlt : i < b
    · have hib' : (i : Int) < (b : Int) := by omega
      have HI := Lib.hid (And.intro hai hlt)
      have HQ := Lib.hid (show RowN wr B g n c ys ∧ Turn (fun k => k = g) W wr ∧ Sws a b xs ys ∧ InsI a i i ys from ⟨hr, ht, hs, ins_start hq⟩)
      clear hai hib hr ht hs hq hlt
      go_wp2_with fail
      obtain ⟨w0, rfl⟩ : ∃ w0, w0 = wr := ⟨_, rfl⟩
      go_loopw [7] (fun vj wr => ∃ (j : Nat) (zs : List Nat), vj = .int .i64 j ∧ a ≤ j ∧ j ≤ i ∧ RowN wr B g n c zs ∧ Turn (fun k => k = g) W wr ∧ Sws a b xs zs ∧ InsI a i j zs) (fun vj _ => (intOf vj).toNat)
      case atStart => exact ⟨i, ys, rfl, by have := HI.out; omega, Nat.le_refl _, HQ.out.1, HQ.out.2.1, HQ.out.2.2.1, HQ.out.2.2.2⟩
      case round =>
        obtain ⟨j, zs, rfl, haj, hji, hr, ht, hs, hq⟩ := hrel
        have hbn := HB.out.1
        have hi' := HI.out
        have hln := hr.len
        by_cases hja : a < j
        · obtain ⟨m, hm⟩ : ∃ m, j - 1 = m := ⟨_, rfl⟩
          have hjm : (j : Int) - 1 = (m : Int) := by omega
          obtain ⟨x, hx⟩ : ∃ x, atN zs j = x := ⟨_, rfl⟩
          obtain ⟨y, hy⟩ : ∃ y, atN zs m = y := ⟨_, rfl⟩
          have c1 := hr.cell j (by omega) x hx
          have c2 := hr.cell m (by omega) y hy
          have f1 := hr.frozen j
          have f2 := hr.frozen m
          have t1 : (a : Int) < (j : Int) := by omega
          have hjn : (j : Int) < (n : Int) := by omega
          have hmn : (m : Int) < (n : Int) := by omega
          have hjb : j < 1000000000 := by omega
          have hmb : m < 1000000000 := by omega
          by_cases hxy : x < y
          · have hL := lessU_any x y true (decide_eq_true hxy)
            have HR := fun q => Lib.hid (show RowN (((wr.drewN q).setCell ⟨g, j, none⟩ (.int .u64 (y : Nat))).setCell ⟨g, m, none⟩ (.int .u64 (x : Nat))) B g n c (swp zs j m) from (hr.drewN q).swap j m x y hx hy)
            have HT := fun q => Lib.hid (turn_swap ht q j m (.int .u64 (y : Nat)) (.int .u64 (x : Nat)))
            have HS := Lib.hid (show Sws a b xs (swp zs j m) ∧ InsI a i m (swp zs j m) ∧ a ≤ m ∧ m < j from ⟨Sws.step j m hs (by omega) (by omega) (by omega) (by omega) (by omega), by
              have := ins_step hq hja hji (by omega) (by rw [hm, hx, hy]; exact hxy)
              rwa [hm] at this, by omega, by omega⟩)
            have HJ := Lib.hid hji
            clear hr ht hs hq hln hx hy hm hja hji haj hi' hbn hxy
            go_wp2_with fail
            go_quiet (first | (go_at_call 50; exact Calls.quiet_of_same (hL _)))
            go_wp2_with fail
            go_region
            go_wp2_with fail
            go_roundw
            case rel => exact ⟨m, swp zs j m, rfl, HS.out.2.2.1, by have := HS.out; have := HJ.out; omega, (HR (nq + 1)).out, (HT (nq + 1)).out, HS.out.1, HS.out.2.1⟩
            case measure => have := HS.out; simp [intOf]; omega
          · have hL := lessU_any x y false (decide_eq_false hxy)
            have HS := Lib.hid (show RowN wr B g n c zs ∧ Turn (fun k => k = g) W wr ∧ Sws a b xs zs ∧ Srt a (i + 1) zs from ⟨hr, ht, hs, ins_stop hq hji (.inr (by rw [hm, hx, hy]; omega))⟩)
            clear hr ht hs hq hln hx hy hm hja hji haj hi' hbn hxy
            go_wp2_with fail
            go_quiet (first | (go_at_call 50; exact Calls.quiet_of_same (hL _)))
            go_wp2_with fail
            go_roundw
            case rel => exact ⟨i + 1, zs, by go_num, by have := HI.out; omega, by have := HI.out; omega, HS.out.1.drewN _, HS.out.2.1.drewN _, HS.out.2.2.1, HS.out.2.2.2⟩
            case measure => have := HI.out; simp [intOf]; omega
        · have q1 : decide ((a : Int) < (j : Int)) = false := decide_eq_false (by omega)
          have q2 : decide (a < j) = false := decide_eq_false hja
          have HS := Lib.hid (show RowN wr B g n c zs ∧ Turn (fun k => k = g) W wr ∧ Sws a b xs zs ∧ Srt a (i + 1) zs from ⟨hr, ht, hs, ins_stop hq hji (.inl (by omega))⟩)
          clear hr ht hs hq hln hja hji haj hi' hbn
          go_wp2_with fail
          go_quiet (fail)
          go_wp2_with fail
          go_roundw
          case rel => exact ⟨i + 1, zs, by go_num, by have := HI.out; omega, by have := HI.out; omega, HS.out.1.drewN _, HS.out.2.1.drewN _, HS.out.2.2.1, HS.out.2.2.2⟩
          case measure => have := HI.out; simp [intOf]; omega
    · have hib' : ¬ (i : Int) < (b : Int) := by omega
      have HQ := Lib.hid (show RowN wr B g n c ys ∧ Turn (fun k => k = g) W wr ∧ Sws a b xs ys ∧ Srt a b ys from ⟨hr, ht, hs, fun p q h1 h2 h3 => hq p q h1 h2 (by omega)⟩)
      clear hai hib hr ht hs hq hlt
      go_wp2_with fail
      go_end0
      exact ⟨rfl, ys, HQ.out.1, HQ.out.2.1, HQ.out.2.2.1, HQ.out.2.2.2⟩

end Go.Proofs.YtgococpbhbcpmaaDoor
