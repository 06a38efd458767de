/-
  The walk of the law OctetReads.
-/
import Derived.Test.YtkdnagmjjmcbaaaOctTextsWalk
import Derived.Test.YtkdnagmjjmcbaaaOpen
namespace Go.Proofs.Ytkdnagmjjmcbaaa
open Go.RowKit
set_option linter.unusedVariables false
set_option linter.unusedSimpArgs false

theorem tk_bad (l : List UInt8) (k : Int) : tk l 1 k = ([], l, 1) := by unfold tk; rw [if_pos (Or.inl (by decide))]
theorem tk_sh (l : List UInt8) (j : Nat) (h : l.length < j) : tk l 0 (j : Int) = ([], l, 1) := by
  unfold tk; rw [if_neg (by simp), if_pos (by simpa using h)]
theorem tk_ok' (l : List UInt8) (a j : Nat) (h : a + j ≤ l.length) : tk (l.drop a) 0 (j : Int) = ((l.drop a).take j, l.drop (a + j), 0) := by
  rw [tk_ok _ _ (by rw [List.length_drop]; omega), List.drop_drop]
theorem tk_ok0 (l : List UInt8) (a : Nat) : tk (l.drop a) 0 0 = ((l.drop a).take 0, l.drop (a + 0), 0) := by simp [tk]
theorem tk_zero (l : List UInt8) (e : Int) : (tk l e 0).2.1 = l ∧ (tk l e 0).2.2 = e ∧ (tk l e 0).1 = [] := by
  unfold tk; split <;> simp

def RInv (W : World) (g n n2 : Nat) (l : List UInt8) (at_ bad i : Value) (wr : World) : Prop :=
  ∃ (k a : Nat) (bd : Bool), k ≤ n2 ∧ a ≤ n ∧ i = .int .i64 k ∧ at_ = .int .i64 a ∧ bad = .bool bd ∧ Cur wr g (l.drop a) (cond bd 1 0) ∧ Below W.heap.size W wr

set_option maxRecDepth 100000 in
set_option maxHeartbeats 8000000 in
theorem octetReads_walk (A : Option Addr) (n c : Nat) (l : List UInt8) (A2 : Option Addr) (n2 c2 : Nat) (r : List Int) (W : World) (hl : Byt W W.heap.size A n l) (hnil : A = none → c = 0) (hnc : n ≤ c) (hcm : c ≤ maxLen)
    (hr : Nums .i8 W W.heap.size A2 n2 r) :
    Calls Try.prog 4 #[.slice A n c, .slice A2 n2 c2] W fun e W' => e = .returned (.bool true) ∧ Below W.heap.size W W' := by
  unfold maxLen at hcm
  by_cases hbig : 500 < n
  · go_enter Try.func4, Try.ntmps4
    go_wp2_with (go_at_call 7; refine (awake_any _).mono ?_; rintro e w' ⟨rfl, hb⟩)
    go_ret
    exact ⟨rfl, hb⟩
  by_cases hbig2 : 60 < n2
  · go_enter Try.func4, Try.ntmps4
    go_wp2_with (go_at_call 7; refine (awake_any _).mono ?_; rintro e w' ⟨rfl, hb⟩)
    go_ret
    exact ⟨rfl, hb⟩
  have HL := Lib.hid hl.1
  go_enter Try.func4, Try.ntmps4
  go_wp2_with (go_at_call 14; refine (newCursor_any _ _ _ _ _ _ hl (Nat.le_refl _) hnil (by omega)).mono ?_; rintro r w4 ⟨g, rfl, hg, hC4, hb4⟩)
  go_loopw [6, 7, 8] (fun at_ bad i wr => RInv W g n n2 l at_ bad i wr) (fun _ _ i _ => n2 - (intOf i).toNat)
  case atStart => exact ⟨0, 0, false, by omega, by omega, rfl, rfl, rfl, hC4, hb4⟩
  case round =>
    obtain ⟨k, a, bd, hk, ha, rfl, rfl, rfl, hC, hb⟩ := hrel
    clear hC4 hb4
    by_cases hlt : k < n2
    · obtain ⟨b2, o2, x, rfl, hb2, hx, hwf, hcell⟩ := (hr.below hb).at_ hlt
      obtain ⟨hx1, hx2⟩ := bounds_i8 hwf
      clear hx hwf
      by_cases c1 : x < -9
      · go_wp2
        go_roundw
        case rel => exact ⟨k + 1, a, bd, by omega, ha, by go_num, rfl, rfl, hC, hb⟩
        case measure => simp [intOf]; omega
      by_cases c2 : 0 < x ∧ widthB x = false
      · obtain ⟨c2, c3⟩ := c2
        have HQ : Hid (bitsW x = 8 * 0) := by
          have h : ¬ (x = 1 ∨ x = 2 ∨ x = 4 ∨ x = 8) := by simpa [widthB] using c3
          have : bitsW x = 0 := by unfold bitsW; repeat (split <;> try omega)
          exact Lib.hid this
        go_wp2_with (first
          | (go_at_call 8; refine (width_any _ _).mono ?_; rintro e w' ⟨rfl, rfl⟩)
          | (go_at_call 15; refine (number_q g _ _ _ 0 (by decide) HQ _ hC).mono ?_; rintro r w5 ⟨rfl, hC5, ho5, hz5⟩; obtain ⟨t1, t2, t3⟩ := tk_zero (l.drop a) (cond bd 1 0); rw [show ((0 : Nat) : Int) = 0 from rfl, t1, t2] at hC5; rw [show ((0 : Nat) : Int) = 0 from rfl, t3]; clear t1 t2 t3))
        rename_i hbb
        have hb5 := ho5.below hb hb.size hg
        go_roundw
        case rel => exact ⟨k + 1, a, bd, by omega, by omega, by go_num, by go_num, rfl, hC5, hb5⟩
        case measure => simp [intOf]; omega
      have HDL := Lib.hid (show (l.drop a).length = n - a by rw [List.length_drop, hl.1])
      by_cases c3 : 0 < x
      · have c4 : widthB x = true := by
          by_cases h : widthB x = true
          · exact h
          · exact absurd ⟨c3, by simpa using h⟩ c2
        clear c2
        have hws : x = 1 ∨ x = 2 ∨ x = 4 ∨ x = 8 := by simpa [widthB] using c4
        obtain ⟨j, rfl⟩ : ∃ j : Nat, x = j := ⟨x.toNat, by omega⟩
        have hj8 : j ≤ 8 := by omega
        have hj1 : 1 ≤ j := by omega
        have HQ : Hid (bitsW (j : Int) = 8 * j) := by
          have : j = 1 ∨ j = 2 ∨ j = 4 ∨ j = 8 := by omega
          rcases this with rfl | rfl | rfl | rfl <;> rfl
        clear hws
        cases bd
        · have hC : Cur wr g (l.drop a) 0 := hC
          by_cases hs : n - a < j
          · have HT := Lib.hid (tk_sh (l.drop a) j (by rw [HDL.out]; exact hs))
            have hd : decide ((n : Int) - (a : Int) < (j : Int)) = true := decide_eq_true (by omega)
            go_wp2_with (first
              | (go_at_call 8; refine (width_any _ _).mono ?_; rintro e w' ⟨rfl, rfl⟩)
              | (go_at_call 15; refine (number_q g _ 0 _ j hj8 HQ _ hC).mono ?_; rintro r w5 ⟨rfl, hC5, ho5, hz5⟩; rw [HT.out] at hC5 ⊢; have hb5 := ho5.below hb hb.size hg)
              | (go_at_call 16; refine (refNumber_any none 0 0 [] 0 _ Byt.nil (by decide)).mono ?_; rintro e w' ⟨rfl, rfl⟩)
              | (go_at_call 18; refine (err_any g _ _ _ hC5).mono ?_; rintro r w6 ⟨rfl, rfl⟩))
            go_roundw
            case rel => exact ⟨k + 1, a, true, by omega, by omega, by go_num, by go_num, rfl, hC5, hb5⟩
            case measure => simp [intOf]; omega
          · have HT := Lib.hid (tk_ok' l a j (by rw [hl.1]; omega))
            have hd : decide ((n : Int) - (a : Int) < (j : Int)) = false := decide_eq_false (by omega)
            have HLL := Lib.hid (show (l.drop (a + j)).length = n - (a + j) by rw [List.length_drop, hl.1])
            have hca : ¬ c = a := by omega
            have hw1 : Byt W W.heap.size (A.map (·.add a)) j ((l.drop a).take j) := by
              have := (hl.cut (k := a) ha hnc).take (k := j) (by omega)
              rwa [if_neg hca] at this
            go_wp2_with (first
              | (go_at_call 8; refine (width_any _ _).mono ?_; rintro e w' ⟨rfl, rfl⟩)
              | (go_at_call 15; refine (number_q g _ 0 _ j hj8 HQ _ hC).mono ?_; rintro r w5 ⟨rfl, hC5, ho5, hz5⟩; rw [HT.out] at hC5 ⊢; have hb5 := ho5.below hb hb.size hg)
              | (go_at_call 16; refine (refNumber_any _ j _ ((l.drop a).take j) W.heap.size _ (hw1.below hb5) hj8).mono ?_; rintro e w' ⟨rfl, rfl⟩)
              | (go_at_call 18; refine (err_any g _ _ _ hC5).mono ?_; rintro r w6 ⟨rfl, rfl⟩)
              | (go_at_call 19; refine (left_any g _ _ _ hC5).mono ?_; rintro r w6 ⟨rfl, rfl⟩; rw [HLL.out]))
            go_roundw
            case rel => exact ⟨k + 1, a + j, false, by omega, by omega, by go_num, by go_num, rfl, hC5, hb5⟩
            case measure => simp [intOf]; omega
        · have hC : Cur wr g (l.drop a) 1 := hC
          have HT := Lib.hid (tk_bad (l.drop a) (j : Int))
          go_wp2_with (first
            | (go_at_call 8; refine (width_any _ _).mono ?_; rintro e w' ⟨rfl, rfl⟩)
            | (go_at_call 15; refine (number_q g _ 1 _ j hj8 HQ _ hC).mono ?_; rintro r w5 ⟨rfl, hC5, ho5, hz5⟩; rw [HT.out] at hC5 ⊢; have hb5 := ho5.below hb hb.size hg)
            | (go_at_call 16; refine (refNumber_any none 0 0 [] 0 _ Byt.nil (by decide)).mono ?_; rintro e w' ⟨rfl, rfl⟩)
            | (go_at_call 18; refine (err_any g _ _ _ hC5).mono ?_; rintro r w6 ⟨rfl, rfl⟩))
          go_roundw
          case rel => exact ⟨k + 1, a, true, by omega, by omega, by go_num, by go_num, rfl, hC5, hb5⟩
          case measure => simp [intOf]; omega
      · clear c2
        by_cases hx0 : x = 0
        · subst hx0
          cases bd
          · have hC : Cur wr g (l.drop a) 0 := hC
            have HT := Lib.hid (tk_ok0 l a)
            have hd : decide ((n : Int) - (a : Int) < 0) = false := decide_eq_false (by omega)
            have HLL := Lib.hid (show (l.drop (a + 0)).length = n - a by rw [List.length_drop, hl.1]; rfl)
            by_cases hca : c = a
            · replace hca := hca.symm
              subst hca
              have hw1 : Byt W W.heap.size A 0 ((l.drop a).take 0) := ⟨rfl, fun h => absurd h (by omega)⟩
              go_wp2_with (first
                | (go_at_call 17; refine (cbytes_any g _ 0 0 (by omega) _ hC (by rw [HDL.out]; omega)).mono ?_; rintro r w5 ⟨A5, n5, c5, rfl, hown5, hC5, ho5⟩; rw [HT.out] at hC5 hown5; have hb5 := ho5.below hb hb.size hg; have hl5 := Byt.of_own hown5)
                | (go_at_call 10; refine (same_true _ _ n5 _ 0 _ ((l.drop a).take 0) ((l.drop a).take 0) w5.heap.size _ hl5 ((hw1.below hb5).more hb5.size) (by have h1 := hl5.1; have h2 := hw1.1; omega) rfl).mono ?_; rintro e w7 ⟨rfl, k7, rfl⟩; replace hb5 := below_drewN hb5 k7; replace hC5 := hC5.drewN k7)
                | (go_at_call 18; refine (err_any g _ _ _ hC5).mono ?_; rintro r w6 ⟨rfl, rfl⟩)
                | (go_at_call 19; refine (left_any g _ _ _ hC5).mono ?_; rintro r w6 ⟨rfl, rfl⟩; rw [HLL.out]))
              go_roundw
              case rel => exact ⟨k + 1, a + 0, false, by omega, by omega, by go_num, by go_num, rfl, hC5, hb5⟩
              case measure => simp [intOf]; omega
            · have hw1 : Byt W W.heap.size (A.map (·.add a)) 0 ((l.drop a).take 0) := ⟨rfl, fun h => absurd h (by omega)⟩
              go_wp2_with (first
                | (go_at_call 17; refine (cbytes_any g _ 0 0 (by omega) _ hC (by rw [HDL.out]; omega)).mono ?_; rintro r w5 ⟨A5, n5, c5, rfl, hown5, hC5, ho5⟩; rw [HT.out] at hC5 hown5; have hb5 := ho5.below hb hb.size hg; have hl5 := Byt.of_own hown5)
                | (go_at_call 10; refine (same_true _ _ n5 _ 0 _ ((l.drop a).take 0) ((l.drop a).take 0) w5.heap.size _ hl5 ((hw1.below hb5).more hb5.size) (by have h1 := hl5.1; have h2 := hw1.1; omega) rfl).mono ?_; rintro e w7 ⟨rfl, k7, rfl⟩; replace hb5 := below_drewN hb5 k7; replace hC5 := hC5.drewN k7)
                | (go_at_call 18; refine (err_any g _ _ _ hC5).mono ?_; rintro r w6 ⟨rfl, rfl⟩)
                | (go_at_call 19; refine (left_any g _ _ _ hC5).mono ?_; rintro r w6 ⟨rfl, rfl⟩; rw [HLL.out]))
              go_roundw
              case rel => exact ⟨k + 1, a + 0, false, by omega, by omega, by go_num, by go_num, rfl, hC5, hb5⟩
              case measure => simp [intOf]; omega
          · have hC : Cur wr g (l.drop a) 1 := hC
            have HT := Lib.hid (tk_bad (l.drop a) 0)
            go_wp2_with (first
              | (go_at_call 17; refine (cbytes_any g _ 1 0 (by omega) _ hC (by rw [HDL.out]; omega)).mono ?_; rintro r w5 ⟨A5, n5, c5, rfl, hown5, hC5, ho5⟩; rw [HT.out] at hC5 hown5; have hb5 := ho5.below hb hb.size hg; have hl5 := Byt.of_own hown5)
              | (go_at_call 10; refine (same_true _ none n5 _ 0 0 [] [] w5.heap.size _ hl5 Byt.nil (by have := hl5.1; simp at this; omega) rfl).mono ?_; rintro e w7 ⟨rfl, k7, rfl⟩; replace hb5 := below_drewN hb5 k7; replace hC5 := hC5.drewN k7)
              | (go_at_call 18; refine (err_any g _ _ _ hC5).mono ?_; rintro r w6 ⟨rfl, rfl⟩))
            go_roundw
            case rel => exact ⟨k + 1, a, true, by omega, by omega, by go_num, by go_num, rfl, hC5, hb5⟩
            case measure => simp [intOf]; omega
        · obtain ⟨j, rfl⟩ : ∃ j : Nat, x = -(j : Int) := ⟨x.natAbs, by omega⟩
          have hj9 : j ≤ 9 := by omega
          have hj1 : 1 ≤ j := by omega
          clear hx0
          cases bd
          · have hC : Cur wr g (l.drop a) 0 := hC
            by_cases hs : n - a < j
            · have HT := Lib.hid (tk_sh (l.drop a) j (by rw [HDL.out]; exact hs))
              have hd : decide ((n : Int) - (a : Int) < (j : Int)) = true := decide_eq_true (by omega)
              go_wp2_with (first
                | (go_at_call 17; refine (cbytes_any g _ 0 j (by omega) _ hC (by rw [HDL.out]; omega)).mono ?_; rintro r w5 ⟨A5, n5, c5, rfl, hown5, hC5, ho5⟩; rw [HT.out] at hC5 hown5; have hb5 := ho5.below hb hb.size hg; have hl5 := Byt.of_own hown5)
                | (go_at_call 10; refine (same_true _ none n5 _ 0 0 [] [] w5.heap.size _ hl5 Byt.nil (by have := hl5.1; simp at this; omega) rfl).mono ?_; rintro e w7 ⟨rfl, k7, rfl⟩; replace hb5 := below_drewN hb5 k7; replace hC5 := hC5.drewN k7)
                | (go_at_call 18; refine (err_any g _ _ _ hC5).mono ?_; rintro r w6 ⟨rfl, rfl⟩))
              go_roundw
              case rel => exact ⟨k + 1, a, true, by omega, by omega, by go_num, by go_num, rfl, hC5, hb5⟩
              case measure => simp [intOf]; omega
            · have HT := Lib.hid (tk_ok' l a j (by rw [hl.1]; omega))
              have hd : decide ((n : Int) - (a : Int) < (j : Int)) = false := decide_eq_false (by omega)
              have HLL := Lib.hid (show (l.drop (a + j)).length = n - (a + j) by rw [List.length_drop, hl.1])
              have hca : ¬ c = a := by omega
              have hw1 : Byt W W.heap.size (A.map (·.add a)) j ((l.drop a).take j) := by
                have := (hl.cut (k := a) ha hnc).take (k := j) (by omega)
                rwa [if_neg hca] at this
              go_wp2_with (first
                | (go_at_call 17; refine (cbytes_any g _ 0 j (by omega) _ hC (by rw [HDL.out]; omega)).mono ?_; rintro r w5 ⟨A5, n5, c5, rfl, hown5, hC5, ho5⟩; rw [HT.out] at hC5 hown5; have hb5 := ho5.below hb hb.size hg; have hl5 := Byt.of_own hown5)
                | (go_at_call 10; refine (same_true _ _ n5 _ j _ ((l.drop a).take j) ((l.drop a).take j) w5.heap.size _ hl5 ((hw1.below hb5).more hb5.size) (by have h1 := hl5.1; have h2 := hw1.1; omega) rfl).mono ?_; rintro e w7 ⟨rfl, k7, rfl⟩; replace hb5 := below_drewN hb5 k7; replace hC5 := hC5.drewN k7)
                | (go_at_call 18; refine (err_any g _ _ _ hC5).mono ?_; rintro r w6 ⟨rfl, rfl⟩)
                | (go_at_call 19; refine (left_any g _ _ _ hC5).mono ?_; rintro r w6 ⟨rfl, rfl⟩; rw [HLL.out]))
              go_roundw
              case rel => exact ⟨k + 1, a + j, false, by omega, by omega, by go_num, by go_num, rfl, hC5, hb5⟩
              case measure => simp [intOf]; omega
          · have hC : Cur wr g (l.drop a) 1 := hC
            have HT := Lib.hid (tk_bad (l.drop a) (j : Int))
            go_wp2_with (first
              | (go_at_call 17; refine (cbytes_any g _ 1 j (by omega) _ hC (by rw [HDL.out]; omega)).mono ?_; rintro r w5 ⟨A5, n5, c5, rfl, hown5, hC5, ho5⟩; rw [HT.out] at hC5 hown5; have hb5 := ho5.below hb hb.size hg; have hl5 := Byt.of_own hown5)
              | (go_at_call 10; refine (same_true _ none n5 _ 0 0 [] [] w5.heap.size _ hl5 Byt.nil (by have := hl5.1; simp at this; omega) rfl).mono ?_; rintro e w7 ⟨rfl, k7, rfl⟩; replace hb5 := below_drewN hb5 k7; replace hC5 := hC5.drewN k7)
              | (go_at_call 18; refine (err_any g _ _ _ hC5).mono ?_; rintro r w6 ⟨rfl, rfl⟩))
            go_roundw
            case rel => exact ⟨k + 1, a, true, by omega, by omega, by go_num, by go_num, rfl, hC5, hb5⟩
            case measure => simp [intOf]; omega
    · by_cases hz : a < n
      · have HD : Hid (doneE (l.drop a) 0 = 2) := by
          have : l.drop a ≠ [] := by intro h; have := congrArg List.length h; rw [List.length_drop, hl.1] at this; simp at this; omega
          exact Lib.hid (by simp [doneE, this])
        have HD1 : Hid (doneE (l.drop a) 1 = 1) := Lib.hid (by simp [doneE])
        cases bd
        · have hC : Cur wr g (l.drop a) 0 := hC
          go_wp2_with (first
            | (go_at_call 20; refine (done_any g _ _ _ hC).mono ?_; rintro r w5 ⟨rfl, rfl⟩; rw [HD.out])
            | (go_at_call 7; refine (awake_any _).mono ?_; rintro e w8 ⟨rfl, hb8⟩))
          go_ret
          exact ⟨rfl, bthen hb hb8⟩
        · have hC : Cur wr g (l.drop a) 1 := hC
          go_wp2_with (first
            | (go_at_call 20; refine (done_any g _ _ _ hC).mono ?_; rintro r w5 ⟨rfl, rfl⟩; rw [HD1.out])
            | (go_at_call 7; refine (awake_any _).mono ?_; rintro e w8 ⟨rfl, hb8⟩))
          go_ret
          exact ⟨rfl, bthen hb hb8⟩
      · have HD : Hid (doneE (l.drop a) 0 = 0) := by
          have : l.drop a = [] := List.drop_of_length_le (by rw [hl.1]; omega)
          exact Lib.hid (by simp [doneE, this])
        have HD1 : Hid (doneE (l.drop a) 1 = 1) := Lib.hid (by simp [doneE])
        cases bd
        · have hC : Cur wr g (l.drop a) 0 := hC
          go_wp2_with (first
            | (go_at_call 20; refine (done_any g _ _ _ hC).mono ?_; rintro r w5 ⟨rfl, rfl⟩; rw [HD.out])
            | (go_at_call 7; refine (awake_any _).mono ?_; rintro e w8 ⟨rfl, hb8⟩))
          go_ret
          exact ⟨rfl, bthen hb hb8⟩
        · have hC : Cur wr g (l.drop a) 1 := hC
          go_wp2_with (first
            | (go_at_call 20; refine (done_any g _ _ _ hC).mono ?_; rintro r w5 ⟨rfl, rfl⟩; rw [HD1.out])
            | (go_at_call 7; refine (awake_any _).mono ?_; rintro e w8 ⟨rfl, hb8⟩))
          go_ret
          exact ⟨rfl, bthen hb hb8⟩

theorem octetReads_law (A : Option Addr) (n c : Nat) (l : List UInt8) (A2 : Option Addr) (n2 c2 : Nat) (r : List Int) (W : World) (hl : Byt W W.heap.size A n l) (hnil : A = none → c = 0) (hnc : n ≤ c) (hcm : c ≤ maxLen)
    (hr : Nums .i8 W W.heap.size A2 n2 r) (_ : A2 = none → c2 = 0) (_ : n2 ≤ c2) (_ : c2 ≤ maxLen) :
    Calls Try.prog 4 #[.slice A n c, .slice A2 n2 c2] W fun e W' => e = .returned (.bool true) ∧ Below W.heap.size W W' :=
  octetReads_walk A n c l A2 n2 c2 r W hl hnil hnc hcm hr

end Go.Proofs.Ytkdnagmjjmcbaaa
