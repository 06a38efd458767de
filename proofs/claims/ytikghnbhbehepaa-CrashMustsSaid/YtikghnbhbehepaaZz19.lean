/-
  The example is answered; the first statement: what is left of work that crashes.
-/
import Derived.Test.YtikghnbhbehepaaZz18
import Derived.Deep.RegionHeld3
import Derived.Deep.CutRange
import Derived.Deep.CutBlock
namespace Go.Proofs.Ytikghnbhbehepaa
open Go.RowKit
set_option linter.unusedVariables false
set_option linter.unusedSimpArgs false

def exL : List Wk := [⟨1, [97], [], [120]⟩, ⟨2, [97], [], []⟩]
def exF : List Fl := [⟨[97], [], 0⟩]
theorem ex_small : SmallW exL := ⟨by decide, by decide⟩
theorem ex_left : (behindD (newD 9) ((exL.filter isWk).take 1)).files.map (cutF 0) = exF := by
  have h : exL.filter isWk = exL := by rfl
  rw [h]
  show List.map _ (callD (beginD (newD 9)).2 ⟨1, [97], [], [120], 0, 0⟩).2.files = exF
  have ht : targetB [97] = true := by decide +kernel
  unfold callD
  simp only [ht]
  rfl
theorem ex_count : (exL.filter isWk).length = 2 := by rfl
/-- The example's work, in memory. -/
theorem ex_wks {w : World} {g b : Nat} (hg : w.cell? ⟨g, 0, none⟩ = some (.int .u8 120)) (hb : ∀ (i : Nat) (y : Value), ([.int .i64 1, .string ⟨#[97]⟩, .string ⟨#[]⟩, .slice (some ⟨g, 0, none⟩) 1 1, .int .i64 2, .string ⟨#[97]⟩, .string ⟨#[]⟩, .slice none 0 0] : List Value)[i]? = some y → w.cell? ⟨b, i, none⟩ = some y) :
    Wks w (fun k => w.heap.size ≤ k) (some ⟨b, 0, none⟩) 2 exL := by
  have hgl : g < w.heap.size := block_lt_of_cell hg
  have hbl : b < w.heap.size := block_lt_of_cell (hb 0 _ rfl)
  refine ⟨rfl, fun f hf => ?_, fun _ => ⟨b, 0, rfl, by omega, hbl, fun j f hj => ?_⟩⟩
  · obtain ⟨o, _, rfl⟩ := List.mem_map.1 hf
    rfl
  · match j, hj with
    | 0, hj =>
      have hf : f = (⟨1, [97], [], [120]⟩ : Wk).prts := (Option.some.inj hj).symm
      subst hf
      refine ⟨[.int .i64 1, .string ⟨#[97]⟩, .string ⟨#[]⟩, .slice (some ⟨g, 0, none⟩) 1 1], ⟨_, _, rfl, rfl, _, _, rfl, rfl, _, _, rfl, rfl, _, _, rfl, ⟨_, 1, 1, rfl, ⟨rfl, fun _ => ⟨g, 0, rfl, by omega, fun j x hx => ?_⟩⟩, (fun h => by cases h), Nat.le_refl _, by decide⟩, rfl⟩, fun i y hy => ?_⟩
      · match j, hx with
        | 0, hx =>
          have : x = 120 := (Option.some.inj hx).symm
          subst this
          exact hg
      · rw [show 0 + 0 * 4 + i = i by omega]
        refine hb i y ?_
        have hi : i < 4 := (List.getElem?_eq_some_iff.1 hy).1
        rw [← hy]
        match i, hi with
        | 0, _ => rfl
        | 1, _ => rfl
        | 2, _ => rfl
        | 3, _ => rfl
    | 1, hj =>
      have hf : f = (⟨2, [97], [], []⟩ : Wk).prts := (Option.some.inj hj).symm
      subst hf
      refine ⟨[.int .i64 2, .string ⟨#[97]⟩, .string ⟨#[]⟩, .slice none 0 0], ⟨_, _, rfl, rfl, _, _, rfl, rfl, _, _, rfl, rfl, _, _, rfl, ⟨none, 0, 0, rfl, BytS.nil, fun _ => ⟨rfl, rfl⟩, Nat.le_refl _, by decide⟩, rfl⟩, fun i y hy => ?_⟩
      rw [show 0 + 1 * 4 + i = 4 + i by omega]
      refine hb (4 + i) y ?_
      have hi : i < 4 := (List.getElem?_eq_some_iff.1 hy).1
      rw [← hy]
      match i, hi with
      | 0, _ => rfl
      | 1, _ => rfl
      | 2, _ => rfl
      | 3, _ => rfl
    | j + 2, hj => exact absurd (List.getElem?_eq_some_iff.1 hj).1 (by simp [exL])

set_option maxRecDepth 100000 in
set_option maxHeartbeats 1000000 in
theorem awake10_any (W : World) : Calls Try.prog 7 #[] W fun e W' => e = .returned (.bool true) ∧ Below W.heap.size W W' := by
  have kc1 : (convert 44 44 (.slice (some ⟨W.heap.size, 0, none⟩) 1 1)).run Try.prog (W.alloc (.cells #[.int .u8 120] 5)) = .ok (.slice (some ⟨W.heap.size, 0, none⟩) 1 1) (W.alloc (.cells #[.int .u8 120] 5 (1, 2))) :=
    Lib.run_convert_bytes_const (P := Try.prog) W 44 5 #[.int .u8 120] 1 1 Try.underlying44 Try.underlying5
  have HB := Lib.hid (((Below.refl W.heap.size W).alloc (Nat.le_refl _) (.cells #[.int .u8 120] 5 (1, 2))).alloc (by simp) (.cells #[.int .i64 1, .string ⟨#[97]⟩, .string ⟨#[]⟩, .slice (some ⟨W.heap.size, 0, none⟩) 1 1, .int .i64 2, .string ⟨#[97]⟩, .string ⟨#[]⟩, .slice none 0 0] 49))
  have hW := ex_wks (w := (W.alloc (.cells #[.int .u8 120] 5 (1, 2))).alloc (.cells #[.int .i64 1, .string ⟨#[97]⟩, .string ⟨#[]⟩, .slice (some ⟨W.heap.size, 0, none⟩) 1 1, .int .i64 2, .string ⟨#[97]⟩, .string ⟨#[]⟩, .slice none 0 0] 49)) (g := W.heap.size) (b := W.heap.size + 1)
    (by rw [World.cell?_alloc_lt _ _ _ (by simp), World.cell?_alloc_mark]; rfl) (fun i y hy => by
      rw [show W.heap.size + 1 = (W.alloc (.cells #[.int .u8 120] 5 (1, 2))).heap.size by simp, World.cell?_alloc_new]
      simpa using hy)
  have hA := at10_any 9 0 1 (by decide) (by decide) _ 2 2 exL _ hW ex_small
  rw [ex_left] at hA
  go_enter Try.func7, Try.ntmps7
  go_wp2_with fail
  refine hA.mono ?_
  rintro e W1 ⟨A1, n1, c1, rfl, hF, hb1⟩
  have hC := fun w (hb : Below W1.heap.size W1 w) => count10_any _ 2 2 exL w _ (hW.turn ((Turn.of_below hb1).trans ((Turn.of_below hb).mono fun _ h => h))) ex_small
  rw [ex_count] at hC
  obtain ⟨b, o, rfl, hbS, hfa⟩ := hF.2 (by have := hF.1; rw [← this]; decide)
  obtain rfl : n1 = 1 := hF.1.symm
  obtain ⟨y0, y1, y2, q0, q1, q2, hv⟩ := hfa 0 _ rfl
  obtain ⟨A2, n2, c2, rfl, rfl, rfl, hby, _⟩ := fl_parts hv
  obtain rfl : 0 = n2 := hby.1
  have HB2 := Lib.hid (bthen HB.out (hb1.mono (by simp)))
  clear kc1 hW hA hF hb1 hfa hv hby q0 q2 HB
  go_wp2_with fail
  refine (hC W1 (Below.refl _ _)).mono ?_
  rintro e W2 ⟨rfl, hb2⟩
  have HB3 := Lib.hid (bthen HB2.out hb2)
  clear hC hb2 q1 HB2
  go_wp2_with fail
  go_ret
  exact ⟨rfl, HB3.out⟩

end Go.Proofs.Ytikghnbhbehepaa

/-
  The first statement: what is left of work that crashes.
-/
namespace Go.Proofs.Ytikghnbhbehepaa
open Go.RowKit
set_option linter.unusedVariables false
set_option linter.unusedSimpArgs false

theorem Wks.later {w w' : World} {A : Option Addr} {n : Nat} {l : List Wk} (h : Wks w (fun k => w.heap.size ≤ k) A n l) (hb : Below w.heap.size w w') : Wks w' (fun k => w'.heap.size ≤ k) A n l :=
  (h.turn (Turn.of_below hb)).less fun k hk => Nat.le_trans hb.size hk
theorem Fls.later {w w' : World} {A : Option Addr} {n : Nat} {l : List Fl} (h : Fls w (fun k => w.heap.size ≤ k) A n l) (hb : Below w.heap.size w w') : Fls w' (fun k => w'.heap.size ≤ k) A n l :=
  (h.turn (Turn.of_below hb)).less fun k hk => Nat.le_trans hb.size hk

set_option maxRecDepth 100000 in
set_option maxHeartbeats 4000000 in
theorem crashLeaves_law (n0 n1 : Int) (A : Option Addr) (n c : Nat) (l : List Wk) (place : Nat) (W : World) (hn0 : n0 < 9223372036854775808) (hpl : place < 18446744073709551616) (hl : Wks W (fun k => W.heap.size ≤ k) A n l) (hn : n ≤ maxLen) :
    Calls Try.prog 3 #[.agg #[.int .i64 n0, .int .i64 n1], .slice A n c, .int .u64 ((place : Nat) : Int)] W fun e W' => e = .returned (.bool true) ∧ Below W.heap.size W W' := by
  obtain ⟨w1, hw1⟩ : ∃ w1, W.alloc (.cells #[.int .i64 n0, .int .i64 n1] 22) = w1 := ⟨_, rfl⟩
  have hb1 : Below W.heap.size W w1 := by rw [← hw1]; exact (Below.refl _ W).alloc (Nat.le_refl _) _
  have hB : Blk w1 W.heap.size 22 [.int .i64 n0, .int .i64 n1] := by rw [← hw1]; exact Blk.new W _ _ rfl
  have hl1 := hl.later hb1
  have hLg := large10_any A n c l _ w1 hl1 hn
  have HB1 := Lib.hid hb1
  cases hlg : largeW l
  · rw [hlg] at hLg
    have hs : SmallW l := largeW_false l hlg
    obtain ⟨fs, hfs⟩ : ∃ fs, (behindD (newD n0) ((l.filter isWk).take place)).files.map (cutF n1) = fs := ⟨_, rfl⟩
    have hAt := fun (w : World) (h : Below w1.heap.size w1 w) => at10_any n0 n1 place hn0 hpl A n c l w (hl1.later h) hs
    have hRe := fun (w : World) (h : Below w1.heap.size w1 w) => refAt10_any n0 n1 place hn0 A n c l w (hl1.later h) hs
    rw [hfs] at hAt hRe
    have hbd : fs.length ≤ 200 ∧ ∀ f ∈ fs, f.data.length ≤ 1000000 := by
      have hO := (behind_ok 0 _ _ (newD_ok n0 hn0) fun o ho => ((hs.filter.take place).2 o ho).1).crash n1
      have hle := (hs.filter.take place).1
      rw [← hfs]
      refine ⟨by have := hO.len; show (crashD n1 (behindD (newD n0) ((l.filter isWk).take place))).files.length ≤ _; omega, fun f hf => ?_⟩
      have h1 := mem_size _ f hf
      have h2 := hO.size
      change sizeF (List.map (cutF n1) _) ≤ _ at h2
      omega
    have HX := Lib.hid hbd
    have z0 : w1.cell? ⟨W.heap.size, 0, none⟩ = some (.int .i64 n0) := hB.cell 0
    have z1 : w1.cell? ⟨W.heap.size, 1, none⟩ = some (.int .i64 n1) := hB.cell 1
    have hgl := hB.lt
    clear hl hn hn0 hlg hs hfs hbd hB hb1 hl1
    go_enter Try.func3, Try.ntmps3
    go_wp2_with fail
    refine hLg.mono ?_
    rintro e w2 ⟨rfl, rfl⟩
    clear hLg hw1
    go_wp2_with fail
    have HC : Hid (∀ w, Below w2.heap.size w2 w → w.cell? ⟨W.heap.size, 0, none⟩ = some (.int .i64 n0) ∧ w.cell? ⟨W.heap.size, 1, none⟩ = some (.int .i64 n1)) := Lib.hid (fun w hb => ⟨(hb.cell (p := ⟨W.heap.size, 0, none⟩) hgl).trans z0, (hb.cell (p := ⟨W.heap.size, 1, none⟩) hgl).trans z1⟩)
    go_region_held3 (fun w' => w'.cell? ⟨W.heap.size, 0, none⟩ = some (.int .i64 n0) ∧ w'.cell? ⟨W.heap.size, 1, none⟩ = some (.int .i64 n1))
      (first | exact ⟨x0, x1⟩ | exact ⟨v0, v1⟩ | exact ⟨u0, u1⟩ | exact ⟨t0, t1⟩ | exact ⟨z0, z1⟩ | go_keep)
      ((first
        | (go_at_call 9; refine (hAt _ (below_drewN (Below.refl _ w2) 1)).mono ?_; rintro e w7 ⟨A7, n7, c7, rfl, hF7, hb7⟩; have hB7 := bthen (below_drewN (Below.refl _ w2) 1) hb7; obtain ⟨t0, t1⟩ := HC.out w7 hB7)
        | (go_at_call 10; refine (hRe _ hB7).mono ?_; rintro e w8 ⟨A8, n8, c8, rfl, hF8, hb8⟩; have hB8 := bthen hB7 hb8; obtain ⟨u0, u1⟩ := HC.out w8 hB8; have hF78 := hF7.later hb8)
        | (go_at_call 8; obtain rfl : fs.length = n7 := hF7.1; obtain rfl : fs.length = n8 := hF8.1; refine (same9_any A7 A8 _ c7 c8 fs _ _ w8 hF78 hF8 (by have := HX.out.1; omega) HX.out.2).mono ?_; rintro e w9 ⟨rfl, r9, hw9⟩; have hB9 : Below w2.heap.size w2 w9 := (by rw [hw9]; exact below_drewN hB8 r9); obtain ⟨v0, v1⟩ := HC.out w9 hB9; clear hw9)
        | (go_at_call 7; refine (awake10_any _).mono ?_; rintro e w10 ⟨rfl, hb10⟩; have HB10 := Lib.hid (bthen HB1.out (bthen hB9 hb10)); obtain ⟨x0, x1⟩ := HC.out w10 (bthen hB9 hb10))))
    all_goals
      go_wp2_with fail
      go_ret
      exact ⟨rfl, HB10.out⟩
  · rw [hlg] at hLg
    clear hl hn hn0 hlg hB hl1
    go_enter Try.func3, Try.ntmps3
    go_wp2_with fail
    refine hLg.mono ?_
    rintro e w2 ⟨rfl, rfl⟩
    clear hLg hw1
    go_wp2_with fail
    refine (awake10_any _).mono ?_
    rintro e w3 ⟨rfl, hb3⟩
    have HB3 := Lib.hid (bthen HB1.out hb3)
    clear hb3
    go_wp2_with fail
    go_ret
    exact ⟨rfl, HB3.out⟩

end Go.Proofs.Ytikghnbhbehepaa

/-
  The second statement: what work is told.
-/
namespace Go.Proofs.Ytikghnbhbehepaa
open Go.RowKit
set_option linter.unusedVariables false
set_option linter.unusedSimpArgs false

/-- What is told of work that is armed, and whether it crashed. -/
theorem told_armed (l : List Wk) (m : Dk) (p : Nat) (keep : Int) (h : UpD m) :
    (workD (fun e => e == 19) (armD m p keep) l).1 = ansD m ((l.filter isWk).take p) ∧ ((workD (fun e => e == 19) (armD m p keep) l).2.2 == 19) = decide (p < (l.filter isWk).length) := by
  have hw := work_armed keep (l.filter isWk) m p h fun o ho => (List.mem_filter.1 ho).2
  rw [workD_filter] at hw
  rcases Nat.lt_or_ge p (l.filter isWk).length with hp | hp
  · rw [hw.1 hp, decide_eq_true hp]
    exact ⟨rfl, rfl⟩
  · rw [hw.2 hp, decide_eq_false (by omega), List.take_of_length_le hp]
    exact ⟨rfl, rfl⟩

set_option maxRecDepth 100000 in
set_option maxHeartbeats 4000000 in
theorem crashRuns_law (cap : Int) (A : Option Addr) (n c : Nat) (l : List Wk) (place : Nat) (W : World) (hcap : cap < 9223372036854775808) (hpl : place < 18446744073709551616) (hl : Wks W (fun k => W.heap.size ≤ k) A n l) (hn : n ≤ maxLen) :
    Calls Try.prog 4 #[.int .i64 cap, .slice A n c, .int .u64 ((place : Nat) : Int)] W fun e W' => e = .returned (.bool true) ∧ Below W.heap.size W W' := by
  have hLg := large10_any A n c l _ W hl hn
  cases hlg : largeW l
  · rw [hlg] at hLg
    have hs : SmallW l := largeW_false l hlg
    have hNw := pnew_any W cap hcap
    obtain ⟨M, hM⟩ : ∃ M : Int, max cap 0 = M := ⟨_, rfl⟩
    obtain ⟨C, hC⟩ : ∃ C, l.filter isWk = C := ⟨_, rfl⟩
    obtain ⟨N, hN⟩ : ∃ N, C.length = N := ⟨_, rfl⟩
    have hta := told_armed l (newD cap) place 0 (newD_up cap)
    rw [hC, hN] at hta
    have hsC : SmallW C := by rw [← hC]; exact hs.filter
    have hN60 : N ≤ 60 := by have := hsC.1; omega
    have HL := Lib.hid (And.intro hl (And.intro hs (And.intro hta (And.intro hC (And.intro hN (And.intro hsC (And.intro hcap hM)))))))
    have HO := Lib.hid (newD_ok cap hcap)
    clear hl hs hn hlg hC hN hta hsC hcap hM
    go_enter Try.func4, Try.ntmps4
    go_wp2_with fail
    refine hLg.mono ?_
    rintro e w2 ⟨rfl, rfl⟩
    clear hLg
    go_wp2_with fail
    refine hNw.mono ?_
    rintro e W1 ⟨q, S1, rfl, ⟨mb, l1, kp, L, G, hp1⟩, hS1, hb1⟩
    have hAr := parm_any W1 place 0 hpl hp1
    have H1 := Lib.hid (And.intro hp1.sq (And.intro hS1 hb1))
    clear hNw hp1 hS1 hb1
    go_wp2_with fail
    refine hAr.mono ?_
    rintro e W2 ⟨rfl, hp2, ht2⟩
    have hPD2 : PD W2 S1 q (armD (newD cap) place 0) := ⟨_, _, _, _, _, hp2⟩
    have hT2 : Turn (fun k => w2.heap.size ≤ k) w2 W2 := ((Turn.of_below H1.out.2.2).trans (ht2.mono fun k hk => by rw [hk]; exact H1.out.2.1 _ H1.out.1))
    have hO2 : OkD 0 (armD (newD cap) place 0) := by
      have h := HO.out
      exact ⟨h.len, h.size, h.sure, h.calls, hpl, h.cap⟩
    have hRu := run10_any A n c l W2 S1 q 0 (armD (newD cap) place 0) hPD2 hO2 (by omega) ((HL.out.1.turn hT2).less fun k hk => by
      rcases hk with h | h
      · exact H1.out.2.1 k h
      · have := hT2.size; omega) HL.out.2.1
    have H2 := Lib.hid hT2
    obtain ⟨r, hr⟩ : ∃ r, workD (fun e => e == 19) (armD (newD cap) place 0) l = r := ⟨_, rfl⟩
    rw [hr] at HL hRu
    clear hAr hp2 ht2 hPD2 hT2 hO2 hr
    go_wp2_with fail
    refine hRu.mono ?_
    rintro e W3 ⟨v, rfl, hown, S3, hPD3, hO3, hS3, ht3⟩
    have hT3 : Turn (fun k => w2.heap.size ≤ k) w2 W3 := H2.out.trans (ht3.mono fun k hk => H1.out.2.1 k hk)
    have hb3 : Below w2.heap.size w2 W3 := hT3.below (Nat.le_refl _) fun k hk => hk
    obtain ⟨n2, hn2⟩ : ∃ n2, r.1.length = n2 := ⟨_, rfl⟩
    rw [hn2] at hown
    obtain ⟨A3, c3, rfl, _⟩ := own_formk hown
    have hV3 := Vals.of_own hown
    have hl3 := HL.out.1.later hb3
    have hCl := calls10_back A n c l W3 hl3 HL.out.2.1
    have hCo := fun (w : World) (h : Below W3.heap.size W3 w) => count10_any A n c l w _ (hl3.later h) HL.out.2.1
    rw [HL.out.2.2.2.1, HL.out.2.2.2.2.1] at hCl hCo
    obtain ⟨D, hD⟩ : ∃ D, decide (place < N) = D := ⟨_, rfl⟩
    have hnn : (D = true → n2 = place ∧ place < N) ∧ (D = false → n2 = N ∧ N ≤ place) ∧ n2 ≤ N := by
      have h := HL.out.2.2.1.1
      have h2 : n2 = min place N := by rw [← hn2, h, len_ans, List.length_take, HL.out.2.2.2.2.1]
      refine ⟨fun hd => ?_, fun hd => ?_, by omega⟩
      · rw [hd] at hD
        have := of_decide_eq_true hD
        omega
      · rw [hd] at hD
        have := of_decide_eq_false hD
        omega
    have hD2 : decide ((place : Int) < (N : Int)) = D := by rw [← hD]; exact decide_eq_decide.2 (by omega)
    have hDD : (D != D) = false := by cases D <;> rfl
    have hd19 := HL.out.2.2.1.2
    rw [hd19, hD]
    have HNN := Lib.hid hnn
    have H3 := Lib.hid (And.intro hb3 (And.intro hV3 hn2))
    clear hRu hown hS3 ht3 hT3 hb3 hV3 hn2 hPD3 hO3 hl3 hd19 hD hnn
    go_wp2_with fail
    refine hCl.mono ?_
    rintro e W4 ⟨A4, c4, rfl, hW4, hnc4, hcm4, hb4⟩
    have H4 := Lib.hid (And.intro hW4 hb4)
    have HM := Lib.hid HL.out.2.2.2.2.2.2.2
    clear hCl hW4 hb4
    go_upto_region 7 with fail
    go_cut [11] from 30 to 33 (fun s11 wx => s11 = .pointer (some ⟨W4.heap.size, 0, none⟩) ∧ wx = W4.alloc (.cells #[.slice none 0 0, .int .i64 M, .int .u64 0, .bool false, .int .u64 0, .int .i64 0, .bool false] 40))
    case first =>
      go_wp2_with fail
      all_goals
        go_meet
        have := HM.out
        refine ⟨rfl, ?_⟩
        rw [this]
    case rest =>
      obtain ⟨rfl, rfl⟩ := hcut
      obtain ⟨p, hp⟩ : ∃ p, W4.heap.size = p := ⟨_, rfl⟩
      have HH0 : Hid (RD (W4.alloc (.cells #[.slice none 0 0, .int .i64 M, .int .u64 0, .bool false, .int .u64 0, .int .i64 0, .bool false] 40)) (fun j => j = p) p (newD cap) ∧ Below W4.heap.size W4 (W4.alloc (.cells #[.slice none 0 0, .int .i64 M, .int .u64 0, .bool false, .int .u64 0, .int .i64 0, .bool false] 40)) ∧ W4.heap.size = p) := Lib.hid (by
        refine ⟨rd_new ?_, (Below.refl _ W4).alloc (Nat.le_refl _) _, hp⟩
        rw [← hp]
        refine Blk.new W4 _ _ ?_
        rw [← HM.out])
      rw [hp]
      clear hp
      revert HH0
      generalize W4.alloc (.cells #[.slice none 0 0, .int .i64 M, .int .u64 0, .bool false, .int .u64 0, .int .i64 0, .bool false] 40) = w0
      intro HH0
      have hn2N : n2 ≤ 60 := by have := HNN.out.2.2; omega
      cases D
      · have HE := Lib.hid (HNN.out.2.1 rfl)
        have hge : N ≤ place := HE.out.2
        have dnn : (((n2 : Nat) : Int) != ((N : Nat) : Int)) = false := by rw [HE.out.1]; simp
        have hbc : Below W3.heap.size W3 w0 := bthen H4.out.2 HH0.out.2.1
        have hCo2 := hCo w0 hbc
        have dNN : (((N : Nat) : Int) != ((N : Nat) : Int)) = false := by simp
        clear hCo hbc
        go_wp2_with fail
        refine hCo2.mono ?_
        rintro e W5 ⟨rfl, hb5⟩
        have HH5 : Hid (RD W5 (fun j => j = p) p (newD cap) ∧ p < W5.heap.size ∧ Below w2.heap.size w2 W5 ∧ Wks W5 (fun k => k = p) A4 N C ∧ Vals W5 p A3 n2 (r.1.map fun e => .int .i64 e)) := Lib.hid (by
          obtain ⟨g1, g2, g3⟩ := HH0.out
          have hb4 := H4.out.2
          have hR5 : RD W5 (fun j => j = p) p (newD cap) := g1.turn (Turn.of_below hb5 : Turn (fun _ => False) w0 W5) (fun _ h => h.elim) (fun h => h.elim)
          have hp5 : p < W5.heap.size := by
            obtain ⟨_, _, _, hB, _⟩ := hR5
            exact hB.lt
          refine ⟨hR5, hp5, bthen (bthen (bthen H3.out.1 hb4) g2) hb5, ?_, ?_⟩
          · exact ((H4.out.1.turn (Turn.of_below g2)).less fun k hk => by omega).turn ((Turn.of_below hb5 : Turn (fun _ => False) w0 W5).mono fun _ h => h.elim)
          · have h1 := (H3.out.2.1.below hb4).more (B' := p) (by rw [← g3]; exact hb4.size)
            rw [← g3] at h1 ⊢
            exact (h1.below g2).below (hb5.mono g2.size))
        clear hCo2 hb5
        go_wp2_with fail
        go_loopw [13] (fun i wr => ∃ k : Nat, k ≤ N ∧ i = .int .i64 k ∧ RD wr (fun j => j = p) p (behindD (newD cap) (C.take k)) ∧ OkD k (behindD (newD cap) (C.take k)) ∧ Turn (fun j => j = p) W5 wr) (fun i _ => N - (intOf i).toNat)
        case atStart => exact ⟨0, Nat.zero_le _, rfl, HH5.out.1, HO.out, Turn.refl _ _⟩
        case round =>
          obtain ⟨k, hk, rfl, hR, hOk, hT⟩ := hrel
          by_cases hkE : k < N
          · obtain ⟨s, hs⟩ : ∃ s, C[k]? = some s := ⟨_, List.getElem?_eq_getElem (by have := HL.out.2.2.2.2.1; omega)⟩
            have hsm := HL.out.2.2.2.2.2.1.2 s (List.mem_of_getElem? hs)
            have hbt := behind_take C (newD cap) k s hs
            obtain ⟨a1, ha1⟩ : ∃ a, (doD (behindD (newD cap) (C.take k)) s.sp).1 = a := ⟨_, rfl⟩
            obtain ⟨m1, hm1⟩ : ∃ a, (doD (behindD (newD cap) (C.take k)) s.sp).2 = a := ⟨_, rfl⟩
            have han : r.1[k]? = some a1 := by
              rw [HL.out.2.2.1.1]
              have h1 := ans_at (C.take place) (newD cap) k s (by rw [List.getElem?_take_of_lt (by omega)]; exact hs)
              rw [List.take_take, Nat.min_eq_left (by omega), ha1] at h1
              exact h1
            obtain ⟨b1, o1, x1, rfl, hb1p, hx1, hc1⟩ := HH5.out.2.2.2.2.at_ (k := k) (by have := HE.out.1; omega)
            rw [List.getElem?_map, han] at hx1
            obtain rfl : .int .i64 a1 = x1 := Option.some.inj hx1
            obtain ⟨b, o, A2, d2, c2, rfl, hbS, hbl, hcells, hby, hnil2, _, _⟩ := HH5.out.2.2.2.1.at_ hs
            have hSt := fun w => step10_any s A2 d2 c2 w
            unfold wkV at hSt
            obtain ⟨T, hTT⟩ : ∃ T : ByteArray, ⟨s.name.toArray⟩ = T := ⟨_, rfl⟩
            obtain ⟨U, hU⟩ : ∃ U : ByteArray, ⟨s.dest.toArray⟩ = U := ⟨_, rfl⟩
            obtain ⟨K, hK⟩ : ∃ K, s.kind = K := ⟨_, rfl⟩
            rw [hTT, hU, hK] at hSt hcells
            have hDo := fun (w : World) (hR : RD w (fun j => j = p) p (behindD (newD cap) (C.take k))) (hT : Turn (fun j => j = p) W5 w) => rdo10_any p k _ s A2 d2 c2 w hR hOk (by omega) hsm (hby.turn hT) hnil2
            rw [ha1, hm1] at hDo
            obtain ⟨V, hV⟩ : ∃ V, spV s.sp A2 d2 c2 = V := ⟨_, rfl⟩
            rw [hV] at hDo hSt
            have HSA : Hid (∀ w, Turn (fun j => j = p) W5 w → w.cell? ⟨b1, o1 + k, none⟩ = some (.int .i64 a1) ∧ w.cell? ⟨b, o + k * 4, none⟩ = some (.int .i64 K) ∧ w.cell? ⟨b, o + k * 4 + 1, none⟩ = some (.string T) ∧ w.cell? ⟨b, o + k * 4 + 2, none⟩ = some (.string U) ∧ w.cell? ⟨b, o + k * 4 + 3, none⟩ = some (.slice A2 d2 c2)) := Lib.hid (fun w ht => by
              obtain ⟨r0, r1, r2, r3⟩ := hcells
              exact ⟨ht.at_ hc1 (by show ¬ b1 = p; omega), ht.at_ r0 hbS, ht.at_ r1 hbS, ht.at_ r2 hbS, ht.at_ r3 hbS⟩)
            have HHk := Lib.hid (And.intro hR (And.intro hT (And.intro hbt hm1)))
            obtain ⟨z0, z1, z2, z3, z4⟩ := HSA.out wr hT
            have drr : (a1 != a1) = false := by simp
            have i0 : (0 : Int) ≤ (k : Int) := by omega
            have i1 : (k : Int) < (n2 : Int) := by have := HE.out.1; omega
            have i2 : (k : Int) < (N : Int) := by omega
            clear hs hsm hbt ha1 hm1 han hb1p hx1 hc1 hbS hbl hcells hby hnil2 hTT hU hK hV hR hOk hT
            go_upto_region 16 with fail
            go_cut [78] from 67 to 77 (fun s78 wx => s78 = .bool false ∧ RD wx (fun j => j = p) p m1 ∧ OkD (k + 1) m1 ∧ Turn (fun j => j = p) W5 wx)
            case first =>
              go_region_held3 (fun w' => w'.cell? ⟨b1, o1 + k, none⟩ = some (.int .i64 a1) ∧ w'.cell? ⟨b, o + k * 4, none⟩ = some (.int .i64 K) ∧ w'.cell? ⟨b, o + k * 4 + 1, none⟩ = some (.string T) ∧ w'.cell? ⟨b, o + k * 4 + 2, none⟩ = some (.string U) ∧ w'.cell? ⟨b, o + k * 4 + 3, none⟩ = some (.slice A2 d2 c2))
                (first | exact ⟨v0, v1, v2, v3, v4⟩ | exact ⟨t0, t1, t2, t3, t4⟩ | exact ⟨z0, z1, z2, z3, z4⟩ | go_keep)
                ((first
                  | (go_at_call 17; refine (hSt _).mono ?_; rintro e w7 ⟨rfl, hb7⟩; have hT7 : Turn (fun j => j = p) W5 w7 := (HHk.out.2.1.drewN 1).trans (Turn.of_below hb7); have hR7 : RD w7 (fun j => j = p) p (behindD (newD cap) (C.take k)) := HHk.out.1.turn (((Turn.refl (fun _ => False) wr).drewN 1).trans (Turn.of_below hb7)) (fun _ h => h.elim) (fun h => h.elim); obtain ⟨t0, t1, t2, t3, t4⟩ := HSA.out w7 hT7)
                  | (go_at_call 16; refine (hDo _ hR7 hT7).mono ?_; rintro e w8 ⟨rfl, hR8, hO8, ht8⟩; have hT8 := hT7.trans ht8; obtain ⟨v0, v1, v2, v3, v4⟩ := HSA.out w8 hT8)))
              all_goals
                go_wp2_with fail
                go_meet
                exact ⟨rfl, hR8, hO8, hT8⟩
            case rest =>
              obtain ⟨rfl, hR, hOk, hT⟩ := hcut
              have HR := Lib.hid (And.intro hR (And.intro hOk hT))
              clear hR hOk hT
              go_wp2_with fail
              go_roundw
              case rel => exact ⟨k + 1, by omega, by go_num, by rw [HHk.out.2.2.1, HHk.out.2.2.2]; exact HR.out⟩
              case measure => simp [intOf]; omega
          · have HBw : Hid (Below w2.heap.size w2 wr) := Lib.hid (HH5.out.2.2.1.trans (hT.below HH5.out.2.2.1.size fun j hj => by
              rw [hj, ← HH0.out.2.2]
              exact Nat.le_trans H3.out.1.size H4.out.2.size))
            have hAw := awake10_any wr
            clear hR hOk hT
            go_wp2_with fail
            refine hAw.mono ?_
            rintro e w9 ⟨rfl, hb9⟩
            have HB9 := Lib.hid (HBw.out.trans (hb9.mono HBw.out.size))
            clear hAw hb9
            go_wp2_with fail
            go_ret
            exact ⟨rfl, HB9.out⟩
      · have HE := Lib.hid (HNN.out.1 rfl)
        have hlt : place < N := HE.out.2
        have dnn : (((n2 : Nat) : Int) != ((place : Nat) : Int)) = false := by rw [HE.out.1]; simp
        have hbc : Below W3.heap.size W3 w0 := bthen H4.out.2 HH0.out.2.1
        have hCo2 := hCo w0 hbc
        have dNN : (((N : Nat) : Int) != ((N : Nat) : Int)) = false := by simp
        clear hCo hbc
        go_wp2_with fail
        refine hCo2.mono ?_
        rintro e W5 ⟨rfl, hb5⟩
        have HH5 : Hid (RD W5 (fun j => j = p) p (newD cap) ∧ p < W5.heap.size ∧ Below w2.heap.size w2 W5 ∧ Wks W5 (fun k => k = p) A4 N C ∧ Vals W5 p A3 n2 (r.1.map fun e => .int .i64 e)) := Lib.hid (by
          obtain ⟨g1, g2, g3⟩ := HH0.out
          have hb4 := H4.out.2
          have hR5 : RD W5 (fun j => j = p) p (newD cap) := g1.turn (Turn.of_below hb5 : Turn (fun _ => False) w0 W5) (fun _ h => h.elim) (fun h => h.elim)
          have hp5 : p < W5.heap.size := by
            obtain ⟨_, _, _, hB, _⟩ := hR5
            exact hB.lt
          refine ⟨hR5, hp5, bthen (bthen (bthen H3.out.1 hb4) g2) hb5, ?_, ?_⟩
          · exact ((H4.out.1.turn (Turn.of_below g2)).less fun k hk => by omega).turn ((Turn.of_below hb5 : Turn (fun _ => False) w0 W5).mono fun _ h => h.elim)
          · have h1 := (H3.out.2.1.below hb4).more (B' := p) (by rw [← g3]; exact hb4.size)
            rw [← g3] at h1 ⊢
            exact (h1.below g2).below (hb5.mono g2.size))
        clear hCo2 hb5
        go_wp2_with fail
        go_loopw [13] (fun i wr => ∃ k : Nat, k ≤ place ∧ i = .int .i64 k ∧ RD wr (fun j => j = p) p (behindD (newD cap) (C.take k)) ∧ OkD k (behindD (newD cap) (C.take k)) ∧ Turn (fun j => j = p) W5 wr) (fun i _ => place - (intOf i).toNat)
        case atStart => exact ⟨0, Nat.zero_le _, rfl, HH5.out.1, HO.out, Turn.refl _ _⟩
        case round =>
          obtain ⟨k, hk, rfl, hR, hOk, hT⟩ := hrel
          by_cases hkE : k < place
          · obtain ⟨s, hs⟩ : ∃ s, C[k]? = some s := ⟨_, List.getElem?_eq_getElem (by have := HL.out.2.2.2.2.1; omega)⟩
            have hsm := HL.out.2.2.2.2.2.1.2 s (List.mem_of_getElem? hs)
            have hbt := behind_take C (newD cap) k s hs
            obtain ⟨a1, ha1⟩ : ∃ a, (doD (behindD (newD cap) (C.take k)) s.sp).1 = a := ⟨_, rfl⟩
            obtain ⟨m1, hm1⟩ : ∃ a, (doD (behindD (newD cap) (C.take k)) s.sp).2 = a := ⟨_, rfl⟩
            have han : r.1[k]? = some a1 := by
              rw [HL.out.2.2.1.1]
              have h1 := ans_at (C.take place) (newD cap) k s (by rw [List.getElem?_take_of_lt (by omega)]; exact hs)
              rw [List.take_take, Nat.min_eq_left (by omega), ha1] at h1
              exact h1
            obtain ⟨b1, o1, x1, rfl, hb1p, hx1, hc1⟩ := HH5.out.2.2.2.2.at_ (k := k) (by have := HE.out.1; omega)
            rw [List.getElem?_map, han] at hx1
            obtain rfl : .int .i64 a1 = x1 := Option.some.inj hx1
            obtain ⟨b, o, A2, d2, c2, rfl, hbS, hbl, hcells, hby, hnil2, _, _⟩ := HH5.out.2.2.2.1.at_ hs
            have hSt := fun w => step10_any s A2 d2 c2 w
            unfold wkV at hSt
            obtain ⟨T, hTT⟩ : ∃ T : ByteArray, ⟨s.name.toArray⟩ = T := ⟨_, rfl⟩
            obtain ⟨U, hU⟩ : ∃ U : ByteArray, ⟨s.dest.toArray⟩ = U := ⟨_, rfl⟩
            obtain ⟨K, hK⟩ : ∃ K, s.kind = K := ⟨_, rfl⟩
            rw [hTT, hU, hK] at hSt hcells
            have hDo := fun (w : World) (hR : RD w (fun j => j = p) p (behindD (newD cap) (C.take k))) (hT : Turn (fun j => j = p) W5 w) => rdo10_any p k _ s A2 d2 c2 w hR hOk (by omega) hsm (hby.turn hT) hnil2
            rw [ha1, hm1] at hDo
            obtain ⟨V, hV⟩ : ∃ V, spV s.sp A2 d2 c2 = V := ⟨_, rfl⟩
            rw [hV] at hDo hSt
            have HSA : Hid (∀ w, Turn (fun j => j = p) W5 w → w.cell? ⟨b1, o1 + k, none⟩ = some (.int .i64 a1) ∧ w.cell? ⟨b, o + k * 4, none⟩ = some (.int .i64 K) ∧ w.cell? ⟨b, o + k * 4 + 1, none⟩ = some (.string T) ∧ w.cell? ⟨b, o + k * 4 + 2, none⟩ = some (.string U) ∧ w.cell? ⟨b, o + k * 4 + 3, none⟩ = some (.slice A2 d2 c2)) := Lib.hid (fun w ht => by
              obtain ⟨r0, r1, r2, r3⟩ := hcells
              exact ⟨ht.at_ hc1 (by show ¬ b1 = p; omega), ht.at_ r0 hbS, ht.at_ r1 hbS, ht.at_ r2 hbS, ht.at_ r3 hbS⟩)
            have HHk := Lib.hid (And.intro hR (And.intro hT (And.intro hbt hm1)))
            obtain ⟨z0, z1, z2, z3, z4⟩ := HSA.out wr hT
            have drr : (a1 != a1) = false := by simp
            have i0 : (0 : Int) ≤ (k : Int) := by omega
            have i1 : (k : Int) < (n2 : Int) := by have := HE.out.1; omega
            have i2 : (k : Int) < (N : Int) := by omega
            clear hs hsm hbt ha1 hm1 han hb1p hx1 hc1 hbS hbl hcells hby hnil2 hTT hU hK hV hR hOk hT
            go_upto_region 16 with fail
            go_cut [78] from 67 to 77 (fun s78 wx => s78 = .bool false ∧ RD wx (fun j => j = p) p m1 ∧ OkD (k + 1) m1 ∧ Turn (fun j => j = p) W5 wx)
            case first =>
              go_region_held3 (fun w' => w'.cell? ⟨b1, o1 + k, none⟩ = some (.int .i64 a1) ∧ w'.cell? ⟨b, o + k * 4, none⟩ = some (.int .i64 K) ∧ w'.cell? ⟨b, o + k * 4 + 1, none⟩ = some (.string T) ∧ w'.cell? ⟨b, o + k * 4 + 2, none⟩ = some (.string U) ∧ w'.cell? ⟨b, o + k * 4 + 3, none⟩ = some (.slice A2 d2 c2))
                (first | exact ⟨v0, v1, v2, v3, v4⟩ | exact ⟨t0, t1, t2, t3, t4⟩ | exact ⟨z0, z1, z2, z3, z4⟩ | go_keep)
                ((first
                  | (go_at_call 17; refine (hSt _).mono ?_; rintro e w7 ⟨rfl, hb7⟩; have hT7 : Turn (fun j => j = p) W5 w7 := (HHk.out.2.1.drewN 1).trans (Turn.of_below hb7); have hR7 : RD w7 (fun j => j = p) p (behindD (newD cap) (C.take k)) := HHk.out.1.turn (((Turn.refl (fun _ => False) wr).drewN 1).trans (Turn.of_below hb7)) (fun _ h => h.elim) (fun h => h.elim); obtain ⟨t0, t1, t2, t3, t4⟩ := HSA.out w7 hT7)
                  | (go_at_call 16; refine (hDo _ hR7 hT7).mono ?_; rintro e w8 ⟨rfl, hR8, hO8, ht8⟩; have hT8 := hT7.trans ht8; obtain ⟨v0, v1, v2, v3, v4⟩ := HSA.out w8 hT8)))
              all_goals
                go_wp2_with fail
                go_meet
                exact ⟨rfl, hR8, hO8, hT8⟩
            case rest =>
              obtain ⟨rfl, hR, hOk, hT⟩ := hcut
              have HR := Lib.hid (And.intro hR (And.intro hOk hT))
              clear hR hOk hT
              go_wp2_with fail
              go_roundw
              case rel => exact ⟨k + 1, by omega, by go_num, by rw [HHk.out.2.2.1, HHk.out.2.2.2]; exact HR.out⟩
              case measure => simp [intOf]; omega
          · have HBw : Hid (Below w2.heap.size w2 wr) := Lib.hid (HH5.out.2.2.1.trans (hT.below HH5.out.2.2.1.size fun j hj => by
              rw [hj, ← HH0.out.2.2]
              exact Nat.le_trans H3.out.1.size H4.out.2.size))
            have hAw := awake10_any wr
            clear hR hOk hT
            go_wp2_with fail
            refine hAw.mono ?_
            rintro e w9 ⟨rfl, hb9⟩
            have HB9 := Lib.hid (HBw.out.trans (hb9.mono HBw.out.size))
            clear hAw hb9
            go_wp2_with fail
            go_ret
            exact ⟨rfl, HB9.out⟩
  · rw [hlg] at hLg
    clear hl hn hcap hlg
    go_enter Try.func4, Try.ntmps4
    go_wp2_with fail
    refine hLg.mono ?_
    rintro e w2 ⟨rfl, rfl⟩
    clear hLg
    go_wp2_with fail
    refine (awake10_any _).mono ?_
    rintro e w3 ⟨rfl, hb3⟩
    have HB3 := Lib.hid hb3
    clear hb3
    go_wp2_with fail
    go_ret
    exact ⟨rfl, HB3.out⟩

end Go.Proofs.Ytikghnbhbehepaa
