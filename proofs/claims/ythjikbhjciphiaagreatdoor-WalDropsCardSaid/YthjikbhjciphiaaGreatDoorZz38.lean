/-
  The library's sort of words, whole.
-/
import Derived.Test.YthjikbhjciphiaaGreatDoorZz12
import Derived.Test.YthjikbhjciphiaaGreatDoorZz13
import Derived.Test.YthjikbhjciphiaaGreatDoorZz37
import Derived.Deep.CutRange
import Derived.Deep.Cut
namespace Go.Proofs.YthjikbhjciphiaaGreatDoor
open Go.RowKit
set_option linter.unusedVariables false
set_option linter.unusedSimpArgs false

/-- What stands between two rounds. -/
def PdI (W : World) (B g n c a b a1 b1 : Nat) (xs ys : List Nat) (w : World) : Prop := RowN w B g n c ys ∧ Turn (fun k => k = g) W w ∧ Sws a b xs ys ∧ PartI a b a1 b1 ys

set_option maxRecDepth 100000 in
set_option maxHeartbeats 16000000 in
theorem pdq_any (B g n c : Nat) (hn : n ≤ 1000000000) (m : Nat) : ∀ (a b lim : Nat) (xs : List Nat) (W : World), b - a = m → RowN W B g n c xs → a ≤ b → b ≤ n → lim ≤ 64 → Low a b xs →
    Calls Tryz.prog 68 #[.slice (some ⟨g, 0, none⟩) n c, .int .i64 (a : Nat), .int .i64 (b : Nat), .int .i64 (lim : Nat)] W (SoPost W B g n c fun ys => Sws a b xs ys ∧ Srt a b ys) := by
  induction m using Nat.strongRecOn with
  | ind m ih =>
    intro a b lim xs W hm h hab hb hlim hlow
    have HB := Lib.hid (show b - a = m ∧ a ≤ b ∧ b ≤ n ∧ n ≤ 1000000000 from ⟨hm, hab, hb, hn⟩)
    have HLW := Lib.hid hlow
    have HIH := Lib.hid ih
    have H0 := Lib.hid (show PdI W B g n c a b a b xs xs W ∧ lim ≤ 64 from ⟨⟨h, Turn.refl _ _, .refl _, partI_start _ _ _⟩, hlim⟩)
    have a9 : a ≤ 1000000000 := by omega
    have b9 : b ≤ 1000000000 := by omega
    clear hm h hab hb hlim hlow ih hn
    go_enter Tryz.func68, Tryz.ntmps68
    go_wp2_with fail
    go_loopw [1, 2, 3, 8, 9] (fun va vb vl v8 v9 wr => ∃ (a1 b1 l1 : Nat) (wb wp : Bool) (ys : List Nat), va = .int .i64 a1 ∧ vb = .int .i64 b1 ∧ vl = .int .i64 l1 ∧ v8 = .bool wb ∧ v9 = .bool wp ∧ a ≤ a1 ∧ a1 ≤ b1 ∧ b1 ≤ b ∧ l1 ≤ 64 ∧ PdI W B g n c a b a1 b1 xs ys wr) (fun va vb _ _ _ _ => (intOf vb).toNat - (intOf va).toNat)
    case atStart => exact ⟨a, b, lim, true, true, xs, rfl, rfl, rfl, rfl, rfl, Nat.le_refl _, HB.out.2.1, Nat.le_refl _, H0.out.2, H0.out.1⟩
    case round =>
      obtain ⟨a1, b1, l1, wb, wp, ys, rfl, rfl, rfl, rfl, rfl, haa, ha1, hbb, hl1, hI⟩ := hrel
      have hb' := HB.out
      obtain ⟨d, hd⟩ : ∃ x, b1 - a1 = x := ⟨_, rfl⟩
      have e1 : (b1 : Int) - (a1 : Int) = (d : Int) := by omega
      have d9 : d ≤ 1000000000 := by omega
      have a19 : a1 ≤ 1000000000 := by omega
      have b19 : b1 ≤ 1000000000 := by omega
      by_cases h12 : d ≤ 12
      · have t12 : (d : Int) ≤ 12 := by omega
        have hS := insertion_any B g n c a1 b1 ys wr hI.1 ha1 (by omega) hb'.2.2.2
        have HI := Lib.hid (And.intro hI (And.intro haa (And.intro ha1 hbb)))
        clear hI haa ha1 hbb hl1 hb' hd h12
        go_wp2_with fail
        refine hS.mono ?_
        rintro e w2 ⟨rfl, zs, hr2, ht2, hs2, hz2⟩
        have HF := Lib.hid (show RowN w2 B g n c zs ∧ Turn (fun k => k = g) W w2 ∧ Sws a b xs zs ∧ Srt a b zs from
          ⟨hr2, HI.out.1.2.1.trans ht2, HI.out.1.2.2.1.trans (hs2.mono HI.out.2.1 HI.out.2.2.2 (by rw [HI.out.1.1.len]; have := HB.out; omega)), PartI.done (HI.out.1.2.2.2.sws hs2 HI.out.2.1 HI.out.2.2.2) hz2⟩)
        clear hr2 ht2 hs2 hz2 hS
        go_wp2_with fail
        refine bodyPost_ret (results_none rfl _ _ _) rfl ?_
        exact ⟨rfl, zs, HF.out.1, HF.out.2.1, HF.out.2.2.1, HF.out.2.2.2⟩
      · have t12 : ¬ (d : Int) ≤ 12 := by omega
        by_cases hl0 : l1 = 0
        · have q0 : ((l1 : Int) == 0) = true := by rw [hl0]; rfl
          have hS := heap_any B g n c a1 b1 ys wr hI.1 (by omega) (by omega) hb'.2.2.2
          have HI := Lib.hid (And.intro hI (And.intro haa (And.intro ha1 hbb)))
          clear hI haa ha1 hbb hl1 hb' hd h12 hl0
          go_wp2_with fail
          refine hS.mono ?_
          rintro e w2 ⟨rfl, zs, hr2, ht2, hs2, hz2⟩
          have HF := Lib.hid (show RowN w2 B g n c zs ∧ Turn (fun k => k = g) W w2 ∧ Sws a b xs zs ∧ Srt a b zs from
            ⟨hr2, HI.out.1.2.1.trans ht2, HI.out.1.2.2.1.trans (hs2.mono HI.out.2.1 HI.out.2.2.2 (by rw [HI.out.1.1.len]; have := HB.out; omega)), PartI.done (HI.out.1.2.2.2.sws hs2 HI.out.2.1 HI.out.2.2.2) hz2⟩)
          clear hr2 ht2 hs2 hz2 hS
          go_wp2_with fail
          refine bodyPost_ret (results_none rfl _ _ _) rfl ?_
          exact ⟨rfl, zs, HF.out.1, HF.out.2.1, HF.out.2.2.1, HF.out.2.2.2⟩
        · have q0 : ((l1 : Int) == 0) = false := by simp; omega
          have HA := Lib.hid (show a ≤ a1 ∧ a1 + 12 < b1 ∧ b1 ≤ b ∧ b ≤ n ∧ n ≤ 1000000000 ∧ b1 - a1 = d ∧ b - a = m ∧ 0 < l1 ∧ l1 ≤ 64 from ⟨haa, by omega, hbb, by omega, by omega, hd, by omega, by omega, hl1⟩)
          have HI := Lib.hid hI
          clear hI haa ha1 hbb hl1 hb' hd h12 hl0
          go_upto_if 35 with fail
          go_cut [3] from 36 to 41 (fun s3 wx => ∃ (l2 : Nat) (zs : List Nat), s3 = .int .i64 l2 ∧ l2 ≤ 64 ∧ PdI W B g n c a b a1 b1 xs zs wx)
          case first =>
            cases wb with
            | true =>
              go_wp2_with fail
              go_meet
              exact ⟨l1, ys, rfl, HA.out.2.2.2.2.2.2.2.2, HI.out⟩
            | false =>
              obtain ⟨l3, hl3⟩ : ∃ x, l1 - 1 = x := ⟨_, rfl⟩
              have e2 : (l1 : Int) - 1 = (l3 : Int) := by have := HA.out; omega
              have l19 : l1 ≤ 64 := HA.out.2.2.2.2.2.2.2.2
              have hS := break_any B g n c a1 b1 ys wr HI.out.1 (by have := HA.out; omega) (by have := HA.out; omega) (by have := HA.out; omega)
              go_wp2_with fail
              refine hS.mono ?_
              rintro e w2 ⟨rfl, zs, hr2, ht2, hs2⟩
              have HF := Lib.hid (show PdI W B g n c a b a1 b1 xs zs w2 from ⟨hr2, HI.out.2.1.trans ht2, HI.out.2.2.1.trans (hs2.mono HA.out.1 HA.out.2.2.1 (by rw [HI.out.1.len]; have := HA.out; omega)), HI.out.2.2.2.sws hs2 HA.out.1 HA.out.2.2.1⟩)
              clear hr2 ht2 hs2 hS
              go_wp2_with fail
              go_meet
              exact ⟨l3, zs, rfl, by omega, HF.out⟩
          case rest =>
            obtain ⟨l2, zs, rfl, hl2, hI2⟩ := hcut
            have hP := pivot_any B g n c a1 b1 zs wc hI2.1 (by have := HA.out; omega) (by have := HA.out; omega) (by have := HA.out; omega)
            have HI2 := Lib.hid (And.intro hl2 hI2)
            clear hl2 hI2 HI
            go_wp2_with fail
            refine hP.mono ?_
            rintro e w2 ⟨p, hh, rfl, hap, hpb, hr2, ht2⟩
            have HI3 := Lib.hid (show PdI W B g n c a b a1 b1 xs zs w2 ∧ a1 ≤ p ∧ p < b1 ∧ l2 ≤ 64 from ⟨⟨hr2, HI2.out.2.2.1.trans ht2, HI2.out.2.2.2.1, HI2.out.2.2.2.2⟩, hap, hpb, HI2.out.1⟩)
            clear hap hpb hr2 ht2 HI2 hP
            obtain ⟨qb, hqb⟩ : ∃ qb, (hh == 2) = qb := ⟨_, rfl⟩
            go_upto_if 50 with fail
            clear hqb
            go_cut [11, 12] from 51 to 60 (fun s11 s12 wx => ∃ (p2 : Nat) (h2 : Int) (us : List Nat), s11 = .int .i64 p2 ∧ s12 = .int .i64 h2 ∧ a1 ≤ p2 ∧ p2 < b1 ∧ PdI W B g n c a b a1 b1 xs us wx)
            case first =>
              cases qb with
              | true =>
                obtain ⟨r1, hr1⟩ : ∃ x, b1 - 1 = x := ⟨_, rfl⟩
                obtain ⟨r2, hr2⟩ : ∃ x, p - a1 = x := ⟨_, rfl⟩
                obtain ⟨r3, hr3⟩ : ∃ x, r1 - r2 = x := ⟨_, rfl⟩
                have g1 : (b1 : Int) - 1 = (r1 : Int) := by have := HA.out; omega
                have g2 : (p : Int) - (a1 : Int) = (r2 : Int) := by have := HI3.out; omega
                have g3 : (r1 : Int) - (r2 : Int) = (r3 : Int) := by have := HI3.out; have := HA.out; omega
                have r19 : r1 ≤ 1000000000 := by omega
                have r29 : r2 ≤ 1000000000 := by have := HI3.out; have := HA.out; omega
                have r39 : r3 ≤ 1000000000 := by omega
                have p9 : p ≤ 1000000000 := by have := HI3.out; have := HA.out; omega
                have HR := Lib.hid (show a1 ≤ r3 ∧ r3 < b1 from by have := HI3.out; have := HA.out; omega)
                have hS := reverse_any B g n c a1 b1 zs w2 HI3.out.1.1 (by have := HA.out; omega) (by have := HA.out; omega) (by have := HA.out; omega)
                clear hr1 hr2 hr3
                go_wp2_with fail
                refine hS.mono ?_
                rintro e w3 ⟨rfl, us, hr3, ht3, hs3⟩
                have HF := Lib.hid (show PdI W B g n c a b a1 b1 xs us w3 from ⟨hr3, HI3.out.1.2.1.trans ht3, HI3.out.1.2.2.1.trans (hs3.mono HA.out.1 HA.out.2.2.1 (by rw [HI3.out.1.1.len]; have := HA.out; omega)), HI3.out.1.2.2.2.sws hs3 HA.out.1 HA.out.2.2.1⟩)
                clear hr3 ht3 hs3 hS
                go_wp2_with fail
                go_meet
                exact ⟨r3, 1, us, rfl, rfl, HR.out.1, HR.out.2, HF.out⟩
              | false =>
                go_wp2_with fail
                go_meet
                exact ⟨p, hh, zs, rfl, rfl, HI3.out.2.1, HI3.out.2.2.1, HI3.out.1⟩
            case rest =>
              obtain ⟨p2, h2, us, rfl, rfl, hap, hpb, hI4⟩ := hcut
              have HI4 := Lib.hid (show PdI W B g n c a b a1 b1 xs us wc ∧ a1 ≤ p2 ∧ p2 < b1 ∧ l2 ≤ 64 from ⟨hI4, hap, hpb, HI3.out.2.2.2⟩)
              clear hap hpb hI4 HI3
              obtain ⟨q1, hq1⟩ : ∃ q1, (h2 == 1) = q1 := ⟨_, rfl⟩
              have hS := pins_any B g n c a1 b1 us wc HI4.out.1.1 (by have := HA.out; omega) (by have := HA.out; omega) (by have := HA.out; omega) (PartI.low HI4.out.1.2.2.2 (HLW.out.sws HI4.out.1.2.2.1) HA.out.1 HA.out.2.2.1)
              go_upto_region 15 with fail
              go_cut [68] from 61 to 68 (fun s wx => s = .bool (wb && wp && q1) ∧ wx = wc)
              case first =>
                cases wb with
                | false =>
                  go_wp2_with fail
                  go_meet
                  exact ⟨rfl, rfl⟩
                | true =>
                  cases wp with
                  | false =>
                    go_wp2_with fail
                    go_meet
                    exact ⟨rfl, rfl⟩
                  | true =>
                    cases q1 with
                    | false =>
                      go_wp2_with fail
                      go_meet
                      exact ⟨rfl, rfl⟩
                    | true =>
                      go_wp2_with fail
                      go_meet
                      exact ⟨rfl, rfl⟩
              case rest =>
              obtain ⟨rfl, rfl⟩ := hcut
              obtain ⟨qc, hqc⟩ : ∃ qc, (wb && wp && q1) = qc := ⟨_, rfl⟩
              rw [hqc]
              clear hqc hq1
              go_upto_if 68 with fail
              go_cut [] from 69 to 72 (fun wx => ∃ vs : List Nat, PdI W B g n c a b a1 b1 xs vs wx)
              case first =>
                cases qc with
                | false =>
                  go_wp2_with fail
                  go_meet
                  exact ⟨us, HI4.out.1⟩
                | true =>
                  go_wp2_with fail
                  refine hS.mono ?_
                  rintro e w3 ⟨bl, vs, rfl, hr3, ht3, hs3, hz3⟩
                  have HF := Lib.hid (show PdI W B g n c a b a1 b1 xs vs w3 from ⟨hr3, HI4.out.1.2.1.trans ht3, HI4.out.1.2.2.1.trans (hs3.mono HA.out.1 HA.out.2.2.1 (by rw [HI4.out.1.1.len]; have := HA.out; omega)), HI4.out.1.2.2.2.sws hs3 HA.out.1 HA.out.2.2.1⟩)
                  have HZ := Lib.hid hz3
                  clear hr3 ht3 hs3 hS hz3
                  cases bl with
                  | true =>
                    go_wp2_with fail
                    refine bodyPost_ret (results_none rfl _ _ _) rfl ?_
                    exact ⟨rfl, vs, HF.out.1, HF.out.2.1, HF.out.2.2.1, PartI.done HF.out.2.2.2 (HZ.out trivial)⟩
                  | false =>
                    go_wp2_with fail
                    go_meet
                    exact ⟨vs, HF.out⟩
              case rest =>
                obtain ⟨vs, hI5⟩ := hcut
                have HI5 := Lib.hid (show PdI W B g n c a b a1 b1 xs vs wc ∧ a1 ≤ p2 ∧ p2 < b1 ∧ l2 ≤ 64 from ⟨hI5, HI4.out.2⟩)
                clear hI5 hS
                have hq9 : ∀ X Y : Nat, ∃ q : Bool, decide (X < Y) = q := fun _ _ => ⟨_, rfl⟩
                obtain ⟨X, hX⟩ : ∃ x, atN vs p2 = x := ⟨_, rfl⟩
                have r9 := HI5.out.1.1
                have cp := r9.cell p2 (by have := HI5.out; have := HA.out; omega) X hX
                have hpn : (p2 : Int) < (n : Int) := by have := HI5.out; have := HA.out; omega
                have hp9 : p2 ≤ 1000000000 := by have := HI5.out; have := HA.out; omega
                have ha19 : a1 ≤ 1000000000 := by have := HA.out; omega
                have hb19 : b1 ≤ 1000000000 := by have := HA.out; omega
                have HX := Lib.hid hX
                clear hX r9
                go_upto_region 17 with fail
                go_cut [87] from 73 to 87 (fun s wx => ∃ qg : Bool, s = .bool qg ∧ PdI W B g n c a b a1 b1 xs vs wx ∧ (qg = true → 0 < a1 ∧ X ≤ atN vs (a1 - 1)))
                case first =>
                  by_cases h0 : a1 = 0
                  · subst h0
                    have z1 : decide ((0 : Int) < ((0 : Nat) : Int)) = false := rfl
                    have z2 : decide ((0 : Nat) < 0) = false := rfl
                    have z3 : decide ((0 : Int) < 0) = false := rfl
                    go_wp2_with fail
                    go_quiet (fail)
                    go_wp2_with fail
                    go_meet
                    exact ⟨false, rfl, ⟨HI5.out.1.1.drewN _, HI5.out.1.2.1.drewN _, HI5.out.1.2.2⟩, fun h => by cases h⟩
                  · obtain ⟨j, hj⟩ : ∃ x, a1 - 1 = x := ⟨_, rfl⟩
                    have g1 : (a1 : Int) - 1 = (j : Int) := by omega
                    obtain ⟨Y, hY⟩ : ∃ x, atN vs j = x := ⟨_, rfl⟩
                    have r9 := HI5.out.1.1
                    have cj := r9.cell j (by have := HI5.out; have := HA.out; omega) Y hY
                    have hjn : (j : Int) < (n : Int) := by have := HI5.out; have := HA.out; omega
                    have hj9 : j ≤ 1000000000 := by omega
                    have z1 : decide ((0 : Int) < (a1 : Int)) = true := decide_eq_true (by omega)
                    have z2 : decide (0 < a1) = true := decide_eq_true (by omega)
                    obtain ⟨q, hq⟩ : ∃ q : Bool, decide (Y < X) = q := ⟨_, rfl⟩
                    have hL := lessU_any Y X q hq
                    have HQ := Lib.hid (show 0 < a1 ∧ (q = false → X ≤ Y) ∧ a1 - 1 = j ∧ atN vs j = Y from ⟨by omega, fun e => by subst e; exact Nat.le_of_not_lt (of_decide_eq_false hq), hj, hY⟩)
                    clear h0 hj hY r9 hq
                    cases q with
                    | true =>
                      go_wp2_with fail
                      go_quiet (first | (go_at_call 108; exact Calls.quiet_of_same (hL _)))
                      go_wp2_with fail
                      go_meet
                      exact ⟨false, rfl, ⟨HI5.out.1.1.drewN _, HI5.out.1.2.1.drewN _, HI5.out.1.2.2⟩, fun h => by cases h⟩
                    | false =>
                      go_wp2_with fail
                      go_quiet (first | (go_at_call 108; exact Calls.quiet_of_same (hL _)))
                      go_wp2_with fail
                      go_meet
                      exact ⟨true, rfl, ⟨HI5.out.1.1.drewN _, HI5.out.1.2.1.drewN _, HI5.out.1.2.2⟩, fun _ => ⟨HQ.out.1, by rw [HQ.out.2.2.1, HQ.out.2.2.2]; exact HQ.out.2.1 trivial⟩⟩
                case rest =>
                  obtain ⟨qg, rfl, hI6, hqg⟩ := hcut
                  clear cp hpn hq9
                  have HI6 := Lib.hid (show PdI W B g n c a b a1 b1 xs vs wc ∧ a1 ≤ p2 ∧ p2 < b1 ∧ l2 ≤ 64 from ⟨hI6, HI5.out.2⟩)
                  clear hI6 HI5
                  cases qg with
                  | true =>
                    have HG := Lib.hid (hqg rfl)
                    have hS := equal_any B g n c a1 b1 p2 vs wc HI6.out.1.1 HI6.out.2.1 HI6.out.2.2.1 (by have := HA.out; omega) (by have := HA.out; omega)
                    clear hqg
                    go_wp2_with fail
                    refine hS.mono ?_
                    rintro e w3 ⟨k, ws, rfl, hr3, ht3, hs3, hak, hkb, hle, hgt⟩
                    have hlow := PartI.low (HI6.out.1.2.2.2.sws hs3 HA.out.1 HA.out.2.2.1) (HLW.out.sws (HI6.out.1.2.2.1.trans (hs3.mono HA.out.1 HA.out.2.2.1 (by rw [HI6.out.1.1.len]; have := HA.out; omega)))) HA.out.1 HA.out.2.2.1
                    have hout := hs3.out (a1 - 1) (.inl (by have := HG.out; omega))
                    have HF := Lib.hid (show PdI W B g n c a b k b1 xs ws w3 ∧ a1 < k ∧ k ≤ b1 from ⟨⟨hr3, HI6.out.1.2.1.trans ht3, HI6.out.1.2.2.1.trans (hs3.mono HA.out.1 HA.out.2.2.1 (by rw [HI6.out.1.1.len]; have := HA.out; omega)), PartI.equal (x := X) (HI6.out.1.2.2.2.sws hs3 HA.out.1 HA.out.2.2.1) (fun t h1 h2 => by
                      have k1 := hle t h1 h2
                      have k2 := hlow HG.out.1 t h1 (by omega)
                      have k3 := HG.out.2
                      rw [HX.out] at k1
                      rw [hout] at k2
                      omega) (fun t h1 h2 => by
                      have k1 := hgt t h1 h2
                      rw [HX.out] at k1
                      omega)⟩, hak, hkb⟩)
                    have hk9 : k ≤ 1000000000 := by omega
                    clear hr3 ht3 hs3 hak hkb hle hgt hlow hout hS
                    go_wp2_with fail
                    go_roundw
                    case rel => exact ⟨k, b1, l2, _, _, ws, rfl, rfl, rfl, rfl, rfl, by have := HF.out.2; have := HA.out; omega, HF.out.2.2, HA.out.2.2.1, HI6.out.2.2.2, HF.out.1⟩
                    case measure => have := HF.out.2; have := HA.out; simp [intOf]; omega
                  | false =>
                    have hS := partition_any B g n c a1 b1 p2 vs wc HI6.out.1.1 HI6.out.2.1 HI6.out.2.2.1 (by have := HA.out; omega) (by have := HA.out; omega)
                    clear hqg
                    go_wp2_with fail
                    refine hS.mono ?_
                    rintro e w3 ⟨k, bl, ws, rfl, hr3, ht3, hs3, hak, hkb, hcu⟩
                    obtain ⟨lf, hlf⟩ : ∃ x, k - a1 = x := ⟨_, rfl⟩
                    obtain ⟨rg, hrg⟩ : ∃ x, b1 - k = x := ⟨_, rfl⟩
                    obtain ⟨th, hth⟩ : ∃ x, d / 8 = x := ⟨_, rfl⟩
                    obtain ⟨k1, hk1⟩ : ∃ x, k + 1 = x := ⟨_, rfl⟩
                    have g1 : (k : Int) - (a1 : Int) = (lf : Int) := by omega
                    have g2 : (b1 : Int) - (k : Int) = (rg : Int) := by omega
                    have g3 : (d : Int) / 8 = (th : Int) := by omega
                    have g4 : Int.tdiv (d : Int) 8 = (th : Int) := by rw [← hth]; exact (Int.ofNat_tdiv d 8).symm
                    have g5 : (k : Int) + 1 = (k1 : Int) := by omega
                    have lf9 : lf ≤ 1000000000 := by omega
                    have rg9 : rg ≤ 1000000000 := by omega
                    have th9 : th ≤ 1000000000 := by have := HA.out; omega
                    have k9 : k ≤ 1000000000 := by omega
                    have k19 : k1 ≤ 1000000001 := by omega
                    have l29 : l2 ≤ 64 := HI6.out.2.2.2
                    have HF := Lib.hid (show PdI W B g n c a b a1 b1 xs ws w3 ∧ a1 ≤ k ∧ k < b1 ∧ Cut a1 b1 k ws ∧ k + 1 = k1 from ⟨⟨hr3, HI6.out.1.2.1.trans ht3, HI6.out.1.2.2.1.trans (hs3.mono HA.out.1 HA.out.2.2.1 (by rw [HI6.out.1.1.len]; have := HA.out; omega)), HI6.out.1.2.2.2.sws hs3 HA.out.1 HA.out.2.2.1⟩, hak, hkb, hcu, hk1⟩)
                    have hlow := PartI.low HF.out.1.2.2.2 (HLW.out.sws HF.out.1.2.2.1) HA.out.1 HA.out.2.2.1
                    have hln := HF.out.1.1.len
                    by_cases hlr : lf < rg
                    · have t1 : (lf : Int) < (rg : Int) := by omega
                      have hC := HIH.out (k - a1) (by have := HA.out; omega) a1 k l2 ws w3 rfl HF.out.1.1 hak (by have := HA.out; omega) l29 (fun h0 t h1 h2 => hlow h0 t h1 (by omega))
                      clear hr3 ht3 hs3 hak hkb hcu hlf hrg hth hk1 hS hlow hlr
                      go_wp2_with fail
                      refine hC.mono ?_
                      rintro e w4 ⟨rfl, zs, hr4, ht4, hs4, hz4⟩
                      have HK := Lib.hid (show PdI W B g n c a b k1 b1 xs zs w4 ∧ a1 < k1 ∧ k1 ≤ b1 from ⟨⟨hr4, HF.out.1.2.1.trans ht4, HF.out.1.2.2.1.trans (hs4.mono HA.out.1 (by have := HF.out; have := HA.out; omega) (by rw [hln]; have := HA.out; omega)), by rw [← HF.out.2.2.2.2]; exact PartI.left HF.out.1.2.2.2 HF.out.2.2.2.1 hs4 hz4 HA.out.1 HA.out.2.2.1 HF.out.2.1 HF.out.2.2.1 (by rw [hln]; have := HA.out; omega)⟩, by have := HF.out; omega, by have := HF.out; omega⟩)
                      clear hr4 ht4 hs4 hz4 hC hln
                      go_wp2_with fail
                      go_roundw
                      case rel => exact ⟨k1, b1, l2, _, _, zs, rfl, rfl, rfl, rfl, rfl, by have := HK.out.2; have := HA.out; omega, HK.out.2.2, HA.out.2.2.1, HI6.out.2.2.2, HK.out.1⟩
                      case measure => have := HK.out.2; have := HA.out; simp [intOf]; omega
                    · have t1 : ¬ (lf : Int) < (rg : Int) := by omega
                      have hC := HIH.out (b1 - k1) (by have := HA.out; omega) k1 b1 l2 ws w3 rfl HF.out.1.1 (by omega) (by have := HA.out; omega) l29 (fun h0 t h1 h2 => by
                        have := hcu.2 t (by omega) h2
                        rw [show k1 - 1 = k by omega]
                        exact this)
                      clear hr3 ht3 hs3 hak hkb hcu hlf hrg hth hS hlow hlr
                      go_wp2_with fail
                      refine hC.mono ?_
                      rintro e w4 ⟨rfl, zs, hr4, ht4, hs4, hz4⟩
                      have HK := Lib.hid (show PdI W B g n c a b a1 k xs zs w4 ∧ a1 ≤ k ∧ k < b1 from ⟨⟨hr4, HF.out.1.2.1.trans ht4, HF.out.1.2.2.1.trans (hs4.mono (by have := HF.out; have := HA.out; omega) HA.out.2.2.1 (by rw [hln]; have := HA.out; omega)), by
                        rw [← hk1] at hs4 hz4
                        exact PartI.right HF.out.1.2.2.2 HF.out.2.2.2.1 hs4 hz4 HA.out.1 HA.out.2.2.1 HF.out.2.1 HF.out.2.2.1 (by rw [hln]; have := HA.out; omega)⟩, HF.out.2.1, HF.out.2.2.1⟩)
                      clear hr4 ht4 hs4 hz4 hC hln hk1
                      go_wp2_with fail
                      go_roundw
                      case rel => exact ⟨a1, k, l2, _, _, zs, rfl, rfl, rfl, rfl, rfl, HA.out.1, HK.out.2.1, by have := HK.out.2; have := HA.out; omega, HI6.out.2.2.2, HK.out.1⟩
                      case measure => have := HK.out.2; have := HA.out; simp [intOf]; omega

end Go.Proofs.YthjikbhjciphiaaGreatDoor

/-
  The library's Sort at words: of a row of one's own, of nil.
-/
namespace Go.Proofs.YthjikbhjciphiaaGreatDoor
open Go.RowKit
set_option linter.unusedVariables false
set_option linter.unusedSimpArgs false

theorem bitLen_small (l : Nat) (hl : l ≤ 1000000000) : Lib.bitLen l ≤ 64 := by
  by_cases h0 : l = 0
  · subst h0; decide
  · have hp := pow_len l (by omega) (by omega)
    rcases Nat.lt_or_ge (Lib.bitLen l) 31 with h | h
    · omega
    · have := Nat.pow_le_pow_right (show 0 < 2 by decide) h
      omega

set_option maxRecDepth 100000 in
theorem sort_any (B g n c : Nat) (hn : n ≤ 1000000000) (xs : List Nat) (W : World) (h : RowN W B g n c xs) :
    Calls Tryz.prog 43 #[.slice (some ⟨g, 0, none⟩) n c] W (SoPost W B g n c fun ys => Sws 0 n xs ys ∧ Srt 0 n ys) := by
  have hB := fun w => Tryz.bits_Len (n : Int) w (by omega) (by omega)
  rw [Int.toNat_natCast] at hB
  have hk := bitLen_small n hn
  obtain ⟨k, hkk⟩ : ∃ k, Lib.bitLen n = k := ⟨_, rfl⟩
  rw [hkk] at hB hk
  have hw : IntKind.u64.wrap (n : Int) = (n : Int) := by rw [IntKind.wrap_u64]; omega
  have hS := pdq_any B g n c hn (n - 0) 0 n k xs W rfl h (Nat.zero_le _) (Nat.le_refl _) hk (fun h => absurd h (by omega))
  clear hkk
  go_enter Tryz.func43, Tryz.ntmps43
  go_wp2_with fail
  refine (hB _).mono ?_
  rintro e w1 ⟨rfl, rfl⟩
  go_wp2_with fail
  refine hS.mono ?_
  rintro e w2 ⟨rfl, zs, h2⟩
  go_wp2_with fail
  go_end0
  exact ⟨rfl, zs, h2⟩

set_option maxRecDepth 100000 in
theorem ins_nil (W : World) : Calls Tryz.prog 102 #[.slice none 0 0, .int .i64 0, .int .i64 0] W fun e W' => e = .returned (.tuple #[]) ∧ W' = W := by
  go_enter Tryz.func102, Tryz.ntmps102
  go_wp2_with fail
  go_loopw [6] (fun vi wr => vi = .int .i64 1 ∧ wr = W) (fun _ _ => 0)
  case atStart => exact ⟨rfl, rfl⟩
  case round =>
    obtain ⟨rfl, rfl⟩ := hrel
    go_wp2_with fail
    go_end0
    exact ⟨rfl, rfl⟩

set_option maxRecDepth 100000 in
set_option maxHeartbeats 4000000 in
theorem pdq_nil (W : World) : Calls Tryz.prog 68 #[.slice none 0 0, .int .i64 0, .int .i64 0, .int .i64 0] W fun e W' => e = .returned (.tuple #[]) ∧ W' = W := by
  have hI := ins_nil W
  go_enter Tryz.func68, Tryz.ntmps68
  go_wp2_with fail
  go_loopw [1, 2, 3, 8, 9] (fun va vb vl v8 v9 wr => va = .int .i64 0 ∧ vb = .int .i64 0 ∧ vl = .int .i64 0 ∧ v8 = .bool true ∧ v9 = .bool true ∧ wr = W) (fun _ _ _ _ _ _ => 0)
  case atStart => exact ⟨rfl, rfl, rfl, rfl, rfl, rfl⟩
  case round =>
    obtain ⟨rfl, rfl, rfl, rfl, rfl, rfl⟩ := hrel
    go_wp2_with fail
    refine hI.mono ?_
    rintro e w2 ⟨rfl, rfl⟩
    go_wp2_with fail
    refine bodyPost_ret (results_none rfl _ _ _) rfl ?_
    exact ⟨rfl, rfl⟩

set_option maxRecDepth 100000 in
theorem sort_nil (W : World) : Calls Tryz.prog 43 #[.slice none 0 0] W fun e W' => e = .returned (.tuple #[]) ∧ W' = W := by
  have hB := fun w => Tryz.bits_Len (0 : Int) w (by omega) (by omega)
  rw [show Lib.bitLen (0 : Int).toNat = 0 from by decide] at hB
  have hw : IntKind.u64.wrap (0 : Int) = 0 := by decide
  have hS := pdq_nil W
  go_enter Tryz.func43, Tryz.ntmps43
  go_wp2_with fail
  refine (hB _).mono ?_
  rintro e w1 ⟨rfl, rfl⟩
  go_wp2_with fail
  refine hS.mono ?_
  rintro e w2 ⟨rfl, rfl⟩
  go_wp2_with fail
  go_end0
  exact ⟨rfl, rfl⟩

end Go.Proofs.YthjikbhjciphiaaGreatDoor
