/-
  The statements of the disk: DiskDoes, by the program's contracts: a step of both disks.
-/
import Derived.Test.YtnjkilmhphcocaaDlB
import Derived.Deep.RegionHeld3
import Derived.Deep.CutRange
import Derived.Deep.CutBlock
namespace Go.Proofs.Ytnjkilmhphcocaa
open Go.RowKit
set_option linter.unusedVariables false
set_option linter.unusedSimpArgs false

theorem RD.step {w w' : World} {S S2 T : Nat → Prop} {p : Nat} {m : Dk} (h : RD w S p m) (ht : Turn T w w') (hT : ∀ k, T k → S k) (hp : ¬ T p) (hs2 : ∀ k, S2 k → k < w.heap.size → S k) (hs : S2 p) (hlt : ∀ k, S2 k → k < w'.heap.size) : RD w' S2 p m := by
  obtain ⟨A, n, c, h1, h2, h3, h4⟩ := h
  have f1 : Fls w (fun k => S k ∨ S2 k) A n m.files := h2.more fun k hk hl => by
    rcases hk with h | h
    · exact h
    · exact hs2 k h hl
  exact ⟨A, n, c, ht.blk h1 hp, (f1.turn (ht.mono fun k hk => .inl (hT k hk))).less fun k hk => .inr hk, hs, hlt⟩

/-- Both disks: the program's stands at m', the reference's at m, which k steps left. -/
def HalfD (PD : World → (Nat → Prop) → Nat → Dk → Prop) (W wr : World) (p q k : Nat) (m m' : Dk) : Prop :=
  OkD k m ∧ SrtF m.files ∧ W.heap.size ≤ p ∧ Turn (fun j => W.heap.size ≤ j) W wr ∧ ∃ S, PD wr S q m' ∧ (∀ j, S j → W.heap.size ≤ j ∧ j ≠ p) ∧ RD wr (fun j => j = p ∨ S j) p m
section
variable {N : Nat} {I : World → Prop} {PD : World → (Nat → Prop) → Nat → Dk → Prop}
theorem HalfD.below (C : DiskC N I PD) {W wr w2 : World} {p q k : Nat} {m m' : Dk} (h : HalfD PD W wr p q k m m') (hb : Below wr.heap.size wr w2) : HalfD PD W w2 p q k m m' := by
  obtain ⟨h1, h2, h6, h7, S, h3, h4, h5⟩ := h
  have ht : Turn (fun _ => False) wr w2 := Turn.of_below hb
  exact ⟨h1, h2, h6, h7.trans (Turn.of_below hb), S, C.turn h3 ht (fun k hk => hk.elim), h4, h5.turn ht (fun k hk => hk.elim) (fun hk => hk)⟩
theorem HalfD.drewN (C : DiskC N I PD) {W wr : World} {p q k : Nat} {m m' : Dk} (h : HalfD PD W wr p q k m m') (r : Nat) : HalfD PD W (wr.drewN r) p q k m m' := h.below C (below_drewN (Below.refl _ _) r)

theorem do9_half (C : DiskC N I PD) (W wr : World) (p q k : Nat) (m : Dk) (s : Sp) (A : Option Addr) (n c : Nat) (h : HalfD PD W wr p q k m m) (hk : k ≤ 199)
    (hl : s.name.length ≤ 100) (hl2 : s.to.length ≤ 100) (hd : s.data.length ≤ 200) (hsn : s.n < 18446744073709551616) (hda : BytS W (fun j => W.heap.size ≤ j) A n s.data) (hnil : A = none → n = 0 ∧ c = 0) (hnc : n ≤ c) (hcm : c ≤ maxLen) :
    Calls Try.prog 9 #[.pointer (some ⟨q, 0, none⟩), spV s A n c] wr fun e W' => e = .returned (.int .i64 (doD m s).1) ∧ HalfD PD W W' p q k m (doD m s).2 := by
  obtain ⟨h1, h2, h6, h7, S, h3, h4, h5⟩ := h
  have hda2 : BytS wr S A n s.data := (hda.turn h7).less fun j hj => (h4 j hj).1
  refine (do9_any C wr S q m s A n c h3 (h1.more (by omega)) hl hl2 hd hsn hda2 hnil hnc hcm).mono ?_
  rintro e W' ⟨S', rfl, hp, hS, ht⟩
  have hplt : p < wr.heap.size := by
    obtain ⟨_, _, _, hB, _⟩ := h5
    exact hB.lt
  have hS4 : ∀ j, S' j → W.heap.size ≤ j ∧ j ≠ p := fun j hj => by
    rcases hS j hj with h | h
    · exact h4 j h
    · have := h7.size
      exact ⟨by omega, by omega⟩
  refine ⟨rfl, h1, h2, h6, h7.trans (ht.mono fun j hj => (h4 j hj).1), S', hp, hS4, ?_⟩
  refine h5.step ht (fun k hk => .inr hk) (fun h => (h4 p h).2 rfl) (fun j hj hl => ?_) (.inl rfl) (fun j hj => ?_)
  · rcases hj with h | h
    · exact .inl h
    · rcases hS j h with h | h
      · exact .inr h
      · omega
  · rcases hj with h | h
    · have := ht.size; omega
    · exact ((C.here hp).2 j h).2

theorem rdo_half (C : DiskC N I PD) (W wr : World) (hN : N ≤ W.heap.size) (p q k : Nat) (m : Dk) (s : Sp) (A : Option Addr) (n c : Nat) (h : HalfD PD W wr p q k m (doD m s).2) (hk : k ≤ 199)
    (hl : s.name.length ≤ 100) (hl2 : s.to.length ≤ 100) (hd : s.data.length ≤ 200) (hsn : s.n < 18446744073709551616) (hda : BytS W (fun j => W.heap.size ≤ j) A n s.data) (hnil : A = none → n = 0 ∧ c = 0) :
    Calls Try.prog 10 #[.pointer (some ⟨p, 0, none⟩), spV s A n c] wr fun e W' => e = .returned (.int .i64 (doD m s).1) ∧ HalfD PD W W' p q (k + 1) (doD m s).2 (doD m s).2 := by
  obtain ⟨h1, h2, h6, h7, S, h3, h4, h5⟩ := h
  have hda2 : BytS wr (fun j => j = p) A n s.data := (hda.turn h7).less fun j hj => by rw [hj]; exact h6
  refine (rdo_any (fun j => j = p ∨ S j) p m s A n c wr h5 (h1.good (by omega)) (by have := h1.calls; omega) h1.left h1.cap (by omega) (by omega) hda2 hnil (by have := hda.1; omega)).mono ?_
  rintro e W' ⟨rfl, hr, ht⟩
  exact ⟨rfl, do_ok s h1 hd hsn, do_srt m s h2, h6, h7.trans (ht.mono fun j hj => by rw [hj]; exact h6), S, C.turn h3 ht (fun j hj => ⟨by rw [hj]; omega, fun hS => (h4 j hS).2 hj⟩), h4, hr⟩
/-- A round's calls, both: what the walk asks of the cells of the step. -/
def StepAt (W : World) (b o k : Nat) (s : Sp) (A : Option Addr) (n c : Nat) (w : World) : Prop :=
  w.cell? ⟨b, o + k * 6, none⟩ = some (.int .i64 s.kind) ∧ w.cell? ⟨b, o + k * 6 + 1, none⟩ = some (.string ⟨s.name.toArray⟩) ∧ w.cell? ⟨b, o + k * 6 + 2, none⟩ = some (.string ⟨s.to.toArray⟩) ∧ w.cell? ⟨b, o + k * 6 + 3, none⟩ = some (.slice A n c) ∧ w.cell? ⟨b, o + k * 6 + 4, none⟩ = some (.int .u64 ((s.n : Nat) : Int)) ∧ w.cell? ⟨b, o + k * 6 + 5, none⟩ = some (.int .i64 s.m)
theorem StepAt.turn {W : World} {b o k : Nat} {s : Sp} {A : Option Addr} {n c : Nat} (h : StepAt W b o k s A n c W) (hb : b < W.heap.size) {w : World} (ht : Turn (fun j => W.heap.size ≤ j) W w) : StepAt W b o k s A n c w := by
  obtain ⟨h0, h1, h2, h3, h4, h5⟩ := h
  have hn : ¬ W.heap.size ≤ b := by omega
  exact ⟨ht.at_ h0 hn, ht.at_ h1 hn, ht.at_ h2 hn, ht.at_ h3 hn, ht.at_ h4 hn, ht.at_ h5 hn⟩
end

theorem Try.infoT : (Try.prog.info? 9).map (fun i => (i.zero, i.size, i.bytes)) = some (some (.string ⟨#[]⟩), 1, 16) := by kernel_rfl

set_option maxRecDepth 100000 in
set_option maxHeartbeats 4000000 in
theorem diskDoes_walk {N : Nat} {I : World → Prop} {PD : World → (Nat → Prop) → Nat → Dk → Prop} (C : DiskC N I PD) (D : DiskA N I PD) (W : World) (hI : I W) (hN : N ≤ W.heap.size) (cap : Int) (hcap : cap < 9223372036854775808)
    (A : Option Addr) (n c : Nat) (ss : List Sp) (hss : Sps W (fun j => W.heap.size ≤ j) A n ss) (hsn : ∀ s ∈ ss, s.n < 18446744073709551616) (hn : n ≤ maxLen) :
    Calls Try.prog 3 #[.int .i64 cap, .slice A n c] W fun e W' => e = .returned (.bool true) ∧ Below W.heap.size W W' := by
  have hLg := large9_any A n c ss _ W hss hn
  have haw := awake9_any C D W hI hN
  have hnew := D.new W cap hI hN hcap
  have HI := Lib.hid (And.intro hI (And.intro hN (And.intro hcap (And.intro hss hsn))))
  clear hI hss hsn hcap
  cases hlg : largeS ss
  · obtain ⟨hl90, hsm⟩ := largeS_false ss hlg
    rw [hlg] at hLg
    have HL := Lib.hid (And.intro hl90 hsm)
    have hn90 : n ≤ 90 := by have := HI.out.2.2.2.1.1; omega
    clear haw hlg hn hl90 hsm
    obtain ⟨M, hM⟩ : ∃ M : Int, max cap 0 = M := ⟨_, rfl⟩
    have hmx : (if 0 < cap then cap else 0) = M := by rw [← hM]; split <;> omega
    go_enter Try.func3, Try.ntmps3
    go_wp2_with fail
    refine hLg.mono ?_
    rintro e W1 ⟨rfl, rfl⟩
    clear hLg
    go_wp2_with fail
    refine hnew.mono ?_
    rintro e W2 ⟨q, S1, rfl, hp1, hS1, hb1⟩
    have H2 := Lib.hid (And.intro hp1 (And.intro hS1 hb1))
    have HM := Lib.hid hM
    clear hnew hp1 hS1 hb1 hmx hM
    go_upto_region 4 with fail
    go_cut [6] from 18 to 21 (fun s6 wx => s6 = .pointer (some ⟨W2.heap.size, 0, none⟩) ∧ wx = W2.alloc (.cells #[.slice none 0 0, .int .i64 M, .int .u64 0, .bool false, .int .u64 0, .int .i64 0, .bool false] 31))
    case first =>
      go_wp2_with fail
      all_goals
        go_meet
        have := HM.out
        refine ⟨rfl, ?_⟩
        first
          | (have e : cap = M := by omega
             rw [e])
          | (have e : (0 : Int) = M := by omega
             rw [← e])
    case rest =>
      obtain ⟨rfl, rfl⟩ := hcut
      obtain ⟨p, hp⟩ : ∃ p, W2.heap.size = p := ⟨_, rfl⟩
      have HH0 : Hid (HalfD PD W1 (W2.alloc (.cells #[.slice none 0 0, .int .i64 M, .int .u64 0, .bool false, .int .u64 0, .int .i64 0, .bool false] 31)) p q 0 (newD cap) (newD cap)) := Lib.hid (by
        obtain ⟨h1, h2, h3⟩ := H2.out
        have hx := (C.here h1).2
        have hsz : (W2.alloc (.cells #[.slice none 0 0, .int .i64 M, .int .u64 0, .bool false, .int .u64 0, .int .i64 0, .bool false] 31)).heap.size = W2.heap.size + 1 := by simp
        have h3s := h3.size
        refine ⟨new_ok cap HI.out.2.2.1, List.Pairwise.nil, by omega, (Turn.of_below h3).alloc _, S1, C.turn h1 ((Turn.refl (fun _ => False) W2).alloc _) (fun k hk => hk.elim), fun j hj => ⟨h2 j hj, by have := (hx j hj).2; omega⟩, none, 0, 0, ?_, Fls.nil, .inl rfl, fun k hk => ?_⟩
        · rw [← hp]
          refine Blk.new W2 _ _ ?_
          rw [← HM.out]
          rfl
        · rw [hsz]
          rcases hk with h | h
          · omega
          · have := (hx k h).2; omega)
      rw [hp]
      have HP := Lib.hid hp
      clear hp
      revert HH0
      generalize W2.alloc (.cells #[.slice none 0 0, .int .i64 M, .int .u64 0, .bool false, .int .u64 0, .int .i64 0, .bool false] 31) = w0
      intro HH0
      go_wp2_with fail
      go_loopw [7, 8, 9, 10] (fun i _ _ _ wr => ∃ (k : Nat) (m : Dk), k ≤ n ∧ i = .int .i64 k ∧ HalfD PD W1 wr p q k m m) (fun i _ _ _ _ => n - (intOf i).toNat)
      case atStart => exact ⟨0, newD cap, Nat.zero_le _, rfl, HH0.out⟩
      case round =>
        obtain ⟨k, m, hk, rfl, hH⟩ := hrel
        by_cases hlt : k < n
        · obtain ⟨s, hs⟩ : ∃ s, ss[k]? = some s := ⟨_, List.getElem?_eq_getElem (by have := HI.out.2.2.2.1.1; omega)⟩
          have hsm := HL.out.2 s (List.mem_of_getElem? hs)
          have hsb := HI.out.2.2.2.2 s (List.mem_of_getElem? hs)
          obtain ⟨b, o, rfl, hbS, hfa⟩ := HI.out.2.2.2.1.2 (by omega)
          obtain ⟨y0, y1, y2, y3, y4, y5, hc, hv⟩ := hfa k s hs
          obtain ⟨A2, n2, c2, rfl, rfl, rfl, rfl, rfl, rfl, hby, hnil2, hnc2, hcm2⟩ := sp_parts hv
          have hbw : b < W1.heap.size := Nat.not_le.1 hbS
          have HSA : Hid (∀ w, Turn (fun j => W1.heap.size ≤ j) W1 w → StepAt W1 b o k s A2 n2 c2 w) := Lib.hid (fun w ht => StepAt.turn (W := W1) hc hbw ht)
          have hDo := fun w (h : HalfD PD W1 w p q k m m) => do9_half C W1 w p q k m s A2 n2 c2 h (by omega) hsm.2.1 hsm.2.2 hsm.1 hsb hby hnil2 hnc2 hcm2
          have hRo := fun w (h : HalfD PD W1 w p q k m (doD m s).2) => rdo_half C W1 w hN p q k m s A2 n2 c2 h (by omega) hsm.2.1 hsm.2.2 hsm.1 hsb hby hnil2
          have HS := Lib.hid (And.intro hs (And.intro hsm hsb))
          clear hfa hc hv hby hnil2 hnc2 hcm2 hs hsm hsb hbS
          have HH := Lib.hid hH
          obtain ⟨z0, z1, z2, z3, z4, z5⟩ := HSA.out wr hH.2.2.2.1
          clear hH
          have i0 : (0 : Int) ≤ (k : Int) := by omega
          have i1 : (k : Int) < (n : Int) := by omega
          obtain ⟨r, hr⟩ : ∃ r, (doD m s).1 = r := ⟨_, rfl⟩
          obtain ⟨m2, hm2⟩ : ∃ m2, (doD m s).2 = m2 := ⟨_, rfl⟩
          rw [hr, hm2] at hDo hRo
          clear hr
          unfold spV at hDo hRo
          have drr : (r != r) = false := by simp
          have drr2 : (r == r) = true := by simp
          go_wp2_with fail
          go_cut [40] from 28 to 39 (fun s40 wx => s40 = .bool false ∧ HalfD PD W1 wx p q (k + 1) m2 m2)
          case first =>
            go_region_held3 (fun w' => w'.cell? ⟨b, o + k * 6, none⟩ = some (.int .i64 s.kind) ∧ w'.cell? ⟨b, o + k * 6 + 1, none⟩ = some (.string ⟨s.name.toArray⟩) ∧ w'.cell? ⟨b, o + k * 6 + 2, none⟩ = some (.string ⟨s.to.toArray⟩) ∧ w'.cell? ⟨b, o + k * 6 + 3, none⟩ = some (.slice A2 n2 c2) ∧ w'.cell? ⟨b, o + k * 6 + 4, none⟩ = some (.int .u64 ((s.n : Nat) : Int)) ∧ w'.cell? ⟨b, o + k * 6 + 5, none⟩ = some (.int .i64 s.m))
              (first | exact ⟨v0, v1, v2, v3, v4, v5⟩ | exact ⟨t0, t1, t2, t3, t4, t5⟩ | exact ⟨z0, z1, z2, z3, z4, z5⟩ | go_keep)
              ((first
                | (go_at_call 9; refine (hDo _ (HH.out.drewN C 1)).mono ?_; rintro e w7 ⟨rfl, hh7⟩; obtain ⟨t0, t1, t2, t3, t4, t5⟩ := HSA.out w7 hh7.2.2.2.1)
                | (go_at_call 10; refine (hRo _ hh7).mono ?_; rintro e w8 ⟨rfl, hh8⟩; obtain ⟨v0, v1, v2, v3, v4, v5⟩ := HSA.out w8 hh8.2.2.2.1)))
            all_goals
              go_wp2_with fail
              go_meet
              exact ⟨rfl, hh8⟩
          case rest =>
            obtain ⟨rfl, hH⟩ := hcut
            have HH1 := Lib.hid hH
            have HSm := Lib.hid (HS.out.2.1.2.1)
            obtain ⟨_, t1, _, _, _, _⟩ := HSA.out wc hH.2.2.2.1
            obtain ⟨h1, h2, h6, h7, S, h3, h4, h5⟩ := hH
            have hRd := D.read wc S q m2 s.name h3 (h1.more (by omega)) HSm.out
            obtain ⟨ec, hec⟩ : ∃ ec, (readD m2 s.name).1 = ec := ⟨_, rfl⟩
            obtain ⟨bs, hbs⟩ : ∃ bs, (readD m2 s.name).2 = bs := ⟨_, rfl⟩
            rw [hec, hbs] at hRd
            have HRD := Lib.hid (And.intro hec hbs)
            clear h1 h2 h6 h7 h3 h4 h5 hec hbs z0 z1 z2 z3 z4 z5 hm2 hDo hRo drr drr2 HH
            go_wp2_with fail
            refine hRd.mono ?_
            rintro e w3 ⟨v, rfl, hown, hb3⟩
            obtain ⟨A5, c5, rfl, hnil5, _⟩ := own_form hown
            have hH3 := HH1.out.below C hb3
            obtain ⟨_, z1, _, _, _, _⟩ := HSA.out w3 hH3.2.2.2.1
            have HBY := Lib.hid (Byt.of_own hown)
            have HH3 := Lib.hid hH3
            obtain ⟨h1, h2, h6, h7, S, h3, h4, Af, nf, cf, hBp, hFp, _⟩ := hH3
            have e0 : w3.cell? ⟨p, 0, none⟩ = some (.slice Af nf cf) := hBp.cell 0
            have hfi := fun r => find_any Af nf cf m2.files ⟨s.name.toArray⟩ _ (w3.drewN r) (hFp.turn ((Turn.refl _ w3).drewN r)) (by have h8 := hFp.1; have h9 := h1.len; omega)
            simp only [List.toList_toArray] at hfi
            clear hRd hown hb3 h1 h2 h6 h7 h3 h4 hBp hFp t1 HH1
            go_wp2_with fail
            go_quiet ((go_at_call 12; exact Calls.quiet_of_same (hfi _)))
            have HH4 : Hid (HalfD PD W1 (w3.drewN nq) p q (k + 1) m2 m2) := Lib.hid (HH3.out.drewN C nq)
            have HB4 : Hid (Byt (w3.drewN nq) (w3.drewN nq).heap.size A5 bs.length bs) := Lib.hid (HBY.out.below (below_drewN (Below.refl _ _) nq))
            revert HH4 HB4
            generalize w3.drewN nq = w4
            intro HH4 HB4
            clear e0 hfi z1 HH3 HBY
            go_upto_block 2 with fail
            obtain ⟨z, hz⟩ : ∃ z, findN s.name m2.files 0 = z := ⟨_, rfl⟩
            rw [hz]
            have HZ := Lib.hid hz
            clear hz
            go_cut [61] from 62 to 118 (fun _ wx => HalfD PD W1 wx p q (k + 1) m2 m2)
            case first =>
              obtain ⟨h1, h2, h6, h7, S, h3, h4, Ag, ng, cg, hBg, hFg, _⟩ := HH4.out
              have e0 : w4.cell? ⟨p, 0, none⟩ = some (.slice Ag ng cg) := hBg.cell 0
              have e6 : w4.cell? ⟨p, 6, none⟩ = some (.bool m2.down) := hBg.cell 6
              obtain ⟨hr1, hr2⟩ := HRD.out
              cases hd : m2.down
              · rw [hd] at e6
                rcases findN_spec s.name m2.files 0 with ⟨f1, f2⟩ | ⟨j, f, f1, f2, f3⟩
                · have hr : readD m2 s.name = (8, []) := by unfold readD; rw [hd, f2]; rfl
                  rw [hr] at hr1 hr2
                  rw [HZ.out] at f1
                  subst f1
                  subst hr1
                  subst hr2
                  clear f2 h1 h2 h6 h7 h3 h4 hBg hFg hd hr
                  go_wp2_with fail
                  go_meet
                  exact HH4.out
                · have hr : readD m2 s.name = (0, f.data) := by unfold readD; rw [hd, f3]; rfl
                  rw [hr] at hr1 hr2
                  rw [HZ.out, Nat.zero_add] at f1
                  subst f1
                  subst hr1
                  subst hr2
                  have hjn : j < ng := by
                    have h8 := hFg.1
                    have h9 := (List.getElem?_eq_some_iff.1 f2).1
                    omega
                  have i2 : (j : Int) < (ng : Int) := by omega
                  have i3 : (0 : Int) ≤ (j : Int) := by omega
                  have d1 : decide ((j : Int) < 0) = false := decide_eq_false (by omega)
                  have d2 : decide ((j : Int) ≥ 0) = true := decide_eq_true (by omega)
                  have d3 : decide ((0 : Int) ≤ (j : Int)) = true := decide_eq_true (by omega)
                  obtain ⟨bf, of, rfl, _, hfa⟩ := hFg.2 (by omega)
                  obtain ⟨x0, x1, x2, q0, q1, q2, hfv⟩ := hfa j f f2
                  obtain ⟨A6, n6, c6, rfl, rfl, rfl, hby6, _⟩ := fl_parts hfv
                  have hSm := same_any A5 A6 f.data.length c5 n6 c6 f.data f.data w4.heap.size w4 HB4.out hby6.byt (by have h8 := mem_size m2.files f (List.mem_of_getElem? f2); have h9 := h1.size; omega)
                  simp only [decide_true] at hSm
                  clear f2 f3 h1 h2 h6 h7 h3 h4 hBg hFg hd hr hfa hfv hby6 q0 q2 hjn
                  go_wp2_with fail
                  refine hSm.mono ?_
                  rintro e w5 ⟨rfl, r5, hw5⟩
                  have HH5 : Hid (HalfD PD W1 w5 p q (k + 1) m2 m2) := Lib.hid (by rw [hw5]; exact HH4.out.drewN C r5)
                  clear hSm hw5
                  go_wp2_with fail
                  go_meet
                  exact HH5.out
              · rw [hd] at e6
                have hr : readD m2 s.name = (19, []) := by unfold readD; rw [hd]; rfl
                rw [hr] at hr1 hr2
                subst hr1
                subst hr2
                clear h1 h2 h6 h7 h3 h4 hBg hFg hd hr
                go_wp2_with fail
                go_meet
                exact HH4.out
            case rest =>
              have HHc := Lib.hid hcut
              obtain ⟨h1, h2, h6, h7, S, h3, h4, Ag, ng, cg, hBg, hFg, _⟩ := hcut
              obtain rfl : ng = m2.files.length := hFg.1.symm
              obtain ⟨CC, hCC⟩ : ∃ CC, m2.calls = CC := ⟨_, rfl⟩
              obtain ⟨DD, hDD⟩ : ∃ DD, m2.down = DD := ⟨_, rfl⟩
              obtain ⟨ZZ, hZZ⟩ : ∃ ZZ, sizeF m2.files = ZZ := ⟨_, rfl⟩
              obtain ⟨SG, hSG⟩ : ∃ SG : Nat → Prop, SG = (fun j => j = p ∨ S j) := ⟨_, rfl⟩
              rw [← hSG] at hFg
              have z0 : wc.cell? ⟨p, 0, none⟩ = some (.slice Ag m2.files.length cg) := hBg.cell 0
              have z2 : wc.cell? ⟨p, 2, none⟩ = some (.int .u64 ((CC : Nat) : Int)) := by rw [← hCC]; exact hBg.cell 2
              have z6 : wc.cell? ⟨p, 6, none⟩ = some (.bool DD) := by rw [← hDD]; exact hBg.cell 6
              have hplt := hBg.lt
              have hNn : m2.files.length ≤ 1000000 := by have := h1.len; omega
              have hBn : ∀ f ∈ m2.files, f.data.length ≤ 1000000 := fun f hf => by have h8 := mem_size m2.files f hf; have h9 := h1.size; omega
              have hFgd : Fls wc.drew SG Ag m2.files.length m2.files := hFg.turn ((Turn.refl SG wc).drewN 1)
              have hFil := fun w (h : HalfD PD W1 w p q (k + 1) m2 m2) => (show Calls Try.prog 15 #[.pointer (some ⟨q, 0, none⟩)] w fun e W' => ∃ v xs, e = .returned v ∧ W'.ownsRow w.heap.size 43 3 v m2.files.length xs ∧ Fx W' (fun k => k < w.heap.size) xs m2.files ∧ Below w.heap.size w W' from by
                obtain ⟨g1, g2, _, _, S9, g3, _⟩ := h
                exact D.files w S9 q m2 g3 (g1.more (by omega)) g2)
              have hCal := fun w (h : HalfD PD W1 w p q (k + 1) m2 m2) => (show Calls Try.prog 16 #[.pointer (some ⟨q, 0, none⟩)] w fun e W' => e = .returned (.int .u64 ((CC : Nat) : Int)) ∧ Below w.heap.size w W' from by
                obtain ⟨g1, g2, _, _, S9, g3, _⟩ := h
                rw [← hCC]
                exact D.calls w S9 q m2 g3 (g1.more (by omega)))
              have hDwn := fun w (h : HalfD PD W1 w p q (k + 1) m2 m2) => (show Calls Try.prog 17 #[.pointer (some ⟨q, 0, none⟩)] w fun e W' => e = .returned (.bool DD) ∧ Below w.heap.size w W' from by
                obtain ⟨g1, g2, _, _, S9, g3, _⟩ := h
                rw [← hDD]
                exact D.down w S9 q m2 g3 (g1.more (by omega)))
              have hSiz := fun w (h : HalfD PD W1 w p q (k + 1) m2 m2) => (show Calls Try.prog 18 #[.pointer (some ⟨q, 0, none⟩)] w fun e W' => e = .returned (.int .i64 ((ZZ : Nat) : Int)) ∧ Below w.heap.size w W' from by
                obtain ⟨g1, g2, _, _, S9, g3, _⟩ := h
                rw [← hZZ]
                exact D.size w S9 q m2 g3 (g1.more (by omega)))
              have hRsz := fun w (h : Fls w SG Ag m2.files.length m2.files) => (show Calls Try.prog 19 #[.slice Ag m2.files.length cg] w fun e W' => e = .returned (.int .i64 ((ZZ : Nat) : Int)) ∧ Below w.heap.size w W' from by
                rw [← hZZ]
                refine (size_any Ag m2.files.length cg m2.files SG w h (by omega) (by have := h1.size; omega)).mono ?_
                rintro e W' ⟨g1, g2⟩
                exact ⟨g1, by rw [g2]; exact Below.refl _ _⟩)
              have HQ := Lib.hid (And.intro hNn hBn)
              have dCC : (((CC : Nat) : Int) != ((CC : Nat) : Int)) = false := by simp
              have dZZ : (((ZZ : Nat) : Int) != ((ZZ : Nat) : Int)) = false := by simp
              have dDD : (DD != DD) = false := by simp
              have dD2 : (!DD == DD) = false := by cases DD <;> rfl
              clear h1 h2 h6 h7 h3 h4 hBg hFg hCC hDD hZZ hSG
              go_wp2_with fail
              go_cut [154] from 119 to 153 (fun s154 wx => s154 = .bool false ∧ HalfD PD W1 wx p q (k + 1) m2 m2)
              case first =>
                go_region_held3 (fun w' => w'.cell? ⟨p, 0, none⟩ = some (.slice Ag m2.files.length cg) ∧ w'.cell? ⟨p, 2, none⟩ = some (.int .u64 ((CC : Nat) : Int)) ∧ w'.cell? ⟨p, 6, none⟩ = some (.bool DD))
                  (first | exact ⟨r0, r2, r6⟩ | exact ⟨q0, q2, q6⟩ | exact ⟨y0, y2, y6⟩ | exact ⟨x0, x2, x6⟩ | exact ⟨u0, u2, u6⟩ | exact ⟨t0, t2, t6⟩ | exact ⟨z0, z2, z6⟩ | go_keep)
              ((first
                | (go_at_call 15; refine (hFil _ (HHc.out.drewN C 1)).mono ?_; rintro e w7 ⟨v7, xs7, rfl, hown7, hx7, hb7⟩; obtain ⟨A7, c7, rfl, _, _, _⟩ := own_formk hown7; have hh7 := (HHc.out.drewN C 1).below C hb7; have hF7 := Fls.of_own hown7 hx7 (fun k hk => hk); have t0 := (hb7.cell (p := ⟨p, 0, none⟩) hplt).trans z0; have t2 := (hb7.cell (p := ⟨p, 2, none⟩) hplt).trans z2; have t6 := (hb7.cell (p := ⟨p, 6, none⟩) hplt).trans z6; have hp7 : p < w7.heap.size := Nat.lt_of_lt_of_le hplt hb7.size; have hG7 := (hFgd.turn (Turn.of_below hb7)))
                | (go_at_call 14; refine (same9_any A7 Ag _ c7 cg m2.files _ _ w7 hF7 hG7 hNn hBn).mono ?_; rintro e w8 ⟨rfl, r8, hw8⟩; have hh8 : HalfD PD W1 w8 p q (k + 1) m2 m2 := (by rw [hw8]; exact hh7.drewN C r8); have hG8 : Fls w8 SG Ag m2.files.length m2.files := (by rw [hw8]; exact hG7.turn ((Turn.refl _ w7).drewN r8)); have u0 : w8.cell? ⟨p, 0, none⟩ = some (.slice Ag m2.files.length cg) := (by rw [hw8]; exact t0); have u2 : w8.cell? ⟨p, 2, none⟩ = some (.int .u64 ((CC : Nat) : Int)) := (by rw [hw8]; exact t2); have u6 : w8.cell? ⟨p, 6, none⟩ = some (.bool DD) := (by rw [hw8]; exact t6); have hp8 : p < w8.heap.size := (by rw [hw8]; exact hp7); clear hw8)
                | (go_at_call 17; refine (hDwn _ hh9).mono ?_; rintro e w10 ⟨rfl, hb10⟩; have hh10 := hh9.below C hb10; have y0 := (hb10.cell (p := ⟨p, 0, none⟩) hp9).trans x0; have y2 := (hb10.cell (p := ⟨p, 2, none⟩) hp9).trans x2; have y6 := (hb10.cell (p := ⟨p, 6, none⟩) hp9).trans x6; have hp10 : p < w10.heap.size := Nat.lt_of_lt_of_le hp9 hb10.size; have hG10 := (hG9.turn (Turn.of_below hb10)))
                | (go_at_call 18; refine (hSiz _ hh10).mono ?_; rintro e w11 ⟨rfl, hb11⟩; have hh11 := hh10.below C hb11; have q0 := (hb11.cell (p := ⟨p, 0, none⟩) hp10).trans y0; have q2 := (hb11.cell (p := ⟨p, 2, none⟩) hp10).trans y2; have q6 := (hb11.cell (p := ⟨p, 6, none⟩) hp10).trans y6; have hp11 : p < w11.heap.size := Nat.lt_of_lt_of_le hp10 hb11.size; have hG11 := (hG10.turn (Turn.of_below hb11)))
                | (go_at_call 19; refine (hRsz _ hG11).mono ?_; rintro e w12 ⟨rfl, hb12⟩; have hh12 := hh11.below C hb12; have r0 := (hb12.cell (p := ⟨p, 0, none⟩) hp11).trans q0; have r2 := (hb12.cell (p := ⟨p, 2, none⟩) hp11).trans q2; have r6 := (hb12.cell (p := ⟨p, 6, none⟩) hp11).trans q6)
                | (go_at_call 16; refine (hCal _ hh8).mono ?_; rintro e w9 ⟨rfl, hb9⟩; have hh9 := hh8.below C hb9; have x0 := (hb9.cell (p := ⟨p, 0, none⟩) hp8).trans u0; have x2 := (hb9.cell (p := ⟨p, 2, none⟩) hp8).trans u2; have x6 := (hb9.cell (p := ⟨p, 6, none⟩) hp8).trans u6; have hp9 : p < w9.heap.size := Nat.lt_of_lt_of_le hp8 hb9.size; have hG9 := (hG8.turn (Turn.of_below hb9)))))
                all_goals
                  go_wp2_with fail
                  go_meet
                  exact ⟨rfl, hh12⟩
              case rest =>
                obtain ⟨rfl, hH9⟩ := hcut
                have HH9 := Lib.hid hH9
                clear hH9
                go_wp2_with fail
                go_roundw
                case rel => exact ⟨k + 1, m2, by omega, by go_num, HH9.out⟩
                case measure => simp [intOf]; omega
        · have HHk := Lib.hid hH
          obtain ⟨h1, h2, h6, h7, S, h3, h4, Ag, ng, cg, hBg, hFg, _⟩ := hH
          obtain rfl : ng = m.files.length := hFg.1.symm
          have z0 : wr.cell? ⟨p, 0, none⟩ = some (.slice Ag m.files.length cg) := hBg.cell 0
          have hplt := hBg.lt
          have hlen : m.files.length ≤ 200 := by have := h1.len; omega
          have HFG := Lib.hid hFg
          obtain ⟨i0, hi0, hz0, hz1, hz2⟩ := info_parts Try.infoT
          clear h1 h2 h6 h7 h3 h4 hBg hFg
          obtain ⟨wa, rfl⟩ : ∃ wa, wa = wr := ⟨_, rfl⟩
          go_wp2_with fail
          go_loopw [11, 12] (fun v i w => ∃ j : Nat, j ≤ m.files.length ∧ i = .int .i64 j ∧ w.ownsRow wa.heap.size 9 1 v j (wsV ((m.files.map Fl.name).take j)) ∧ Below wa.heap.size wa w) (fun _ i _ => m.files.length - (intOf i).toNat)
          case atStart => exact ⟨0, Nat.zero_le _, rfl, World.ownsRow_nil _ _ _ _, Below.refl _ _⟩
          case round =>
            obtain ⟨j, hj, rfl, hown, hb⟩ := hrel
            have e0 : wr.cell? ⟨p, 0, none⟩ = some (.slice Ag m.files.length cg) := (hb.cell (p := ⟨p, 0, none⟩) hplt).trans z0
            by_cases hjl : j < m.files.length
            · obtain ⟨f, hf⟩ : ∃ f, m.files[j]? = some f := ⟨_, List.getElem?_eq_getElem hjl⟩
              obtain ⟨b, o, rfl, _, hfa⟩ := (HFG.out.turn (Turn.of_below hb)).2 (by omega)
              obtain ⟨x0, x1, x2, q0, q1, q2, hv⟩ := hfa j f hf
              obtain ⟨A6, n6, c6, rfl, rfl, rfl, _⟩ := fl_parts hv
              obtain ⟨T, hT⟩ : ∃ T : ByteArray, ⟨f.name.toArray⟩ = T := ⟨_, rfl⟩
              rw [hT] at q0
              have HW : Hid (wsV ((m.files.map Fl.name).take (j + 1)) = wsV ((m.files.map Fl.name).take j) ++ [.string T]) := Lib.hid (by
                rw [List.take_add_one, List.getElem?_map, hf, ← hT]
                simp [wsV])
              have hbs := hb.size
              have i2 : (j : Int) < (m.files.length : Int) := by omega
              have i3 : (0 : Int) ≤ (j : Int) := by omega
              clear hfa hv hf hT q1 q2
              go_wp2_with (at_builtin; refine wpList_append_vals _ rfl _ _ 49 rfl wa.heap.size 9 i0 (.string ⟨#[]⟩) 16 Try.underlying49 hi0 hz0 hz1 hz2 rfl _ _ _ rfl (hown.alloc _) (wr.heap.size + 1) _ 1 1 [.string T] rfl ?c1 (fun h => by cases h) (fun u hu => by simp at hu; subst hu; rfl) ?c4 ?c5 ?c6 ?_)
              case c1 => exact Vals.one _ _ _ rfl _
              case c4 => omega
              case c5 => omega
              case c6 => first | omega | (simp; omega)
              intro v' w3 hown' hgrow
              have hb' := own_step hb (Nat.le_refl _) hown hgrow
              have HO := Lib.hid hown'
              clear hown hgrow hb hown' e0 q0 i2 i3
              go_wp2
              go_roundw
              case rel => exact ⟨j + 1, by omega, by go_num, by rw [HW.out]; exact HO.out, hb'⟩
              case measure => simp [intOf]; omega
            · obtain rfl : j = m.files.length := by omega
              obtain ⟨A4, c4, rfl, _, _, _⟩ := own_formk hown
              have hHb := HHk.out.below C hb
              obtain ⟨h1, h2, h6, h7, S, h3, _⟩ := hHb
              have hLi := D.list wr S q m h3 (h1.more (by omega)) h2
              have hHV := Vals.of_own hown
              rw [List.take_of_length_le (by simp)] at hHV
              have HV := Lib.hid hHV
              have HT7 := Lib.hid h7
              clear h1 h2 h6 h7 h3 hown hb hHV hj
              go_wp2_with fail
              refine hLi.mono ?_
              rintro e w5 ⟨v5, rfl, hown5, hb5⟩
              obtain ⟨A5, c5, rfl, _, _, _⟩ := own_formk hown5
              have hTx := texts_any A5 A4 m.files.length c5 m.files.length c4 (m.files.map Fl.name) w5.heap.size w5 (Vals.of_own hown5) ((HV.out.below hb5).more hb5.size) (by omega)
              have HT8 : Hid (Turn (fun j => W1.heap.size ≤ j) W1 w5) := Lib.hid (HT7.out.trans (Turn.of_below hb5))
              clear hLi hown5 hb5 e0
              go_wp2_with fail
              refine hTx.mono ?_
              rintro e w6 ⟨rfl, r6, hw6⟩
              have hT6 : Turn (fun j => W1.heap.size ≤ j) W1 w6 := by rw [hw6]; exact HT8.out.drewN r6
              have haw := awake9_any C D w6 (C.iturn HI.out.1 hT6 (fun k hk => by omega)) (by have := hT6.size; omega)
              have HT9 := Lib.hid hT6
              clear hTx hw6 hT6
              go_wp2_with fail
              refine haw.mono ?_
              rintro e w7 ⟨rfl, hb7⟩
              have HB := Lib.hid (bthen (HT9.out.below (Nat.le_refl _) (fun k hk => hk)) hb7)
              clear haw hb7
              go_wp2_with fail
              go_ret
              exact ⟨rfl, HB.out⟩
  · rw [hlg] at hLg
    clear hnew HI hlg hn
    go_enter Try.func3, Try.ntmps3
    go_wp2_with fail
    refine hLg.mono ?_
    rintro e W1 ⟨rfl, rfl⟩
    clear hLg
    go_wp2_with fail
    refine haw.mono ?_
    rintro e W2 ⟨rfl, hb⟩
    have HB := Lib.hid hb
    clear haw hb
    go_wp2_with fail
    go_ret
    exact ⟨rfl, HB.out⟩

end Go.Proofs.Ytnjkilmhphcocaa
