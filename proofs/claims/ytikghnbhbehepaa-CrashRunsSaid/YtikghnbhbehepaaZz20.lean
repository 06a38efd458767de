/-
  The third statement: work up to the first call that is refused.
-/
import Derived.Test.YtikghnbhbehepaaZz19
import Derived.Test.YtikghnbhbehepaaZz9
import Derived.Test.YtikghnbhbehepaaZz11
import Derived.ChangeArms
namespace Go.Proofs.Ytikghnbhbehepaa
open Go.RowKit
set_option linter.unusedVariables false
set_option linter.unusedSimpArgs false

/-- How the reference stands ahead of the k-th call: what is to come, or the answer at which it ended. -/
def MustAt (m0 : Dk) (C : List Wk) (k : Nat) (m : Dk) (want : Int) : Prop :=
  (want = 0 ∧ (workD (fun e => e != 0) m0 C).2 = (workD (fun e => e != 0) m (C.drop k)).2) ∨ (want ≠ 0 ∧ (workD (fun e => e != 0) m0 C).2 = (m, want))
theorem MustAt.step {m0 m : Dk} {C : List Wk} {k : Nat} {o : Wk} (h : MustAt m0 C k m 0) (ho : C[k]? = some o) (hw : isWk o = true) : MustAt m0 C (k + 1) (doD m o.sp).2 (doD m o.sp).1 := by
  have hd : C.drop k = o :: C.drop (k + 1) := by
    obtain ⟨hk, he⟩ := List.getElem?_eq_some_iff.1 ho
    rw [List.drop_eq_getElem_cons hk, he]
  rcases h with ⟨_, h⟩ | ⟨h, _⟩
  · rw [hd] at h
    by_cases h0 : (doD m o.sp).1 = 0
    · rw [workD_go _ _ _ _ hw (by rw [h0]; rfl)] at h
      exact .inl ⟨h0, h⟩
    · rw [workD_stop _ _ _ _ hw (by simpa using h0)] at h
      exact .inr ⟨h0, h⟩
  · exact absurd rfl h
theorem MustAt.done {m0 m : Dk} {C : List Wk} {k : Nat} {want : Int} (h : MustAt m0 C k m want) (hk : C.length ≤ k ∨ want ≠ 0) : (workD (fun e => e != 0) m0 C).2 = (m, want) := by
  rcases h with ⟨h0, h⟩ | ⟨_, h⟩
  · rcases hk with hk | hk
    · rw [List.drop_eq_nil_of_le hk] at h
      rw [h, h0]
      rfl
    · exact absurd h0 hk
  · exact h

set_option maxRecDepth 100000 in
set_option maxHeartbeats 4000000 in
theorem crashMusts_law (cap : Int) (A : Option Addr) (n c : Nat) (l : List Wk) (place : Nat) (W : World) (hcap : cap < 9223372036854775808) (hpl : place < 18446744073709551616) (hl : Wks W (fun k => W.heap.size ≤ k) A n l) (hn : n ≤ maxLen) :
    Calls Try.prog 5 #[.int .i64 cap, .slice A n c, .int .u64 ((place : Nat) : Int)] W fun e W' => e = .returned (.bool true) ∧ Below W.heap.size W W' := by
  have hLg := large10_any A n c l _ W hl hn
  cases hlg : largeW l
  · rw [hlg] at hLg
    have hs : SmallW l := largeW_false l hlg
    have hNw := pnew_any W cap hcap
    obtain ⟨M, hM⟩ : ∃ M : Int, max cap 0 = M := ⟨_, rfl⟩
    obtain ⟨C, hC⟩ : ∃ C, l.filter isWk = C := ⟨_, rfl⟩
    obtain ⟨N, hN⟩ : ∃ N, C.length = N := ⟨_, rfl⟩
    have hsC : SmallW C := by rw [← hC]; exact hs.filter
    have hwC : ∀ o ∈ C, isWk o = true := fun o ho => by rw [← hC] at ho; exact (List.mem_filter.1 ho).2
    have hN60 : N ≤ 60 := by have := hsC.1; omega
    have HL := Lib.hid (And.intro hl (And.intro hs (And.intro hwC (And.intro hC (And.intro hN (And.intro hsC (And.intro hcap hM)))))))
    have hO0 : OkD 0 (armD (newD cap) place 0) := by
      have h := newD_ok cap hcap
      exact ⟨h.len, h.size, h.sure, h.calls, hpl, h.cap⟩
    have HO := Lib.hid hO0
    clear hl hs hn hlg hC hN hwC hsC hcap hM hO0
    go_enter Try.func5, Try.ntmps5
    go_wp2_with fail
    refine hLg.mono ?_
    rintro e w2 ⟨rfl, rfl⟩
    clear hLg
    go_wp2_with fail
    refine hNw.mono ?_
    rintro e W1 ⟨q, S1, rfl, ⟨mb, l1, kp, L, G, hp1⟩, hS1, hb1⟩
    have hAr := parm_any W1 place 0 hpl hp1
    have H1 := Lib.hid (And.intro hp1.sq (And.intro hS1 hb1))
    clear hNw hp1 hS1 hb1
    go_wp2_with fail
    refine hAr.mono ?_
    rintro e W2 ⟨rfl, hp2, ht2⟩
    have hPD2 : PD W2 S1 q (armD (newD cap) place 0) := ⟨_, _, _, _, _, hp2⟩
    have hT2 : Turn (fun k => w2.heap.size ≤ k) w2 W2 := ((Turn.of_below H1.out.2.2).trans (ht2.mono fun k hk => by rw [hk]; exact H1.out.2.1 _ H1.out.1))
    have hRu := must10_any A n c l W2 S1 q 0 (armD (newD cap) place 0) hPD2 HO.out (by omega) ((HL.out.1.turn hT2).less fun k hk => by
      rcases hk with h | h
      · exact H1.out.2.1 k h
      · have := hT2.size; omega) HL.out.2.1
    have H2 := Lib.hid hT2
    obtain ⟨r, hr⟩ : ∃ r, workD (fun e => e != 0) (armD (newD cap) place 0) l = r := ⟨_, rfl⟩
    rw [hr] at hRu
    have HR := Lib.hid (show workD (fun e => e != 0) (armD (newD cap) place 0) C = r by rw [← hr, ← HL.out.2.2.2.1, workD_filter])
    clear hAr hp2 ht2 hPD2 hT2 hr
    go_wp2_with fail
    refine hRu.mono ?_
    rintro e W3 ⟨rfl, S3, hPD3, hO3, hS3, ht3⟩
    have hT3 : Turn (fun k => w2.heap.size ≤ k) w2 W3 := H2.out.trans (ht3.mono fun k hk => H1.out.2.1 k hk)
    have hb3 : Below w2.heap.size w2 W3 := hT3.below (Nat.le_refl _) fun k hk => hk
    have hl3 := HL.out.1.later hb3
    have hCl := calls10_back A n c l W3 hl3 HL.out.2.1
    rw [HL.out.2.2.2.1, HL.out.2.2.2.2.1] at hCl
    have H3 := Lib.hid (And.intro hb3 (And.intro hPD3 hO3))
    clear hRu hS3 ht3 hT3 hb3 hPD3 hO3 hl3
    go_wp2_with fail
    refine hCl.mono ?_
    rintro e W4 ⟨A4, c4, rfl, hW4, hnc4, hcm4, hb4⟩
    have H4 := Lib.hid (And.intro hW4 hb4)
    have HM := Lib.hid HL.out.2.2.2.2.2.2.2
    clear hCl hW4 hb4
    go_upto_region 7 with fail
    go_cut [10] from 26 to 30 (fun s10 wx => s10 = .pointer (some ⟨W4.heap.size, 0, none⟩) ∧ wx = W4.alloc (.cells #[.slice none 0 0, .int .i64 M, .int .u64 0, .bool true, .int .u64 ((place : Nat) : Int), .int .i64 0, .bool false] 40))
    case first =>
      go_wp2_with fail
      all_goals
        go_meet
        have := HM.out
        refine ⟨rfl, ?_⟩
        rw [this]
    case rest =>
      obtain ⟨rfl, rfl⟩ := hcut
      obtain ⟨p, hp⟩ : ∃ p, W4.heap.size = p := ⟨_, rfl⟩
      obtain ⟨w0, hw0⟩ : ∃ w0, W4.alloc (.cells #[.slice none 0 0, .int .i64 M, .int .u64 0, .bool true, .int .u64 ((place : Nat) : Int), .int .i64 0, .bool false] 40) = w0 := ⟨_, rfl⟩
      have HH0 : Hid (RD w0 (fun j => j = p) p (armD (newD cap) place 0) ∧ Below W4.heap.size W4 w0 ∧ W4.heap.size = p) := Lib.hid (by
        have hB : Blk w0 p 40 (dkL (armD (newD cap) place 0) none 0 0) := by
          rw [← hp, ← hw0]
          refine Blk.new W4 _ _ ?_
          rw [← HM.out]
          rfl
        refine ⟨⟨none, 0, 0, hB, Fls.nil, rfl, fun k hk => by rw [hk]; exact hB.lt⟩, ?_, hp⟩
        rw [← hw0]
        exact (Below.refl _ W4).alloc (Nat.le_refl _) _)
      rw [hp, hw0]
      clear hp hw0
      have HH5 : Hid (p < w0.heap.size ∧ Below w2.heap.size w2 w0 ∧ Wks w0 (fun k => k = p) A4 N C ∧ PD w0 S3 q r.2.1 ∧ ∀ j, S3 j → j ≠ p) := Lib.hid (by
        obtain ⟨g1, g2, g3⟩ := HH0.out
        have hb4 := H4.out.2
        have hp5 : p < w0.heap.size := by
          obtain ⟨_, _, _, hB, _⟩ := g1
          exact hB.lt
        refine ⟨hp5, bthen (bthen H3.out.1 hb4) g2, (H4.out.1.turn (Turn.of_below g2)).less fun k hk => by omega, ?_, fun j hj => ?_⟩
        · exact (H3.out.2.1.turn (Turn.of_below hb4 : Turn (fun _ => False) W3 W4) (fun _ h => h.elim)).turn (Turn.of_below g2 : Turn (fun _ => False) W4 w0) (fun _ h => h.elim)
        · have := H3.out.2.1.lt j hj
          have := hb4.size
          omega)
      go_wp2_with fail
      go_loopw [11, 12] (fun v i wr => ∃ (k : Nat) (m : Dk) (want : Int), k ≤ N ∧ i = .int .i64 k ∧ v = .int .i64 want ∧ RD wr (fun j => j = p) p m ∧ OkD k m ∧ MustAt (armD (newD cap) place 0) C k m want ∧ Turn (fun j => j = p) w0 wr) (fun _ i _ => N - (intOf i).toNat)
      case atStart => exact ⟨0, _, 0, Nat.zero_le _, rfl, rfl, HH0.out.1, HO.out, .inl ⟨rfl, rfl⟩, Turn.refl _ _⟩
      case round =>
        obtain ⟨k, m, want, hk, rfl, rfl, hR, hOk, hMA, hT⟩ := hrel
        rcases (show (k < N ∧ want = 0) ∨ (k < N ∧ want ≠ 0) ∨ ¬ k < N by omega) with ⟨hkE, h0⟩ | hend
        · subst h0
          obtain ⟨s, hs⟩ : ∃ s, C[k]? = some s := ⟨_, List.getElem?_eq_getElem (by have := HL.out.2.2.2.2.1; omega)⟩
          have hsm := HL.out.2.2.2.2.2.1.2 s (List.mem_of_getElem? hs)
          have hst := hMA.step hs (HL.out.2.2.1 s (List.mem_of_getElem? hs))
          obtain ⟨a1, ha1⟩ : ∃ a, (doD m s.sp).1 = a := ⟨_, rfl⟩
          obtain ⟨m1, hm1⟩ : ∃ a, (doD m s.sp).2 = a := ⟨_, rfl⟩
          rw [ha1, hm1] at hst
          obtain ⟨b, o, A2, d2, c2, rfl, hbS, hbl, hcells, hby, hnil2, _, _⟩ := HH5.out.2.2.1.at_ hs
          have hSt := fun w => step10_any s A2 d2 c2 w
          unfold wkV at hSt
          obtain ⟨T, hTT⟩ : ∃ T : ByteArray, ⟨s.name.toArray⟩ = T := ⟨_, rfl⟩
          obtain ⟨U, hU⟩ : ∃ U : ByteArray, ⟨s.dest.toArray⟩ = U := ⟨_, rfl⟩
          obtain ⟨K, hK⟩ : ∃ K, s.kind = K := ⟨_, rfl⟩
          rw [hTT, hU, hK] at hSt hcells
          have hDo := fun (w : World) (hR : RD w (fun j => j = p) p m) (hT : Turn (fun j => j = p) w0 w) => rdo10_any p k _ s A2 d2 c2 w hR hOk (by omega) hsm (hby.turn hT) hnil2
          rw [ha1, hm1] at hDo
          obtain ⟨V, hV⟩ : ∃ V, spV s.sp A2 d2 c2 = V := ⟨_, rfl⟩
          rw [hV] at hDo hSt
          obtain ⟨r0, r1, r2, r3⟩ := hcells
          have z0 := hT.at_ r0 hbS
          have z1 := hT.at_ r1 hbS
          have z2 := hT.at_ r2 hbS
          have z3 := hT.at_ r3 hbS
          have HHk := Lib.hid (And.intro hR (And.intro hT hst))
          have i0 : (0 : Int) ≤ (k : Int) := by omega
          have i2 : (k : Int) < (N : Int) := by omega
          clear hs hsm hst ha1 hm1 hbS hbl hby hnil2 hTT hU hK hV hR hOk hT hMA r0 r1 r2 r3
          go_wp2_with fail
          refine (hSt _).mono ?_
          rintro e w7 ⟨rfl, hb7⟩
          have hT7 : Turn (fun j => j = p) w0 w7 := HHk.out.2.1.trans (Turn.of_below hb7)
          have hR7 : RD w7 (fun j => j = p) p m := HHk.out.1.turn (Turn.of_below hb7 : Turn (fun _ => False) wr w7) (fun _ h => h.elim) (fun h => h.elim)
          have hDo7 := hDo w7 hR7 hT7
          have HT7 := Lib.hid hT7
          clear hDo hR7 hT7 hb7 hSt z0 z1 z2 z3
          go_wp2_with fail
          refine hDo7.mono ?_
          rintro e w8 ⟨rfl, hR8, hO8, ht8⟩
          have HR8 := Lib.hid (And.intro hR8 (And.intro hO8 (And.intro HHk.out.2.2 (HT7.out.trans ht8))))
          clear hDo7 hR8 hO8 ht8
          go_wp2_with fail
          go_roundw
          case rel => exact ⟨k + 1, m1, a1, by omega, by go_num, rfl, HR8.out⟩
          case measure => simp [intOf]; omega
        · have hdn := hMA.done (by have := HL.out.2.2.2.2.1; rcases hend with ⟨_, h⟩ | h; exact .inr h; exact .inl (by omega))
          rw [HR.out] at hdn
          have hm2 : r.2.1 = m := congrArg Prod.fst hdn
          have hw2 : r.2.2 = want := congrArg Prod.snd hdn
          have hPDw := HH5.out.2.2.2.1.turn hT (fun j hj hj2 => HH5.out.2.2.2.2 j hj2 hj)
          have hO2 := H3.out.2.2
          rw [hm2] at hPDw hO2
          obtain ⟨Af, nf, cf, hBp, hFp, _⟩ := hR
          obtain rfl : nf = m.files.length := hFp.1.symm
          rcases hend with ⟨hkE, h0⟩ | hkE
          · have d0 : (want == 0) = false := by simpa using h0
            clear h0
            rw [hw2]
            have HC : Hid (∀ w, Below wr.heap.size wr w → w.cell? ⟨p, 0, none⟩ = some (.slice Af m.files.length cf) ∧ w.cell? ⟨p, 6, none⟩ = some (.bool m.down) ∧ Fls w (fun j => j = p) Af m.files.length m.files ∧ PD w S3 q m) := Lib.hid (fun w hb => by
              have hpl2 := hBp.lt
              exact ⟨(hb.cell (p := ⟨p, 0, none⟩) hpl2).trans (hBp.cell 0), (hb.cell (p := ⟨p, 6, none⟩) hpl2).trans (hBp.cell 6), hFp.turn ((Turn.of_below hb : Turn (fun _ => False) wr w).mono fun _ h => h.elim), hPDw.turn (Turn.of_below hb : Turn (fun _ => False) wr w) (fun _ h => h.elim)⟩)
            have HBw : Hid (Below w2.heap.size w2 wr) := Lib.hid (HH5.out.2.1.trans (hT.below HH5.out.2.1.size fun j hj => by
              rw [hj, ← HH0.out.2.2]
              exact Nat.le_trans H3.out.1.size H4.out.2.size))
            have HS : Hid (m.files.length ≤ 1000000 ∧ ∀ f ∈ m.files, f.data.length ≤ 1000000) := Lib.hid ⟨by have := hO2.len; omega, fun f hf => by have := mem_size m.files f hf; have := hO2.size; omega⟩
            have hFil := fun (w : World) (h : PD w S3 q m) => pfiles_any w S3 q m h hO2
            obtain ⟨z0, z6, _⟩ := HC.out wr (Below.refl _ _)
            have drr : (want == want) = true := by simp
            have dDD : (m.down == m.down) = true := by simp
            clear hdn hm2 hw2 hOk hMA hT hBp hFp hPDw hO2
            go_upto_region 13 with fail
            go_region_held3 (fun w' => w'.cell? ⟨p, 0, none⟩ = some (.slice Af m.files.length cf) ∧ w'.cell? ⟨p, 6, none⟩ = some (.bool m.down))
              (first | exact ⟨x0, x6⟩ | exact ⟨v0, v6⟩ | exact ⟨u0, u6⟩ | exact ⟨t0, t6⟩ | exact ⟨z0, z6⟩ | go_keep)
              ((first
                | (go_at_call 19; refine (hFil _ (HC.out _ (below_drewN (Below.refl _ wr) 1)).2.2.2).mono ?_; rintro e w7 ⟨v7, xs7, rfl, hown7, hx7, hb7⟩; obtain ⟨A7, c7, rfl, _, _, _⟩ := own_formk hown7; have hF7 := Fls.of_own hown7 hx7 (fun k hk => hk); have hB7 := bthen (below_drewN (Below.refl _ wr) 1) hb7; obtain ⟨t0, t6, hG7, _⟩ := HC.out w7 hB7)
                | (go_at_call 8; refine (same9_any A7 Af _ c7 cf m.files _ _ w7 hF7 hG7 HS.out.1 HS.out.2).mono ?_; rintro e w8 ⟨rfl, r8, hw8⟩; have hB8 : Below wr.heap.size wr w8 := (by rw [hw8]; exact below_drewN hB7 r8); obtain ⟨u0, u6, _, mb8, l8, kp8, L8, G8, hPD8⟩ := HC.out w8 hB8; clear hw8)
                | (go_at_call 20; refine (pdown_any w8 hPD8).mono ?_; rintro e w9 ⟨rfl, rfl⟩; obtain ⟨v0, v6, _⟩ := HC.out w9 hB8)
                | (go_at_call 7; refine (awake10_any _).mono ?_; rintro e w10 ⟨rfl, hb10⟩; have HB10 := Lib.hid (HBw.out.trans ((bthen hB8 hb10).mono HBw.out.size)); obtain ⟨x0, x6, _⟩ := HC.out w10 (bthen hB8 hb10))))
            all_goals
              go_wp2_with fail
              go_ret
              exact ⟨rfl, HB10.out⟩
          · skip
            rw [hw2]
            have HC : Hid (∀ w, Below wr.heap.size wr w → w.cell? ⟨p, 0, none⟩ = some (.slice Af m.files.length cf) ∧ w.cell? ⟨p, 6, none⟩ = some (.bool m.down) ∧ Fls w (fun j => j = p) Af m.files.length m.files ∧ PD w S3 q m) := Lib.hid (fun w hb => by
              have hpl2 := hBp.lt
              exact ⟨(hb.cell (p := ⟨p, 0, none⟩) hpl2).trans (hBp.cell 0), (hb.cell (p := ⟨p, 6, none⟩) hpl2).trans (hBp.cell 6), hFp.turn ((Turn.of_below hb : Turn (fun _ => False) wr w).mono fun _ h => h.elim), hPDw.turn (Turn.of_below hb : Turn (fun _ => False) wr w) (fun _ h => h.elim)⟩)
            have HBw : Hid (Below w2.heap.size w2 wr) := Lib.hid (HH5.out.2.1.trans (hT.below HH5.out.2.1.size fun j hj => by
              rw [hj, ← HH0.out.2.2]
              exact Nat.le_trans H3.out.1.size H4.out.2.size))
            have HS : Hid (m.files.length ≤ 1000000 ∧ ∀ f ∈ m.files, f.data.length ≤ 1000000) := Lib.hid ⟨by have := hO2.len; omega, fun f hf => by have := mem_size m.files f hf; have := hO2.size; omega⟩
            have hFil := fun (w : World) (h : PD w S3 q m) => pfiles_any w S3 q m h hO2
            obtain ⟨z0, z6, _⟩ := HC.out wr (Below.refl _ _)
            have drr : (want == want) = true := by simp
            have dDD : (m.down == m.down) = true := by simp
            clear hdn hm2 hw2 hOk hMA hT hBp hFp hPDw hO2
            go_upto_region 13 with fail
            go_region_held3 (fun w' => w'.cell? ⟨p, 0, none⟩ = some (.slice Af m.files.length cf) ∧ w'.cell? ⟨p, 6, none⟩ = some (.bool m.down))
              (first | exact ⟨x0, x6⟩ | exact ⟨v0, v6⟩ | exact ⟨u0, u6⟩ | exact ⟨t0, t6⟩ | exact ⟨z0, z6⟩ | go_keep)
              ((first
                | (go_at_call 19; refine (hFil _ (HC.out _ (below_drewN (Below.refl _ wr) 1)).2.2.2).mono ?_; rintro e w7 ⟨v7, xs7, rfl, hown7, hx7, hb7⟩; obtain ⟨A7, c7, rfl, _, _, _⟩ := own_formk hown7; have hF7 := Fls.of_own hown7 hx7 (fun k hk => hk); have hB7 := bthen (below_drewN (Below.refl _ wr) 1) hb7; obtain ⟨t0, t6, hG7, _⟩ := HC.out w7 hB7)
                | (go_at_call 8; refine (same9_any A7 Af _ c7 cf m.files _ _ w7 hF7 hG7 HS.out.1 HS.out.2).mono ?_; rintro e w8 ⟨rfl, r8, hw8⟩; have hB8 : Below wr.heap.size wr w8 := (by rw [hw8]; exact below_drewN hB7 r8); obtain ⟨u0, u6, _, mb8, l8, kp8, L8, G8, hPD8⟩ := HC.out w8 hB8; clear hw8)
                | (go_at_call 20; refine (pdown_any w8 hPD8).mono ?_; rintro e w9 ⟨rfl, rfl⟩; obtain ⟨v0, v6, _⟩ := HC.out w9 hB8)
                | (go_at_call 7; refine (awake10_any _).mono ?_; rintro e w10 ⟨rfl, hb10⟩; have HB10 := Lib.hid (HBw.out.trans ((bthen hB8 hb10).mono HBw.out.size)); obtain ⟨x0, x6, _⟩ := HC.out w10 (bthen hB8 hb10))))
            all_goals
              go_wp2_with fail
              go_ret
              exact ⟨rfl, HB10.out⟩
  · rw [hlg] at hLg
    clear hl hn hcap hlg
    go_enter Try.func5, Try.ntmps5
    go_wp2_with fail
    refine hLg.mono ?_
    rintro e w2 ⟨rfl, rfl⟩
    clear hLg
    go_wp2_with fail
    refine (awake10_any _).mono ?_
    rintro e w3 ⟨rfl, hb3⟩
    have HB3 := Lib.hid hb3
    clear hb3
    go_wp2_with fail
    go_ret
    exact ⟨rfl, HB3.out⟩

end Go.Proofs.Ytikghnbhbehepaa

/-
  Arguments that are structs, and slices of structs, opened by their parts. No program stands here.
-/
namespace Go.Proofs.Ytikghnbhbehepaa
open Go.RowKit
open Go.ChangeShapes Go.WideShapes Go.ChangeAt
set_option linter.unusedVariables false
set_option linter.unusedSimpArgs false

/-- What a part is. -/
inductive PK where
  | num (k : IntKind)
  | txt
  | byt
  | flag
def Prt.kind : Prt → PK
  | .num k _ => .num k
  | .txt _ => .txt
  | .byt _ => .byt
  | .flag _ => .flag
def Prt.okay : Prt → Prop
  | .num k z => (Lit.int k z).wf = true
  | _ => True
/-- The type's own part. -/
def PK.fits (P : Program) (t : TypeId) : PK → Prop
  | .num k => P.underlying t = some (.int k)
  | .txt => P.underlying t = some .string
  | .byt => ∃ e, P.underlying t = some (.slice e) ∧ P.underlying e = some (.int .u8) ∧ P.cellsOf e = 1
  | .flag => P.underlying t = some .bool
/-- The fields of a struct are these parts, a cell each. -/
def Fits (P : Program) (fs : Array Field) (pks : List PK) : Prop :=
  fs.size = pks.length ∧ ∀ (i : Nat) (pk : PK), pks[i]? = some pk → ∃ f, fs[i]? = some f ∧ f.offset = i ∧ P.cellsOf f.type = 1 ∧ pk.fits P f.type

section
variable {H : Type} {enc : TypeId × Value → H} {P : Program} {w : World} {held : Bool}

theorem open_prt {fuel : Nat} {t : TypeId} {pk : PK} {v : Value} {x : DataW H × List MemPlace} (hf : pk.fits P t) (h : DataW.trod enc P w 0 (fun _ => true) held fuel t [v] = some x) :
    ∃ p : Prt, p.kind = pk ∧ PrtV w (fun k => w.heap.size ≤ k) v p ∧ p.okay := by
  cases pk with
  | num k =>
    obtain ⟨z, e, _, hz⟩ := DataW.trod_int hf h
    exact ⟨.num k z, rfl, (by simpa using e : v = .int k z), hz⟩
  | txt =>
    obtain ⟨s, e, _, _⟩ := DataW.trod_string hf h
    refine ⟨.txt s.data.toList, rfl, ?_, trivial⟩
    show v = .string ⟨s.data.toList.toArray⟩
    simpa using e
  | byt =>
    obtain ⟨e, h1, h2, h3⟩ := hf
    obtain ⟨A, m, c, rfl⟩ : ∃ A m c, v = .slice A m c := by
      rcases DataW.trod_slice h1 h with ⟨e, _⟩ | ⟨a, l, c, _, _, _, _, e, _⟩
      · exact ⟨none, 0, 0, by simpa using e⟩
      · exact ⟨some a, l, c, by simpa using e⟩
    obtain ⟨l, hb, hnil, hlc, hmx⟩ := open_byt h1 h2 h3 ⟨fuel, h⟩
    exact ⟨.byt l, rfl, ⟨A, m, c, rfl, hb.off (fun k hk => hk), fun hA => ⟨by have := hnil hA; omega, hnil hA⟩, hlc, hmx⟩, trivial⟩
  | flag =>
    obtain ⟨b, e, _⟩ := DataW.trod_bool hf h
    exact ⟨.flag b, rfl, (by simpa using e : v = .bool b), trivial⟩

theorem open_prts {fuel : Nat} {t : TypeId} {fs : Array Field} {pks : List PK} {cs : List Value} {x : DataW H × List MemPlace} (ht : P.underlying t = some (.struct fs)) (hc : P.cellsOf t = pks.length) (hF : Fits P fs pks)
    (h : DataW.trod enc P w 0 (fun _ => true) held fuel t cs = some x) : ∃ ps : List Prt, ps.map Prt.kind = pks ∧ PrtsV w (fun k => w.heap.size ≤ k) cs ps ∧ ∀ p ∈ ps, p.okay := by
  obtain ⟨xs, n, _, _, hl, hxl, hf⟩ := DataW.trod_struct ht h
  rw [hc] at hl
  have each : ∀ (j : Nat) (rest : List PK) (r : List Value), pks.drop j = rest → cs.drop j = r → ∃ ps : List Prt, ps.map Prt.kind = rest ∧ PrtsV w (fun k => w.heap.size ≤ k) r ps ∧ ∀ p ∈ ps, p.okay := by
    intro j rest
    induction rest generalizing j with
    | nil =>
      intro r h1 h2
      have : pks.length ≤ j := List.drop_eq_nil_iff.1 h1
      refine ⟨[], rfl, ?_, fun p hp => by cases hp⟩
      show r = []
      rw [← h2]
      exact List.drop_eq_nil_of_le (by omega)
    | cons pk rest ih =>
      intro r h1 h2
      have hj : j < pks.length := by
        rcases Nat.lt_or_ge j pks.length with h | h
        · exact h
        · rw [List.drop_eq_nil_of_le h] at h1; cases h1
      have hpk : pks[j]? = some pk := by
        have := congrArg List.head? h1
        simpa [List.head?_drop] using this
      have h1' : pks.drop (j + 1) = rest := by
        have := congrArg (List.drop 1) h1
        simpa [List.drop_drop, Nat.add_comm] using this
      obtain ⟨f, hfj, ho, hc1, hfit⟩ := hF.2 j pk hpk
      have hcj : cs[j]? = some (cs[j]'(by omega)) := List.getElem?_eq_getElem (by omega)
      obtain ⟨v, hv⟩ : ∃ v, cs[j]'(by omega) = v := ⟨_, rfl⟩
      rw [hv] at hcj
      have hr : r = v :: cs.drop (j + 1) := by
        rw [← h2, ← hv]
        exact List.drop_eq_getElem_cons (by omega)
      have htr := hf j f hfj
      rw [ho, hc1, List.drop_eq_getElem_cons (by omega : j < cs.length), hv] at htr
      have hxj : xs[j]? = some (xs[j]'(by have := hF.1; omega)) := List.getElem?_eq_getElem _
      rw [hxj] at htr
      obtain ⟨p, hp1, hp2, hp3⟩ := open_prt hfit (show DataW.trod enc P w 0 (fun _ => true) held n f.type [v] = _ from by simpa using htr)
      obtain ⟨ps, hq1, hq2, hq3⟩ := ih (j + 1) _ h1' rfl
      refine ⟨p :: ps, by rw [List.map_cons, hp1, hq1], ⟨v, _, hr, hp2, hq2⟩, fun q hq => ?_⟩
      rcases List.mem_cons.1 hq with rfl | hq
      · exact hp3
      · exact hq3 q hq
  obtain ⟨ps, h1, h2, h3⟩ := each 0 pks cs rfl rfl
  exact ⟨ps, h1, h2, h3⟩

theorem open_sls {t e : TypeId} {fs : Array Field} {pks : List PK} {a : Option Addr} {len cap : Nat} {d : DataW H} {p : List MemPlace} (ht : P.underlying t = some (.slice e)) (he : P.underlying e = some (.struct fs)) (hc : P.cellsOf e = pks.length) (hk : 0 < pks.length) (hF : Fits P fs pks)
    (h : DataW.Trod enc P w 0 (fun _ => true) held t (.slice a len cap) d p) :
    ∃ ss : List (List Prt), Sls w (fun k => w.heap.size ≤ k) pks.length a len ss ∧ (∀ ps ∈ ss, ps.map Prt.kind = pks ∧ ∀ p ∈ ps, p.okay) ∧ (a = none → cap = 0) ∧ len ≤ cap ∧ cap ≤ maxLen := by
  obtain ⟨fuel, hf⟩ := h
  rcases DataW.trod_slice ht hf with ⟨hcs, _⟩ | ⟨ad, len', cap', elems, rest, m, _, hcs, hx, hb, hl, hm, hlen, hel, _, _⟩
  · simp [Value.cells] at hcs
    obtain ⟨rfl, rfl, rfl⟩ := hcs
    exact ⟨[], Sls.nil, fun _ h => (by cases h), fun _ => rfl, Nat.le_refl _, Nat.zero_le _⟩
  · simp [Value.cells] at hcs
    obtain ⟨rfl, rfl, rfl⟩ := hcs
    have each : ∀ i, i < len → ∃ s : List Prt, ∃ cs : List Value, cs.length = pks.length ∧ (∀ j, j < pks.length → w.cell? (ad.add (i * pks.length + j)) = cs[j]?) ∧ s.map Prt.kind = pks ∧ PrtsV w (fun k => w.heap.size ≤ k) cs s ∧ ∀ p ∈ s, p.okay := by
      intro i hi
      have h1 := hel i hi
      rw [hc] at h1
      rw [List.getElem?_eq_getElem (by omega), Option.bind_eq_some_iff] at h1
      obtain ⟨cs, h2, h3⟩ := h1
      obtain ⟨h4, h5, h6⟩ := World.cells?_some h2
      obtain ⟨s, h7, h8, h9⟩ := open_prts he hc hF h3
      exact ⟨s, cs, h5, fun j hj => by rw [← h6 j hj, Addr.add_add], h7, h8, h9⟩
    obtain ⟨ss, hsl, hss⟩ := list_of len each
    have hmem : ∀ s ∈ ss, s.map Prt.kind = pks ∧ ∀ p ∈ s, p.okay := fun s hs => by
      obtain ⟨i, hi⟩ := List.mem_iff_getElem?.1 hs
      obtain ⟨cs, _, _, h3, _, h5⟩ := hss i s hi
      exact ⟨h3, h5⟩
    refine ⟨ss, ⟨hsl, fun s hs => by rw [← (hmem s hs).1, List.length_map], fun hn => ?_⟩, hmem, (fun h => by cases h), hl, hm⟩
    obtain ⟨g, o, spot⟩ := ad
    obtain ⟨s0, cs0, hl0, hc0, _⟩ := each 0 hn
    have hcell0 : w.cell? ((⟨g, o, spot⟩ : Addr).add 0) = some (cs0[0]'(by omega)) := by
      have := hc0 0 (by omega)
      rw [List.getElem?_eq_getElem (by omega)] at this
      simpa using this
    have hspot : spot = none := by simpa [Addr.add] using World.cell?_spot hcell0
    subst hspot
    have hgl : g < w.heap.size := by
      have := World.block_lt_of_cell? w _ hcell0
      simpa [Addr.add] using this
    refine ⟨g, o, rfl, Nat.not_le.2 hgl, hgl, fun j s hj => ?_⟩
    obtain ⟨cs, h1, h2, _, h3, _⟩ := hss j s hj
    refine ⟨cs, h3, fun i v hv => ?_⟩
    have hi : i < pks.length := by
      have := (List.getElem?_eq_some_iff.1 hv).1
      omega
    have := h2 i hi
    rw [Addr.add_lit, hv] at this
    rw [Nat.add_assoc]
    exact this
end

end Go.Proofs.Ytikghnbhbehepaa

/-
  Arguments that are arrays of whole numbers, opened. No program stands here.
-/
namespace Go.Proofs.Ytikghnbhbehepaa
open Go.RowKit
open Go.ChangeShapes Go.WideShapes Go.ChangeAt
set_option linter.unusedVariables false
set_option linter.unusedSimpArgs false

/-- Each element of an array of whole numbers. -/
theorem arr_ints {H : Type} {enc : TypeId × Value → H} {P : Program} {W : World} {base : Nat} {sp : Nat → Bool} {held : Bool} {fuel n : Nat} {t e : TypeId} {k : IntKind} {cs : List Value} {y : DataW H × List MemPlace}
    (ht : P.underlying t = some (.array n e)) (he : P.underlying e = some (.int k)) (hc : P.cellsOf e = 1) (h : DataW.trod enc P W base sp held fuel t cs = some y) :
    ∀ i, i < n → ∃ z, cs[i]? = some (.int k z) ∧ (Lit.int k z).wf = true := by
  obtain ⟨xs, m, rfl, _, _, hn, hel⟩ := DataW.trod_array ht h
  intro i hi
  have h1 := hel i hi
  rw [hc, Nat.mul_one] at h1
  cases hx : xs[i]? with
  | none =>
    have := List.getElem?_eq_none_iff.1 hx
    omega
  | some x =>
    rw [hx] at h1
    obtain ⟨z, e1, _, hw⟩ := DataW.trod_int he h1
    refine ⟨z, ?_, hw⟩
    have := congrArg (fun l => l[0]?) e1
    simp only [List.getElem?_take, List.getElem?_drop] at this
    simpa using this

/-- An array that came in: its elements. -/
theorem open_arr {H : Type} {enc : TypeId × Value → H} {P : Program} {W : World} {base : Nat} {sp : Nat → Bool} {held : Bool} {n : Nat} {t e : TypeId} {k : IntKind} {v : Value} {d : DataW H} {p : List MemPlace}
    (ht : P.underlying t = some (.array n e)) (he : P.underlying e = some (.int k)) (hc : P.cellsOf e = 1) (hn : P.cellsOf t = n)
    (hv : Value.okWide P W .any base t v) (h : DataW.Trod enc P W 0 sp held t v d p) : ∃ zs : List Int, zs.length = n ∧ v = .agg (zs.map fun z => Value.int k z).toArray ∧ ∀ z ∈ zs, (Lit.int k z).wf = true := by
  obtain ⟨cs, rfl, hsz, _⟩ : ∃ cs, v = .agg cs ∧ cs.size = P.cellsOf t ∧ Row.okWide P W .any base t cs := by
    simpa [Value.okWide, ht] using hv
  rw [hn] at hsz
  obtain ⟨fuel, hf⟩ := h
  have hl : cs.toList.length = n := by simpa using hsz
  have hel := arr_ints ht he hc hf
  have go : ∀ (l : List Value), (∀ u ∈ l, ∃ z, u = .int k z ∧ (Lit.int k z).wf = true) → ∃ zs : List Int, zs.length = l.length ∧ l = zs.map (fun z => Value.int k z) ∧ ∀ z ∈ zs, (Lit.int k z).wf = true := by
    intro l
    induction l with
    | nil => intro _; exact ⟨[], rfl, rfl, fun z h => by cases h⟩
    | cons u l ih =>
      intro hu
      obtain ⟨z, rfl, hz⟩ := hu u (List.mem_cons_self ..)
      obtain ⟨zs, e1, e2, e3⟩ := ih fun u h => hu u (List.mem_cons_of_mem _ h)
      refine ⟨z :: zs, by simp [e1], by rw [e2]; rfl, fun y hy => ?_⟩
      rcases List.mem_cons.1 hy with rfl | hy
      · exact hz
      · exact e3 y hy
  obtain ⟨zs, e1, e2, e3⟩ := go cs.toList fun u hu => by
    obtain ⟨i, hi, rfl⟩ := List.getElem_of_mem hu
    obtain ⟨z, h1, h2⟩ := hel i (by omega)
    simp only [Value.cells] at h1
    rw [List.getElem?_eq_getElem hi] at h1
    exact ⟨z, Option.some.inj h1, h2⟩
  exact ⟨zs, e1.trans hl, by rw [← e2], e3⟩

/-- Two elements. -/
theorem open_two {H : Type} {enc : TypeId × Value → H} {P : Program} {W : World} {base : Nat} {sp : Nat → Bool} {held : Bool} {t e : TypeId} {k : IntKind} {v : Value} {d : DataW H} {p : List MemPlace}
    (ht : P.underlying t = some (.array 2 e)) (he : P.underlying e = some (.int k)) (hc : P.cellsOf e = 1) (hn : P.cellsOf t = 2)
    (hv : Value.okWide P W .any base t v) (h : DataW.Trod enc P W 0 sp held t v d p) : ∃ y z : Int, v = .agg #[.int k y, .int k z] ∧ (Lit.int k y).wf = true ∧ (Lit.int k z).wf = true := by
  obtain ⟨zs, h1, h2, h3⟩ := open_arr ht he hc hn hv h
  match zs, h1 with
  | [y, z], _ => exact ⟨y, z, h2, h3 y (by simp), h3 z (by simp)⟩

end Go.Proofs.Ytikghnbhbehepaa

/-
  An argument that is work, opened; the statements as the rows hand their arguments over.
-/
namespace Go.Proofs.Ytikghnbhbehepaa
open Go.RowKit
open Go.ChangeShapes Go.WideShapes Go.ChangeAt
set_option linter.unusedVariables false
set_option linter.unusedSimpArgs false

theorem wk_of (ps : List Prt) (h : ps.map Prt.kind = [.num .i64, .txt, .txt, .byt]) : ∃ o : Wk, ps = o.prts := by
  match ps, h with
  | [.num k z, .txt s, .txt t, .byt d], h =>
    have hk : k = .i64 := by
      have := congrArg List.head? h
      simpa [Prt.kind] using this
    subst hk
    exact ⟨⟨z, s, t, d⟩, rfl⟩
theorem wks_of (ss : List (List Prt)) (h : ∀ ps ∈ ss, ps.map Prt.kind = [.num .i64, .txt, .txt, .byt]) : ∃ l : List Wk, ss = l.map Wk.prts := by
  induction ss with
  | nil => exact ⟨[], rfl⟩
  | cons p r ih =>
    obtain ⟨o, ho⟩ := wk_of p (h p List.mem_cons_self)
    obtain ⟨l, hl⟩ := ih fun x hx => h x (List.mem_cons_of_mem _ hx)
    exact ⟨o :: l, by rw [ho, hl]; rfl⟩

theorem open_wks {H : Type} {enc : TypeId × Value → H} {w : World} {held : Bool} {a : Option Addr} {len cap : Nat} {d : DataW H} {p : List MemPlace} (h : DataW.Trod enc Try.prog w 0 (fun _ => true) held 23 (.slice a len cap) d p) :
    ∃ l, Wks w (fun k => w.heap.size ≤ k) a len l ∧ (a = none → cap = 0) ∧ len ≤ cap ∧ cap ≤ maxLen := by
  obtain ⟨ss, h1, h2, h3⟩ := open_sls (pks := [.num .i64, .txt, .txt, .byt]) Try.underlying23 Try.underlying49 (by kernel_rfl) (by decide) ⟨rfl, fun i pk hi => by
    match i, hi with
    | 0, hi => cases hi; exact ⟨_, rfl, rfl, by kernel_rfl, Try.underlying3⟩
    | 1, hi => cases hi; exact ⟨_, rfl, rfl, by kernel_rfl, Try.underlying9⟩
    | 2, hi => cases hi; exact ⟨_, rfl, rfl, by kernel_rfl, Try.underlying9⟩
    | 3, hi => cases hi; exact ⟨_, rfl, rfl, by kernel_rfl, ⟨_, Try.underlying44, Try.underlying5, by kernel_rfl⟩⟩
    | i + 4, hi => exact absurd (List.getElem?_eq_some_iff.1 hi).1 (by simp)⟩ h
  obtain ⟨l, rfl⟩ := wks_of ss fun ps hps => (h2 ps hps).1
  exact ⟨l, h1, h3⟩

theorem crashLeaves_row (y z : Int) (A : Option Addr) (n c : Nat) (l : List Wk) (a : Int) (W : World) (wy : (Lit.int .i64 y).wf = true) (wz : (Lit.int .i64 z).wf = true) (b : Wks W (fun k => W.heap.size ≤ k) A n l) (_ : A = none → c = 0) (hnc : n ≤ c) (hcm : c ≤ maxLen) (lo : 0 ≤ a) (hi : a ≤ 18446744073709551615) :
    Calls Try.prog 3 #[.agg #[.int .i64 y, .int .i64 z], .slice A n c, .int .u64 a] W fun e W' => e = .returned (.bool true) ∧ Below W.heap.size W W' := by
  obtain ⟨u, rfl⟩ : ∃ u : Nat, a = (u : Int) := ⟨a.toNat, by omega⟩
  have := bounds_i64 wy
  exact crashLeaves_law y z A n c l u W (by omega) (by omega) b (Nat.le_trans hnc hcm)

theorem crashRuns_row (y : Int) (A : Option Addr) (n c : Nat) (l : List Wk) (a : Int) (W : World) (ly : -9223372036854775808 ≤ y) (hy : y ≤ 9223372036854775807) (b : Wks W (fun k => W.heap.size ≤ k) A n l) (_ : A = none → c = 0) (hnc : n ≤ c) (hcm : c ≤ maxLen) (lo : 0 ≤ a) (hi : a ≤ 18446744073709551615) :
    Calls Try.prog 4 #[.int .i64 y, .slice A n c, .int .u64 a] W fun e W' => e = .returned (.bool true) ∧ Below W.heap.size W W' := by
  obtain ⟨u, rfl⟩ : ∃ u : Nat, a = (u : Int) := ⟨a.toNat, by omega⟩
  exact crashRuns_law y A n c l u W (by omega) (by omega) b (Nat.le_trans hnc hcm)

theorem crashMusts_row (y : Int) (A : Option Addr) (n c : Nat) (l : List Wk) (a : Int) (W : World) (ly : -9223372036854775808 ≤ y) (hy : y ≤ 9223372036854775807) (b : Wks W (fun k => W.heap.size ≤ k) A n l) (_ : A = none → c = 0) (hnc : n ≤ c) (hcm : c ≤ maxLen) (lo : 0 ≤ a) (hi : a ≤ 18446744073709551615) :
    Calls Try.prog 5 #[.int .i64 y, .slice A n c, .int .u64 a] W fun e W' => e = .returned (.bool true) ∧ Below W.heap.size W W' := by
  obtain ⟨u, rfl⟩ : ∃ u : Nat, a = (u : Int) := ⟨a.toNat, by omega⟩
  exact crashMusts_law y A n c l u W (by omega) (by omega) b (Nat.le_trans hnc hcm)

end Go.Proofs.Ytikghnbhbehepaa
