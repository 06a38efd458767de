/-
  The statement SegTorn by the program's contracts: the walk.
-/
import Derived.Test.YtgococpbhbcpmaaGreatDoorZz29
import Derived.Test.YtgococpbhbcpmaaGreatDoorZz30
import Derived.Deep.RegionWith
namespace Go.Proofs.YtgococpbhbcpmaaGreatDoor
open Go.RowKit
set_option linter.unusedVariables false
set_option linter.unusedSimpArgs false

set_option maxRecDepth 100000 in
set_option maxHeartbeats 4000000 in
theorem segTorn_big {I : World → Prop} (C : SegR I) (A : Option Addr) (n c : Nat) (l : List Rc) (A1 : Option Addr) (n1 c1 : Nat) (m : Int) (W : World) (hI : I W) (hR : Rcs W (fun k => W.heap.size ≤ k) A n l) (hf : Fine l) (hn : n ≤ maxLen) (hn1 : n1 ≤ maxLen)
    (hbad : largeR l = true ∨ 60 < n1 ∨ m < 0) :
    Calls Tryz.prog 4 #[.slice A n c, .slice A1 n1 c1, .int .i64 m] W fun e W' => e = .returned (.bool true) ∧ Below W.heap.size W W' := by
  have hA := awake13_any C.toSegN W hI
  have hL := refLargeR_any A n c l _ W hR hn hf
  unfold maxLen at hn1
  obtain ⟨b, hb⟩ : ∃ b, largeR l = b := ⟨_, rfl⟩
  rw [hb] at hL hbad
  clear hb hR hf
  cases b with
  | true =>
    go_enter Tryz.func4, Tryz.ntmps4
    go_wp2_with fail
    refine hL.mono ?_
    rintro e w ⟨rfl, rfl⟩
    go_wp2_with fail
    refine hA.mono ?_
    rintro e w1 ⟨rfl, hb1⟩
    go_wp2_with fail
    go_ret
    exact ⟨rfl, hb1⟩
  | false =>
    have hcase : (60 : Int) < (n1 : Int) ∨ (¬ (60 : Int) < (n1 : Int) ∧ m < 0) := by
      rcases hbad with h | h | h
      · cases h
      · left; omega
      · omega
    clear hbad
    rcases hcase with h1 | ⟨h1, h2⟩
    all_goals
      go_enter Tryz.func4, Tryz.ntmps4
      go_wp2_with fail
      refine hL.mono ?_
      rintro e w ⟨rfl, rfl⟩
      go_wp2_with fail
      refine hA.mono ?_
      rintro e w1 ⟨rfl, hb1⟩
      go_wp2_with fail
      go_ret
      exact ⟨rfl, hb1⟩

set_option maxRecDepth 100000 in
set_option maxHeartbeats 8000000 in
theorem segTorn_small {I : World → Prop} (C : SegR I) (A : Option Addr) (n c : Nat) (l : List Rc) (A1 : Option Addr) (n1 c1 : Nat) (lc : List UInt8) (M : Nat) (W : World) (hI : I W) (hR : Rcs W (fun k => W.heap.size ≤ k) A n l) (hf : Fine l) (hnil : A = none → c = 0) (hnc : n ≤ c) (hcm : c ≤ maxLen)
    (hC : Byt W W.heap.size A1 n1 lc) (hlg : largeR l = false) (hn1 : n1 ≤ 60) (hm1 : M ≤ 9223372036854775807) :
    Calls Tryz.prog 4 #[.slice A n c, .slice A1 n1 c1, .int .i64 (M : Nat)] W fun e W' => e = .returned (.bool true) ∧ Below W.heap.size W W' := by
  have hA := fun w hI => awake13_any C.toSegN w hI
  have keep := @SegN.keep I C.toSegN
  obtain ⟨hl60, ht100⟩ := large_not l hlg
  have hln := hR.len
  have hn : n ≤ maxLen := by unfold maxLen; omega
  have hL := refLargeR_any A n c l _ W hR hn hf
  rw [hlg] at hL
  have HN := Lib.hid (show l.length = n ∧ n ≤ 60 ∧ (∀ r ∈ l, r.okay ∧ r.ten.length ≤ 100) from ⟨hln, by omega, fun r hr => ⟨(hf r hr).1, ht100 r hr⟩⟩)
  have HR := Lib.hid hR
  have HC := Lib.hid (And.intro hC hn1)
  have HA := Lib.hid (And.intro hnil (And.intro hnc hcm))
  have h1 : ¬ (60 : Int) < (n1 : Int) := by omega
  have h2 : ¬ (M : Int) < 0 := by omega
  have HF := Lib.hid hf
  have HAw := Lib.hid hA
  clear hl60 ht100 hln hn hlg hR hf hnil hnc hcm hC hn1
  obtain ⟨i0, hi, hz0, hz1, hz2⟩ := info_parts Tryz.info5
  obtain ⟨i1, hj, hj0, hj1, hj2⟩ := info_parts Tryz.infoBs
  go_enter Tryz.func4, Tryz.ntmps4
  go_wp2_with fail
  refine hL.mono ?_
  rintro e w ⟨rfl, rfl⟩
  clear hL
  go_wp2_with fail
  go_loopw [7, 8, 9, 10] (fun v7 v8 v9 v10 wr => TornI w l v7 v8 v9 v10 wr) (fun _ _ _ i _ => n - (intOf i).toNat)
  case atStart => exact ⟨0, 0, [], [], [], rfl, rfl, TornS.start w l⟩
  case round =>
    obtain ⟨i, K, cs, cur, xs, rfl, rfl, hS⟩ := hrel
    have hb := hS.bel
    have iw := keep hI hb
    by_cases hlt : i < n
    · obtain ⟨r, hr⟩ : ∃ r, l[i]? = some r := ⟨_, List.getElem?_eq_getElem (by have := HN.out; omega)⟩
      have hin : (i : Int) < (n : Int) := by omega
      go_upto_region 9 with fail
      obtain ⟨hro, hrt⟩ := HN.out.2.2 r (List.mem_of_getElem? hr)
      have hRw := HR.out.below hb
      obtain ⟨g, o, hAe, _, hgl, z0, z1, z2, z3, z4, z5⟩ := Rcs.at_ hRw hr
      have hChk := fun w => refCheck_any r.seq r.kind ⟨r.ten.toArray⟩ r.lease r.n r.bits (by show r.ten.toArray.size ≤ _; rw [List.size_toArray]; omega) hro.2.2.2.2.2 w
      rw [show (⟨r.seq, r.kind, (⟨r.ten.toArray⟩ : ByteArray).data.toList, r.lease, r.n, r.bits⟩ : Rc) = r from rfl] at hChk
      unfold rcV at hChk
      have HI := Lib.hid hS
      have hi60 : i < 60 := by have := HN.out; omega
      subst hAe
      clear hS
      go_cut [64] from 31 to 64 (fun s wx => s = .bool (badB l i r) ∧ Below wr.heap.size wr wx)
      case first =>
        obtain ⟨ck, hck⟩ : ∃ z, checkC r = z := ⟨_, rfl⟩
        rw [hck] at hChk
        by_cases hc0 : ck = 0
        · subst hc0
          by_cases hi0 : i = 0
          · have HBad := Lib.hid (show badB l i r = false by subst hi0; unfold badB; rw [hck]; rfl)
            have hpos : decide (0 < i) = false := decide_eq_false (by omega)
            clear hck hr hlt hi0
            have E0 := fun u => Ext.cell z0 u
            have E1 := fun u => Ext.cell z1 u
            have E2 := fun u => Ext.cell z2 u
            have E3 := fun u => Ext.cell z3 u
            have E4 := fun u => Ext.cell z4 u
            have E5 := fun u => Ext.cell z5 u
            refine wp_region_ext (by kernel_rfl) (by kernel_rfl) ?_
            repeat (go_big_quiet_step ((go_at_call 7; exact Calls.ext (hChk _))))
            refine wpQuiet_nil ?_
            intro _ hw'
            obtain ⟨u, rfl⟩ := hw'
            go_wp2_with fail
            go_meet
            exact ⟨by rw [HBad.out], u.bel⟩
          · obtain ⟨ip, hi1⟩ : ∃ ip, i = ip + 1 := ⟨i - 1, by omega⟩
            obtain ⟨q, hq⟩ : ∃ q, l[ip]? = some q := ⟨_, List.getElem?_eq_getElem (by have := HN.out; omega)⟩
            obtain ⟨g', o', hAe', _, _, y0, _, _, _, _, _⟩ := Rcs.at_ (HR.out.below hb) hq
            obtain ⟨rfl, rfl⟩ : g = g' ∧ o = o' := by cases hAe'; exact ⟨rfl, rfl⟩
            have hqs : q.seq < 18446744073709551616 := (HN.out.2.2 q (List.mem_of_getElem? hq)).1.1
            have hrs : r.seq < 18446744073709551616 := hro.1
            have hsub : IntKind.i64.wrap ((i : Int) - 1) = (ip : Int) := by rw [IntKind.wrap_i64]; omega
            have hi2 : (ip : Int) < (n : Int) := by omega
            have hpos : decide (0 < i) = true := decide_eq_true (by omega)
            have hB : badB l i r = (decide (q.seq = 18446744073709551615) || !decide (r.seq = (q.seq + 1) % 18446744073709551616)) := by subst hi1; unfold badB; rw [hck]; simp [hq]
            by_cases hs : q.seq = 18446744073709551615
            · have HBad := Lib.hid (show badB l i r = true by rw [hB, hs]; rfl)
              rw [hs] at y0
              clear hck hr hlt hi0 hi1 hs hB hqs hrs
              have E0 := fun u => Ext.cell z0 u
              have E1 := fun u => Ext.cell z1 u
              have E2 := fun u => Ext.cell z2 u
              have E3 := fun u => Ext.cell z3 u
              have E4 := fun u => Ext.cell z4 u
              have E5 := fun u => Ext.cell z5 u
              have Y0 := fun u => Ext.cell y0 u
              refine wp_region_ext (by kernel_rfl) (by kernel_rfl) ?_
              repeat (go_big_quiet_step ((go_at_call 7; exact Calls.ext (hChk _))))
              refine wpQuiet_nil ?_
              intro _ hw'
              obtain ⟨u, rfl⟩ := hw'
              go_wp2_with fail
              go_meet
              exact ⟨by rw [HBad.out], u.bel⟩
            · obtain ⟨s1, hs1⟩ : ∃ z : Int, IntKind.u64.wrap ((q.seq : Int) + 1) = z := ⟨_, rfl⟩
              obtain ⟨qs, hqe⟩ : ∃ z : Int, (q.seq : Int) = z := ⟨_, rfl⟩
              have hs1' : s1 = ((q.seq + 1 : Nat) : Int) := by rw [← hs1, IntKind.wrap_u64]; omega
              have hs2 : (qs == 18446744073709551615) = false := beq_eq_false_iff_ne.2 (by omega)
              rw [hqe] at y0 hs1
              by_cases hr1 : r.seq = q.seq + 1
              · have HBad := Lib.hid (show badB l i r = false by rw [hB, decide_eq_false hs, decide_eq_true (by omega)]; rfl)
                obtain rfl : s1 = (r.seq : Int) := by omega
                clear hck hr hlt hi0 hi1 hs hB hqs hrs hqe hs1' hr1
                have E0 := fun u => Ext.cell z0 u
                have E1 := fun u => Ext.cell z1 u
                have E2 := fun u => Ext.cell z2 u
                have E3 := fun u => Ext.cell z3 u
                have E4 := fun u => Ext.cell z4 u
                have E5 := fun u => Ext.cell z5 u
                have Y0 := fun u => Ext.cell y0 u
                refine wp_region_ext (by kernel_rfl) (by kernel_rfl) ?_
                repeat (go_big_quiet_step ((go_at_call 7; exact Calls.ext (hChk _))))
                refine wpQuiet_nil ?_
                intro _ hw'
                obtain ⟨u, rfl⟩ := hw'
                go_wp2_with fail
                go_meet
                exact ⟨by rw [HBad.out], u.bel⟩
              · have HBad := Lib.hid (show badB l i r = true by rw [hB, decide_eq_false hs, decide_eq_false (by omega)]; rfl)
                have hne : ((r.seq : Int) != s1) = true := bne_iff_ne.2 (by omega)
                clear hck hr hlt hi0 hi1 hs hB hqs hrs hqe hs1' hr1
                have E0 := fun u => Ext.cell z0 u
                have E1 := fun u => Ext.cell z1 u
                have E2 := fun u => Ext.cell z2 u
                have E3 := fun u => Ext.cell z3 u
                have E4 := fun u => Ext.cell z4 u
                have E5 := fun u => Ext.cell z5 u
                have Y0 := fun u => Ext.cell y0 u
                refine wp_region_ext (by kernel_rfl) (by kernel_rfl) ?_
                repeat (go_big_quiet_step ((go_at_call 7; exact Calls.ext (hChk _))))
                refine wpQuiet_nil ?_
                intro _ hw'
                obtain ⟨u, rfl⟩ := hw'
                go_wp2_with fail
                go_meet
                exact ⟨by rw [HBad.out], u.bel⟩
        · have hq : (ck != 0) = true := by simpa using hc0
          have HBad := Lib.hid (show badB l i r = true by unfold badB; rw [hck, decide_eq_false hc0]; rfl)
          clear hc0 hck hr hlt
          have E0 := fun u => Ext.cell z0 u
          have E1 := fun u => Ext.cell z1 u
          have E2 := fun u => Ext.cell z2 u
          have E3 := fun u => Ext.cell z3 u
          have E4 := fun u => Ext.cell z4 u
          have E5 := fun u => Ext.cell z5 u
          refine wp_region_ext (by kernel_rfl) (by kernel_rfl) ?_
          repeat (go_big_quiet_step ((go_at_call 7; exact Calls.ext (hChk _))))
          refine wpQuiet_nil ?_
          intro _ hw'
          obtain ⟨u, rfl⟩ := hw'
          go_wp2_with fail
          go_meet
          exact ⟨by rw [HBad.out], u.bel⟩
      case rest =>
        obtain ⟨rfl, hbc⟩ := hcut
        have hS := HI.out.below hbc
        have ic := keep hI hS.bel
        have hAc := hA _ ic
        obtain ⟨A7, c7, rfl, q1, q2, q3⟩ := own_form hS.o7
        obtain ⟨A8, c8, rfl, p1, p2, p3⟩ := own_form hS.o8
        obtain ⟨bb, hbb⟩ : ∃ z, badB l i r = z := ⟨_, rfl⟩
        rw [hbb]
        cases bb with
        | true =>
          have HB := Lib.hid hS.bel
          clear hS hbb hChk hbc
          go_wp2_with fail
          refine hAc.mono ?_
          rintro e w1 ⟨rfl, hb1⟩
          go_wp2_with fail
          go_ret
          exact ⟨rfl, bthen HB.out hb1⟩
        | false =>
          have hoks : ∀ q ∈ l, q.okay := fun q hq => (HN.out.2.2 q hq).1
          obtain ⟨hok, hch⟩ := badB_ok hbb hr hoks hS.ch
          have hBox := fun w => refSegBox_any r.seq r.kind ⟨r.ten.toArray⟩ r.lease r.n r.bits hro.1 hro.2.2.2.1 hro.2.2.2.2.1 hro.2.2.2.2.2 (by show r.ten.toArray.size ≤ _; rw [List.size_toArray]; omega) (check_parts r hok.1).1 w
          rw [show (⟨r.seq, r.kind, (⟨r.ten.toArray⟩ : ByteArray).data.toList, r.lease, r.n, r.bits⟩ : Rc) = r from rfl] at hBox
          unfold rcV at hBox
          have HO := Lib.hid (And.intro hok (And.intro hch hr))
          have HCU := Lib.hid (show (∀ q ∈ cur, okRc q) ∧ cur.length ≤ 60 ∧ cs.length ≤ 60 from ⟨fun q hq => hS.ok q (by rw [hS.tk]; exact List.mem_append_right _ hq), by have h1 := congrArg List.length hS.tk; rw [List.length_take, List.length_append] at h1; omega, by have := hS.len; omega⟩)
          have HS := Lib.hid hS
          obtain ⟨g', o', hAe', hgw, _, f0, f1, f2, f3, f4, f5⟩ := Rcs.at_ HR.out hr
          obtain ⟨rfl, rfl⟩ : g = g' ∧ o = o' := by cases hAe'; exact ⟨rfl, rfl⟩
          have hgw : g < w.heap.size := Nat.lt_of_not_le hgw
          clear hok hch hr z0 z1 z2 z3 z4 z5 hS hbb hChk hoks hlt hAc hAe' hgl hRw q1 q2 q3 p1 p2 p3
          by_cases hlt1 : i < n1
          · obtain ⟨b, o1, x, rfl, hb1, _, hx⟩ := Byt.at_ HC.out.1 hlt1
            have hx1 := (HS.out.bel.cell (p := ⟨b, o1 + i, none⟩) hb1).trans hx
            have hi1 : (i : Int) < (n1 : Int) := by omega
            clear hx hb1 hbc hlt1
            obtain ⟨y, hy⟩ : ∃ y, x.toNat = y := ⟨_, rfl⟩
            rw [hy] at hx1
            clear hy
            by_cases hm3 : y % 3 = 0
            · have hm4 : ((y : Int) % 3 == 0) = true := by simp; omega
              clear hm3
              have o7 := HS.out.o7
              have hcl := HCU.out.2.2
              have hbs := HS.out.bel.size
              go_upto_region 15 with (at_builtin; refine wpList_append_own_at _ rfl _ _ 22 rfl w.heap.size 26 i1 _ 1 24 Tryz.underlying22 hj hj0 hj1 hj2 rfl (by decide) _ _ _ rfl (o7.alloc _) ⟨wc.heap.size, 0, none⟩ 1 1 [.slice A8 (segB cur).length c8] rfl rfl (fun q u hu => by rw [Addr.add_lit, Nat.zero_add, World.cell?_alloc_new]; simpa using hu) (by intro u hu; rw [List.mem_singleton.1 hu]; rfl) (by unfold maxLen; omega) (by omega) (by simp; omega) ?_; intro v9 w9 h9 hg9 hv9; have H9 := Lib.hid (And.intro h9 (And.intro hg9 hv9)); clear h9 hg9 hv9)
              have HS1 := Lib.hid (TornS.cut (HS.out.below ((Below.refl _ wc).alloc (Nat.le_refl _) _)) H9.out.1 H9.out.2.1 H9.out.2.2)
              replace HCU := Lib.hid (show ∀ q ∈ ([] : List Rc), okRc q from fun q hq => (by cases hq))
              clear o7 hcl hx1
              have e0 := (HS1.out.bel.cell (p := ⟨g, o + i * 6, none⟩) hgw).trans f0
              have e1 := (HS1.out.bel.cell (p := ⟨g, o + i * 6 + 1, none⟩) hgw).trans f1
              have e2 := (HS1.out.bel.cell (p := ⟨g, o + i * 6 + 2, none⟩) hgw).trans f2
              have e3 := (HS1.out.bel.cell (p := ⟨g, o + i * 6 + 3, none⟩) hgw).trans f3
              have e4 := (HS1.out.bel.cell (p := ⟨g, o + i * 6 + 4, none⟩) hgw).trans f4
              have e5 := (HS1.out.bel.cell (p := ⟨g, o + i * 6 + 5, none⟩) hgw).trans f5
              have o8 := HS1.out.o8
              have hb1s := HS1.out.bel.size
              have hl8 : (segB ([] : List Rc)).length = 0 := rfl
              go_wp2_with fail
              refine (hBox _).mono ?_
              rintro e w10 ⟨vb, mb, rfl, ob, bb10⟩
              have HS2 := Lib.hid (HS1.out.below bb10)
              have hbs2 := HS2.out.bel.size
              have hmb : mb ≤ 200 := by have := own_len ob; rw [List.length_map, boxC_len] at this; have := (okRc_len r HO.out.1).2; omega
              have hml := own_len ob
              rcases ob.2 with ⟨_, h0⟩ | ⟨gb, cap, curb, rfl, _⟩
              · rw [List.length_map, boxC_len] at hml; omega
              clear o8
              go_wp2_with (at_builtin; refine wpList_append_own_at _ rfl _ _ 26 rfl w.heap.size 5 i0 (.int .u8 0) 1 1 Tryz.underlying26 hi hz0 hz1 hz2 rfl (by decide) _ _ _ rfl HS2.out.o8 ⟨gb, 0, none⟩ mb cap ((boxC (encC r)).map bv) rfl (by rw [hml, Nat.mul_one]) (fun q u hu => ob.cells rfl q u hu) (by intro u hu; obtain ⟨q, _, rfl⟩ := List.mem_map.1 hu; rfl) (by unfold maxLen; omega) (by omega) hbs2 ?_; intro v11 w11 h11 hg11 hv11; have H11 := Lib.hid (And.intro h11 (And.intro hg11 hv11)); clear h11 hg11 hv11)
              go_roundw
              case rel => exact ⟨i + 1, _, _, _, _, by go_num, rfl, (TornS.box HS2.out HO.out.2.2 HO.out.1 HO.out.2.1 H11.out.1 H11.out.2.1 H11.out.2.2)⟩
              case measure => have := HN.out; simp [intOf]; omega
            · have hm4 : ((y : Int) % 3 == 0) = false := by simp; omega
              clear hm3
              go_upto_region 15 with fail
              have HS1 := Lib.hid HS.out
              have hcu60 := HCU.out.2.1
              replace HCU := Lib.hid HCU.out.1
              clear hx1
              have e0 := (HS1.out.bel.cell (p := ⟨g, o + i * 6, none⟩) hgw).trans f0
              have e1 := (HS1.out.bel.cell (p := ⟨g, o + i * 6 + 1, none⟩) hgw).trans f1
              have e2 := (HS1.out.bel.cell (p := ⟨g, o + i * 6 + 2, none⟩) hgw).trans f2
              have e3 := (HS1.out.bel.cell (p := ⟨g, o + i * 6 + 3, none⟩) hgw).trans f3
              have e4 := (HS1.out.bel.cell (p := ⟨g, o + i * 6 + 4, none⟩) hgw).trans f4
              have e5 := (HS1.out.bel.cell (p := ⟨g, o + i * 6 + 5, none⟩) hgw).trans f5
              have o8 := HS1.out.o8
              have hb1s := HS1.out.bel.size
              have hl8 := segB_len cur HCU.out
              go_wp2_with fail
              refine (hBox _).mono ?_
              rintro e w10 ⟨vb, mb, rfl, ob, bb10⟩
              have HS2 := Lib.hid (HS1.out.below bb10)
              have hbs2 := HS2.out.bel.size
              have hmb : mb ≤ 200 := by have := own_len ob; rw [List.length_map, boxC_len] at this; have := (okRc_len r HO.out.1).2; omega
              have hml := own_len ob
              rcases ob.2 with ⟨_, h0⟩ | ⟨gb, cap, curb, rfl, _⟩
              · rw [List.length_map, boxC_len] at hml; omega
              clear o8
              go_wp2_with (at_builtin; refine wpList_append_own_at _ rfl _ _ 26 rfl w.heap.size 5 i0 (.int .u8 0) 1 1 Tryz.underlying26 hi hz0 hz1 hz2 rfl (by decide) _ _ _ rfl HS2.out.o8 ⟨gb, 0, none⟩ mb cap ((boxC (encC r)).map bv) rfl (by rw [hml, Nat.mul_one]) (fun q u hu => ob.cells rfl q u hu) (by intro u hu; obtain ⟨q, _, rfl⟩ := List.mem_map.1 hu; rfl) (by unfold maxLen; omega) (by omega) hbs2 ?_; intro v11 w11 h11 hg11 hv11; have H11 := Lib.hid (And.intro h11 (And.intro hg11 hv11)); clear h11 hg11 hv11)
              go_roundw
              case rel => exact ⟨i + 1, _, _, _, _, by go_num, rfl, (TornS.box HS2.out HO.out.2.2 HO.out.1 HO.out.2.1 H11.out.1 H11.out.2.1 H11.out.2.2).mono (by omega)⟩
              case measure => have := HN.out; simp [intOf]; omega
          · have hi1 : ¬ (i : Int) < (n1 : Int) := by omega
            clear hlt1 hbc
            go_upto_region 15 with fail
            have HS1 := Lib.hid HS.out
            have hcu60 := HCU.out.2.1
            replace HCU := Lib.hid HCU.out.1
            have e0 := (HS1.out.bel.cell (p := ⟨g, o + i * 6, none⟩) hgw).trans f0
            have e1 := (HS1.out.bel.cell (p := ⟨g, o + i * 6 + 1, none⟩) hgw).trans f1
            have e2 := (HS1.out.bel.cell (p := ⟨g, o + i * 6 + 2, none⟩) hgw).trans f2
            have e3 := (HS1.out.bel.cell (p := ⟨g, o + i * 6 + 3, none⟩) hgw).trans f3
            have e4 := (HS1.out.bel.cell (p := ⟨g, o + i * 6 + 4, none⟩) hgw).trans f4
            have e5 := (HS1.out.bel.cell (p := ⟨g, o + i * 6 + 5, none⟩) hgw).trans f5
            have o8 := HS1.out.o8
            have hb1s := HS1.out.bel.size
            have hl8 := segB_len cur HCU.out
            go_wp2_with fail
            refine (hBox _).mono ?_
            rintro e w10 ⟨vb, mb, rfl, ob, bb10⟩
            have HS2 := Lib.hid (HS1.out.below bb10)
            have hbs2 := HS2.out.bel.size
            have hmb : mb ≤ 200 := by have := own_len ob; rw [List.length_map, boxC_len] at this; have := (okRc_len r HO.out.1).2; omega
            have hml := own_len ob
            rcases ob.2 with ⟨_, h0⟩ | ⟨gb, cap, curb, rfl, _⟩
            · rw [List.length_map, boxC_len] at hml; omega
            clear o8
            go_wp2_with (at_builtin; refine wpList_append_own_at _ rfl _ _ 26 rfl w.heap.size 5 i0 (.int .u8 0) 1 1 Tryz.underlying26 hi hz0 hz1 hz2 rfl (by decide) _ _ _ rfl HS2.out.o8 ⟨gb, 0, none⟩ mb cap ((boxC (encC r)).map bv) rfl (by rw [hml, Nat.mul_one]) (fun q u hu => ob.cells rfl q u hu) (by intro u hu; obtain ⟨q, _, rfl⟩ := List.mem_map.1 hu; rfl) (by unfold maxLen; omega) (by omega) hbs2 ?_; intro v11 w11 h11 hg11 hv11; have H11 := Lib.hid (And.intro h11 (And.intro hg11 hv11)); clear h11 hg11 hv11)
            go_roundw
            case rel => exact ⟨i + 1, _, _, _, _, by go_num, rfl, (TornS.box HS2.out HO.out.2.2 HO.out.1 HO.out.2.1 H11.out.1 H11.out.2.1 H11.out.2.2).mono (by omega)⟩
            case measure => have := HN.out; simp [intOf]; omega
    · have hkn : ¬ (i : Int) < (n : Int) := by omega
      have hil : i = l.length := by have := hS.hi; have := HN.out.1; omega
      have hll : l.take i = l := by rw [hil, List.take_of_length_le (Nat.le_refl _)]
      have HTk := Lib.hid (show l = cs.flatten ++ cur ∧ l = l ∧ (∀ r ∈ l, okRc r) ∧ Chain l from ⟨hll ▸ hS.tk, rfl, hll ▸ hS.ok, hll ▸ hS.ch⟩)
      have HCU := Lib.hid (show cs.flatten.length = K ∧ cur.length + K = n ∧ cs.length ≤ 60 from ⟨hS.kk, by have h1 := congrArg List.length HTk.out.1; rw [List.length_append, hS.kk] at h1; have := HN.out.1; omega, by have := hS.len; have := HN.out; omega⟩)
      obtain ⟨T, hT⟩ : ∃ T, (segB cur).length = T := ⟨_, rfl⟩
      have o8 := hS.o8
      rw [hT] at o8
      obtain ⟨A8, c8, rfl, p1, p2, p3⟩ := own_form o8
      have hTl : lenB (cur.map encC) = T := hT
      have hT6 : T ≤ 3360 := by have := segB_len cur (fun q hq => HTk.out.2.2.1 q (by rw [HTk.out.1]; exact List.mem_append_right _ hq)); have := HCU.out; have := HN.out; omega
      have HTT := Lib.hid hT
      obtain ⟨A7, c7, rfl, _, _, _⟩ := own_form hS.o7
      have HS := Lib.hid hS
      have HP := Lib.hid (And.intro p1 (And.intro p2 p3))
      have iwr := keep hI hb
      have hAw := hA _ iwr
      clear hS o8 hlt hil hll hT p1
      by_cases hTM : M ≤ T
      · have hTm : ¬ (T : Int) < (M : Int) := by omega
        go_upto_region 18 with fail
        go_wp2_with fail
        obtain ⟨wo, rfl⟩ : ∃ wo, wo = wr := ⟨_, rfl⟩
        go_loopw [9, 11, 12] (fun v9 v11 v12 wt => ∃ k a q : Nat, k ≤ cur.length ∧ K + k = q ∧ v9 = .int .i64 (q : Nat) ∧ v11 = .int .i64 (a : Nat) ∧ lenB ((cur.map encC).take k) = a ∧ a ≤ M ∧ Below wo.heap.size wo wt) (fun v9 _ _ _ => n - (intOf v9).toNat)
        case atStart => exact ⟨0, 0, K, Nat.zero_le _, rfl, rfl, rfl, rfl, Nat.zero_le _, Below.refl _ _⟩
        case round =>
          obtain ⟨k, a, q, hk, hq, rfl, rfl, hlb, haM, hbt⟩ := hrel
          have HBt := Lib.hid hbt
          have hal := lenB_take_le (cur.map encC) k
          rw [hlb, hTl] at hal
          by_cases hkl : k < cur.length
          · obtain ⟨r, hr⟩ : ∃ r, cur[k]? = some r := ⟨_, List.getElem?_eq_getElem hkl⟩
            have hlr : l[q]? = some r := by
              rw [HTk.out.1, List.getElem?_append_right (by rw [HCU.out.1]; omega), HCU.out.1, ← hr]
              congr 1
              omega
            have hok := HTk.out.2.2.1 r (List.mem_of_getElem? hlr)
            obtain ⟨hro, hrt⟩ := HN.out.2.2 r (List.mem_of_getElem? hlr)
            obtain ⟨g, o, hAe, hgw, _, f0, f1, f2, f3, f4, f5⟩ := Rcs.at_ HR.out hlr
            subst hAe
            have hgw : g < w.heap.size := Nat.lt_of_not_le hgw
            have bt := hb.trans (hbt.mono hb.size)
            have e0 := (bt.cell (p := ⟨g, o + q * 6, none⟩) hgw).trans f0
            have e1 := (bt.cell (p := ⟨g, o + q * 6 + 1, none⟩) hgw).trans f1
            have e2 := (bt.cell (p := ⟨g, o + q * 6 + 2, none⟩) hgw).trans f2
            have e3 := (bt.cell (p := ⟨g, o + q * 6 + 3, none⟩) hgw).trans f3
            have e4 := (bt.cell (p := ⟨g, o + q * 6 + 4, none⟩) hgw).trans f4
            have e5 := (bt.cell (p := ⟨g, o + q * 6 + 5, none⟩) hgw).trans f5
            have hBox := fun w => refSegBox_any r.seq r.kind ⟨r.ten.toArray⟩ r.lease r.n r.bits hro.1 hro.2.2.2.1 hro.2.2.2.2.1 hro.2.2.2.2.2 (by show r.ten.toArray.size ≤ _; rw [List.size_toArray]; omega) (check_parts r hok.1).1 w
            rw [show (⟨r.seq, r.kind, (⟨r.ten.toArray⟩ : ByteArray).data.toList, r.lease, r.n, r.bits⟩ : Rc) = r from rfl] at hBox
            unfold rcV at hBox
            have hsz : lenB ((cur.map encC).take (k + 1)) = a + ((encC r).length + 6) := by rw [lenB_take_succ _ k (encC r) (by rw [List.getElem?_map, hr]; rfl), hlb]
            have hsl := lenB_take_le (cur.map encC) (k + 1)
            rw [hsz, hTl] at hsl
            have hel := (okRc_len r hok).2
            have hqn : (q : Int) < (n : Int) := by have := HCU.out.2.1; omega
            have hq60 : q < 60 := by have := HN.out.2.1; omega
            have haT : (a : Int) < (T : Int) := by omega
            have HSZ := Lib.hid (And.intro hsz (And.intro hlb (And.intro hkl hal)))
            clear hok hr hlr hro hrt f0 f1 f2 f3 f4 f5 hsz hlb hbt hal hkl
            go_wp2_with fail
            refine (hBox _).mono ?_
            rintro e w10 ⟨vb, mb, rfl, ob, bb10⟩
            have hml := own_len ob
            rw [List.length_map, boxC_len] at hml
            obtain ⟨Ab, cb, rfl, _, _, _⟩ := own_form ob
            replace HBt := Lib.hid (HBt.out.trans (bb10.mono HBt.out.size))
            rw [hml] at HSZ hsl
            clear ob bb10 hBox hml hel e0 e1 e2 e3 e4 e5
            have hwm : IntKind.i64.wrap ((a : Int) + (mb : Int)) = (a : Int) + (mb : Int) := by rw [IntKind.wrap_i64]; omega
            by_cases hfit : a + mb ≤ M
            · have hf1 : ¬ (M : Int) < (a : Int) + (mb : Int) := by omega
              go_wp2_with fail
              go_roundw
              case rel => exact ⟨k + 1, a + mb, q + 1, by have := HSZ.out.2.2.1; omega, by omega, by go_num, by go_num, HSZ.out.1, hfit, HBt.out⟩
              case measure => simp [intOf]; omega
            · have hf1 : (M : Int) < (a : Int) + (mb : Int) := by omega
              have HKK := Lib.hid (show k ≤ cur.length ∧ lenB ((cur.map encC).take k) ≤ M ∧ (k = cur.length ∨ M < lenB ((cur.map encC).take (k + 1))) from ⟨hk, by rw [HSZ.out.2.1]; exact haM, .inr (by rw [HSZ.out.1]; omega)⟩)
              clear HSZ hsl hfit
              have HTm := Lib.hid (torn_math l cs cur M k HTk.out.1 HTk.out.2.2.1 HTk.out.2.2.2 HKK.out.1 HKK.out.2.1 HKK.out.2.2)
              have hcl := HCU.out.2.2
              have HSt := Lib.hid (HS.out.below HBt.out)
              have o7 := HSt.out.o7
              have hbs := HSt.out.bel.size
              have hM0 : (M : Int) ≤ (c8 : Int) := by have := HP.out.2.1; omega
              go_upto_region 25 with (at_builtin; refine wpList_append_own_at _ rfl _ _ 22 rfl w.heap.size 26 i1 _ 1 24 Tryz.underlying22 hj hj0 hj1 hj2 rfl (by decide) _ _ _ rfl (o7.alloc _) ⟨w10.heap.size, 0, none⟩ 1 1 [.slice A8 M c8] rfl rfl (fun q u hu => by rw [Addr.add_lit, Nat.zero_add, World.cell?_alloc_new]; simpa using hu) (by intro u hu; rw [List.mem_singleton.1 hu]; rfl) (by unfold maxLen; omega) (by omega) (by simp; omega) ?_; intro v9 w9 h9 hg9 hv9; have H9 := Lib.hid (And.intro h9 (And.intro hg9 hv9)); clear h9 hg9 hv9)
              obtain ⟨A9, c9, rfl, hL9, t1, t2, t3, hB9⟩ := TornS.torn (HSt.out.below ((Below.refl _ w10).alloc (Nat.le_refl _) _)) HTT.out hTM H9.out.1 H9.out.2.1 H9.out.2.2
              have ic9 := keep hI hB9
              have hqn' : q ≤ n := by have := HCU.out.2.1; have := HKK.out.1; omega
              have hq60' : q ≤ 60 := by have := HN.out.2.1; omega
              have hsq : segsR [] (cs.map segB ++ [(segB cur).take M]) = l.take q := by rw [HTm.out, HCU.out.1, hq]
              have hsum : sumL (cs.map segB ++ [(segB cur).take M]) ≤ 100000 := by
                rw [sumL_append]
                have h1 := segs_sum cs (fun r hr => HTk.out.2.2.1 r (by rw [HTk.out.1]; exact List.mem_append_left _ hr))
                have h2 : sumL [(segB cur).take M] ≤ T := by unfold sumL; simp [HTT.out]; omega
                have := HCU.out
                omega
              have hlq : (l.take q).length = q := by rw [List.length_take, HN.out.1]; omega
              have hRec : ∀ w', Below w9.heap.size w9 w' → Calls Tryz.prog 11 #[.slice A9 (cs.length + 1) c9] w' fun e W' => ∃ A' c', e = .returned (.slice A' q c') ∧ Rcs W' (fun _ => False) A' q (l.take q) ∧ Below w'.heap.size w' W' := fun w' hw' =>
                (C.records A9 (cs.length + 1) c9 _ w' (keep ic9 hw') (hL9.ext hw') t1 t2 t3 hsum (by omega)).mono fun e W' ⟨A', k', c', h1, h2, h3⟩ => by
                  rw [hsq] at h2
                  obtain rfl : k' = q := by rw [← h2.len, hlq]
                  exact ⟨A', c', h1, h2, h3⟩
              have hSm : ∀ w' A' c', Rcs w' (fun _ => False) A' q (l.take q) → Below w9.heap.size w9 w' → Calls Tryz.prog 10 #[.slice A' q c', .slice (some ⟨g, o, none⟩) q c] w' fun e W' => e = .returned (.bool true) ∧ Below w'.heap.size w' W' := fun w' A' c' h hw' =>
                (sameRcs_any A' (some ⟨g, o, none⟩) q c' c (l.take q) _ (fun k => w.heap.size ≤ k) w' h ((HR.out.below (hB9.trans (hw'.mono hB9.size))).take hqn') (by omega) (fun r hr => HF.out r (List.mem_of_mem_take hr))).mono fun e W' ⟨h1, k, h2⟩ => ⟨h1, by rw [h2]; exact below_drewN (Below.refl _ _) k⟩
              have hAw9 : ∀ w', Below w9.heap.size w9 w' → Calls Tryz.prog 5 #[] w' fun e W' => e = .returned (.bool true) ∧ Below w'.heap.size w' W' := fun w' hw' => HAw.out w' (keep ic9 hw')
              have HB9 := Lib.hid hB9
              have hqc : (q : Int) ≤ (c : Int) := by have := HA.out.2.1; omega
              clear hL9 t1 t2 t3 hB9 ic9 hsq hsum hlq
              go_region_with (first | (go_at_call 11; refine (hRec _ (by first | exact Below.refl _ _ | exact below_drew (Below.refl _ _))).mono ?_; rintro e w20 ⟨A20, c20, rfl, hR20, hb20⟩; have HB20 : Hid (Below w9.heap.size w9 w20) := Lib.hid (by first | exact hb20 | exact bel_undrew hb20)) | (go_at_call 10; refine (hSm _ _ _ (by exact hR20) (by first | exact HB20.out | exact below_drew HB20.out)).mono ?_; rintro e w21 ⟨rfl, hb21⟩; have HB21 : Hid (Below w9.heap.size w9 w21) := Lib.hid (HB20.out.trans (Below.mono (by first | exact hb21 | exact bel_undrew hb21) HB20.out.size))) | (go_at_call 5; refine (hAw9 _ (by first | exact HB21.out | exact below_drew HB21.out)).mono ?_; rintro e w22 ⟨rfl, hb22⟩; have HB22 : Hid (Below w9.heap.size w9 w22) := Lib.hid (HB21.out.trans (Below.mono (by first | exact hb22 | exact bel_undrew hb22) HB21.out.size))))
              all_goals
                go_wp2_with fail
                go_ret
                exact ⟨rfl, HB9.out.trans (HB22.out.mono HB9.out.size)⟩
          · have hkc : k = cur.length := by omega
            have haT0 : a = T := by rw [hkc, List.take_of_length_le (by simp), hTl] at hlb; exact hlb.symm
            have haT : ¬ (a : Int) < (T : Int) := by omega
            have HKK := Lib.hid (show k ≤ cur.length ∧ lenB ((cur.map encC).take k) ≤ M ∧ (k = cur.length ∨ M < lenB ((cur.map encC).take (k + 1))) from ⟨hk, by rw [hlb]; exact haM, .inl hkc⟩)
            clear hlb hbt hal hkc haT0 hkl
            have HTm := Lib.hid (torn_math l cs cur M k HTk.out.1 HTk.out.2.2.1 HTk.out.2.2.2 HKK.out.1 HKK.out.2.1 HKK.out.2.2)
            have hcl := HCU.out.2.2
            have HSt := Lib.hid (HS.out.below HBt.out)
            have o7 := HSt.out.o7
            have hbs := HSt.out.bel.size
            have hM0 : (M : Int) ≤ (c8 : Int) := by have := HP.out.2.1; omega
            go_upto_region 25 with (at_builtin; refine wpList_append_own_at _ rfl _ _ 22 rfl w.heap.size 26 i1 _ 1 24 Tryz.underlying22 hj hj0 hj1 hj2 rfl (by decide) _ _ _ rfl (o7.alloc _) ⟨wr.heap.size, 0, none⟩ 1 1 [.slice A8 M c8] rfl rfl (fun q u hu => by rw [Addr.add_lit, Nat.zero_add, World.cell?_alloc_new]; simpa using hu) (by intro u hu; rw [List.mem_singleton.1 hu]; rfl) (by unfold maxLen; omega) (by omega) (by simp; omega) ?_; intro v9 w9 h9 hg9 hv9; have H9 := Lib.hid (And.intro h9 (And.intro hg9 hv9)); clear h9 hg9 hv9)
            obtain ⟨A9, c9, rfl, hL9, t1, t2, t3, hB9⟩ := TornS.torn (HSt.out.below ((Below.refl _ wr).alloc (Nat.le_refl _) _)) HTT.out hTM H9.out.1 H9.out.2.1 H9.out.2.2
            have ic9 := keep hI hB9
            have hqn' : q ≤ n := by have := HCU.out.2.1; have := HKK.out.1; omega
            have hq60' : q ≤ 60 := by have := HN.out.2.1; omega
            have hsq : segsR [] (cs.map segB ++ [(segB cur).take M]) = l.take q := by rw [HTm.out, HCU.out.1, hq]
            have hsum : sumL (cs.map segB ++ [(segB cur).take M]) ≤ 100000 := by
              rw [sumL_append]
              have h1 := segs_sum cs (fun r hr => HTk.out.2.2.1 r (by rw [HTk.out.1]; exact List.mem_append_left _ hr))
              have h2 : sumL [(segB cur).take M] ≤ T := by unfold sumL; simp [HTT.out]; omega
              have := HCU.out
              omega
            have hlq : (l.take q).length = q := by rw [List.length_take, HN.out.1]; omega
            have hRec : ∀ w', Below w9.heap.size w9 w' → Calls Tryz.prog 11 #[.slice A9 (cs.length + 1) c9] w' fun e W' => ∃ A' c', e = .returned (.slice A' q c') ∧ Rcs W' (fun _ => False) A' q (l.take q) ∧ Below w'.heap.size w' W' := fun w' hw' =>
              (C.records A9 (cs.length + 1) c9 _ w' (keep ic9 hw') (hL9.ext hw') t1 t2 t3 hsum (by omega)).mono fun e W' ⟨A', k', c', h1, h2, h3⟩ => by
                rw [hsq] at h2
                obtain rfl : k' = q := by rw [← h2.len, hlq]
                exact ⟨A', c', h1, h2, h3⟩
            have hSm : ∀ w' A' c', Rcs w' (fun _ => False) A' q (l.take q) → Below w9.heap.size w9 w' → Calls Tryz.prog 10 #[.slice A' q c', .slice A q c] w' fun e W' => e = .returned (.bool true) ∧ Below w'.heap.size w' W' := fun w' A' c' h hw' =>
              (sameRcs_any A' A q c' c (l.take q) _ (fun k => w.heap.size ≤ k) w' h ((HR.out.below (hB9.trans (hw'.mono hB9.size))).take hqn') (by omega) (fun r hr => HF.out r (List.mem_of_mem_take hr))).mono fun e W' ⟨h1, k, h2⟩ => ⟨h1, by rw [h2]; exact below_drewN (Below.refl _ _) k⟩
            have hAw9 : ∀ w', Below w9.heap.size w9 w' → Calls Tryz.prog 5 #[] w' fun e W' => e = .returned (.bool true) ∧ Below w'.heap.size w' W' := fun w' hw' => HAw.out w' (keep ic9 hw')
            have HB9 := Lib.hid hB9
            have hqc : (q : Int) ≤ (c : Int) := by have := HA.out.2.1; omega
            clear hL9 t1 t2 t3 hB9 ic9 hsq hsum hlq
            go_region_with (first | (go_at_call 11; refine (hRec _ (by first | exact Below.refl _ _ | exact below_drew (Below.refl _ _))).mono ?_; rintro e w20 ⟨A20, c20, rfl, hR20, hb20⟩; have HB20 : Hid (Below w9.heap.size w9 w20) := Lib.hid (by first | exact hb20 | exact bel_undrew hb20)) | (go_at_call 10; refine (hSm _ _ _ (by exact hR20) (by first | exact HB20.out | exact below_drew HB20.out)).mono ?_; rintro e w21 ⟨rfl, hb21⟩; have HB21 : Hid (Below w9.heap.size w9 w21) := Lib.hid (HB20.out.trans (Below.mono (by first | exact hb21 | exact bel_undrew hb21) HB20.out.size))) | (go_at_call 5; refine (hAw9 _ (by first | exact HB21.out | exact below_drew HB21.out)).mono ?_; rintro e w22 ⟨rfl, hb22⟩; have HB22 : Hid (Below w9.heap.size w9 w22) := Lib.hid (HB21.out.trans (Below.mono (by first | exact hb22 | exact bel_undrew hb22) HB21.out.size))))
            all_goals
              go_wp2_with fail
              go_ret
              exact ⟨rfl, HB9.out.trans (HB22.out.mono HB9.out.size)⟩
      · have hTm : (T : Int) < (M : Int) := by omega
        have HB := Lib.hid hb
        go_wp2_with fail
        refine hAw.mono ?_
        rintro e w1 ⟨rfl, hb1⟩
        go_wp2_with fail
        go_ret
        exact ⟨rfl, bthen HB.out hb1⟩
end Go.Proofs.YtgococpbhbcpmaaGreatDoor
