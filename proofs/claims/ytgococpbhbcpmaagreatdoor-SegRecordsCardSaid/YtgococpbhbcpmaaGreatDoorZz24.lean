/-
  The reference's records of segments.
-/
import Derived.Test.YtgococpbhbcpmaaGreatDoorZz23
import Derived.Test.YtgococpbhbcpmaaGreatDoorZz17
import Derived.Test.YtgococpbhbcpmaaGreatDoorZz18
import Derived.Test.YtgococpbhbcpmaaGreatDoorZz5
import Derived.Test.YtgococpbhbcpmaaGreatDoorZz6
import Derived.BigRegion
import Derived.Deep.RegionWith
import Derived.Deep.RegionHeld3
import Derived.Deep.CutRange
import Derived.Deep.Cut
namespace Go.Proofs.YtgococpbhbcpmaaGreatDoor
open Go.RowKit
set_option linter.unusedVariables false
set_option linter.unusedSimpArgs false

/-- What Record tells. -/
def RecQ (W : World) (r : Rc × Bool) (e : Ending) (W' : World) : Prop := e = .returned (.tuple #[.agg r.1.cells.toArray, .bool r.2]) ∧ Below W.heap.size W W'
def recR (b : List UInt8) : Rc × Bool := if recOk b then (recP b, true) else (zeroR, false)

set_option maxRecDepth 100000 in
set_option maxHeartbeats 2000000 in
theorem refRecord_short (A : Option Addr) (n c : Nat) (l : List UInt8) (W : World) (hln : l.length = n) (h : n < 10) :
    Calls Tryz.prog 26 #[.slice A n c] W (RecQ W (recR l)) := by
  have HR := Lib.hid (show recR l = (zeroR, false) by unfold recR recOk; rw [if_neg]; simp; omega)
  have h1 : (n : Int) < 10 := by omega
  go_enter Tryz.func26, Tryz.ntmps26
  go_wp2_with fail
  exact ret_cell_tmp rfl W.heap.size 25 zeroR.cells rfl (Blk.new W _ _ rfl) _ Tryz.underlying25 (by kernel_rfl) _ rfl rfl ⟨by rw [HR.out]; rfl, (Below.refl _ W).alloc (Nat.le_refl _) _⟩

/-- What stands while a record's fields are read. -/
def FldI (W : World) (B : Nat) (A : Option Addr) (m c : Nat) (rs : List UInt8) (A0 : Option Addr) (n : Nat) (l : List UInt8) (cs : List Value) (wx : World) : Prop :=
  Blk wx (W.heap.size + 1) 25 cs ∧ Blk wx W.heap.size 25 zeroR.cells ∧ Below W.heap.size W wx ∧ Byt wx B A m rs ∧ (A = none → c = 0) ∧ m ≤ c ∧ c ≤ maxLen ∧ Byt wx B A0 n l
theorem FldI.below {W w w' : World} {B : Nat} {A A0 : Option Addr} {m c n : Nat} {rs l : List UInt8} {cs : List Value} (h : FldI W B A m c rs A0 n l cs w) (hB : B ≤ W.heap.size) (hb : Below w.heap.size w w') : FldI W B A m c rs A0 n l cs w' := by
  obtain ⟨h1, h2, h3, h4, h5, h6, h7, h8⟩ := h
  exact ⟨h1.below hb h1.lt, h2.below hb h2.lt, h3.trans (hb.mono h3.size), h4.below (hb.mono (Nat.le_trans hB h3.size)), h5, h6, h7, h8.below (hb.mono (Nat.le_trans hB h3.size))⟩
theorem FldI.set {W w : World} {B : Nat} {A A0 : Option Addr} {m c n : Nat} {rs l : List UInt8} {cs : List Value} (h : FldI W B A m c rs A0 n l cs w) (hB : B ≤ W.heap.size) (i : Nat) (v : Value) : FldI W B A m c rs A0 n l (cs.set i v) (w.setCell ⟨W.heap.size + 1, i, none⟩ v) := by
  obtain ⟨h1, h2, h3, h4, h5, h6, h7, h8⟩ := h
  have hk : ∀ p : Addr, p.block < B → (w.setCell ⟨W.heap.size + 1, i, none⟩ v).cell? p = w.cell? p := fun p hp => World.cell?_of_block (w := w) (Below.heap_setCell _ _ _ _ (by simp; omega))
  exact ⟨h1.set i v, h2.other ⟨W.heap.size + 1, i, none⟩ v (by simp), h3.setCell (p := ⟨W.heap.size + 1, i, none⟩) (by simp) v, h4.keep hk, h5, h6, h7, h8.keep hk⟩
theorem FldI.step {W w : World} {B : Nat} {A A0 : Option Addr} {m c n : Nat} {rs l : List UInt8} {cs : List Value} (h : FldI W B A m c rs A0 n l cs w) (k : Nat) (hk : k ≤ m) : FldI W B (if c = k then A else A.map (·.add k)) (m - k) (c - k) (rs.drop k) A0 n l cs w := by
  obtain ⟨h1, h2, h3, h4, h5, h6, h7, h8⟩ := h
  refine ⟨h1, h2, h3, h4.cut hk h6, fun e => ?_, by omega, by omega, h8⟩
  split at e
  · have := h5 e; omega
  · cases A with
    | none => have := h5 rfl; omega
    | some q => cases e

set_option maxRecDepth 100000 in
set_option maxHeartbeats 4000000 in
theorem refRecord_long (B : Nat) (A : Option Addr) (n c : Nat) (l : List UInt8) (W : World) (hl : Byt W B A n l) (hB : B ≤ W.heap.size) (hnil : A = none → c = 0) (hnc : n ≤ c) (hcm : c ≤ maxLen) (hn : n ≤ 5000) (h10 : 10 ≤ n) :
    Calls Tryz.prog 26 #[.slice A n c] W (RecQ W (recR l)) := by
  have hln := hl.1
  have h1 : ¬ (n : Int) < 10 := by omega
  obtain ⟨g, o, hA, hgB, hcell⟩ := hl.2 (by omega)
  obtain ⟨k0, hk0⟩ : ∃ x, l[0]? = some x := ⟨_, List.getElem?_eq_getElem (by omega)⟩
  obtain ⟨k9, hk9⟩ : ∃ x, l[9]? = some x := ⟨_, List.getElem?_eq_getElem (by omega)⟩
  have c0 := hcell 0 k0 hk0
  have c9 := hcell 9 k9 hk9
  have g0 : l.getD 0 0 = k0 := by rw [List.getD_eq_getElem?_getD, hk0]; rfl
  have g9 : tnB l = k9.toNat := by unfold tnB; rw [List.getD_eq_getElem?_getD, hk9]; rfl
  obtain ⟨kn, hkn⟩ : ∃ x, k0.toNat = x := ⟨_, rfl⟩
  obtain ⟨tn, htn⟩ : ∃ x, k9.toNat = x := ⟨_, rfl⟩
  rw [hkn] at c0
  rw [htn] at c9 g9
  have hkl : kn < 256 := by rw [← hkn]; exact k0.toNat_lt
  have htl : tn < 256 := by rw [← htn]; exact k9.toNat_lt
  have hp1 : Byt W B (A.map (·.add 1)) 8 ((l.drop 1).take 8) := by
    have := hl.piece 1 8 (by omega) hnc
    rwa [if_neg (by omega)] at this
  rw [hA] at hp1 hl hnil ⊢
  have hNum := fun w (hb : Below W.heap.size W w) => refNumber_any (some ⟨g, o + 1, none⟩) 8 (c - 1) ((l.drop 1).take 8) B w ((hp1.below (hb.mono hB))) (by decide)
  obtain ⟨sq, hsq⟩ : ∃ x, num ((l.drop 1).take 8) = x := ⟨_, rfl⟩
  rw [hsq] at hNum
  have hq0 : (1 : Int) ≤ (c : Int) := by omega
  have hq1 : (9 : Int) ≤ (c : Int) := by omega
  have hq2 : (0 : Int) < (n : Int) := by omega
  have hq3 : (9 : Int) < (n : Int) := by omega
  have hn0 : 0 < n := by omega
  have hn9 : 9 < n := by omega
  have hc1 : ¬ c = 1 := by omega
  have hwk : IntKind.i64.wrap (kn : Int) = (kn : Int) := by rw [IntKind.wrap_i64]; omega
  have hwt : IntKind.i64.wrap (tn : Int) = (tn : Int) := by rw [IntKind.wrap_i64]; omega
  have HL := Lib.hid (And.intro hl (And.intro hB (And.intro hnil (And.intro hnc (And.intro hcm hn)))))
  have HG := Lib.hid (And.intro g0 (And.intro hkn (And.intro g9 hsq)))
  have HN := Lib.hid (And.intro hln h10)
  unfold maxLen at hcm
  clear hl hnil hnc hn hcell hk0 hk9 g0 g9 hkn htn hp1 hsq hA hln h10
  go_enter Tryz.func26, Tryz.ntmps26
  go_wp2_with fail
  have hB1 : Below W.heap.size W (W.alloc (.cells #[.int .u64 0, .int .i64 0, .string ⟨#[]⟩, .int .u64 0, .int .u64 0, .int .u64 0] 25)) := (Below.refl _ W).alloc (Nat.le_refl _) _
  have hb2 : Blk (W.alloc (.cells #[.int .u64 0, .int .i64 0, .string ⟨#[]⟩, .int .u64 0, .int .u64 0, .int .u64 0] 25)) W.heap.size 25 zeroR.cells := Blk.new W _ _ rfl
  have hs1 : (W.alloc (.cells #[.int .u64 0, .int .i64 0, .string ⟨#[]⟩, .int .u64 0, .int .u64 0, .int .u64 0] 25)).heap.size = W.heap.size + 1 := World.size_alloc ..
  have y0 := (hB1.cell (p := ⟨g, o + 0, none⟩) (by show g < _; omega)).trans c0
  rw [Nat.add_zero] at y0
  have y9 := (hB1.cell (p := ⟨g, o + 9, none⟩) (by show g < _; omega)).trans c9
  generalize (W.alloc (.cells #[.int .u64 0, .int .i64 0, .string ⟨#[]⟩, .int .u64 0, .int .u64 0, .int .u64 0] 25)) = w1 at hB1 hb2 hs1 y0 y9 ⊢
  have hs1' := hs1
  go_cut [4] from 11 to 18 (fun s4 wx => s4 = .pointer (some ⟨W.heap.size + 1, 0, none⟩) ∧ Blk wx w1.heap.size 25 (rcCs sq kn ⟨#[]⟩ 0 0 0) ∧ Below w1.heap.size w1 wx)
  case first =>
    go_region_held3 (fun w' => w'.cell? ⟨g, o, none⟩ = some (.int .u8 (kn : Nat))) (first | exact y0 | go_keep)
      ((first
        | (go_at_call 48; refine (hNum _ (by first | exact hB1 | exact below_drew hB1 | exact below_drew (hB1.alloc hB1.size _) | exact (below_drew hB1).alloc hB1.size _)).mono ?_; rintro e w7 ⟨rfl, rfl⟩)))
    all_goals
      go_wp2_with fail
      go_meet
      first
        | exact ⟨rfl, Blk.drew (Blk.new w1 _ _ rfl), below_drew ((Below.refl _ w1).alloc (Nat.le_refl _) _)⟩
        | exact ⟨by rw [← hs1], Blk.drew (Blk.new w1 _ _ rfl), below_drew ((Below.refl _ w1).alloc (Nat.le_refl _) _)⟩
  case rest =>
    obtain ⟨rfl, hbx, hbw⟩ := hcut
    clear hs1
    have x9 := (hbw.cell (p := ⟨g, o + 9, none⟩) (by show g < _; omega)).trans y9
    have hBc : Below W.heap.size W wc := hB1.trans (hbw.mono hB1.size)
    have hb2' := hb2.below hbw hb2.lt
    obtain ⟨t, ht⟩ : ∃ t, 10 + tn = t := ⟨_, rfl⟩
    have hwt2 : IntKind.i64.wrap (10 + (tn : Int)) = (t : Int) := by rw [IntKind.wrap_i64]; omega
    clear y0 y9 c0 c9 hq0 hq1 hb2
    by_cases hs : n < t
    · have hs1 : (n : Int) < (t : Int) := by omega
      have HR := Lib.hid (show recR l = (zeroR, false) by unfold recR recOk; rw [if_neg]; have := HG.out.2.2.1; have := HN.out.1; simp; omega)
      have hst : Below W.heap.size W (wc.setRow W.heap.size zeroR.cells.toArray) := below_row hBc (Nat.le_refl _) _
      clear HG HN hs ht HL
      go_wp2_with (refine st_blk rfl 25 _ _ rfl W.heap.size zeroR.cells rfl rfl 25 zeroR.cells hb2' (by kernel_rfl) rfl (by simp [Rc.cells, zeroR, Value.oneCell']) ?_)
      exact ret_cell_tmp rfl W.heap.size 25 zeroR.cells rfl (hb2'.row _) _ Tryz.underlying25 (by kernel_rfl) _ rfl rfl ⟨by rw [HR.out]; rfl, hst⟩
    · have hs1 : ¬ (n : Int) < (t : Int) := by omega
      obtain ⟨A10, hA10⟩ : ∃ z, (if c = 10 then (some ⟨g, o, none⟩ : Option Addr) else some ⟨g, o + 10, none⟩) = z := ⟨_, rfl⟩
      obtain ⟨ten, hten⟩ : ∃ z, (l.drop 10).take tn = z := ⟨_, rfl⟩
      have hx10 := (HL.out.1.below (hBc.mono hB)).piece 10 tn (by omega) HL.out.2.2.2.1
      rw [hten] at hx10
      replace hx10 : Byt wc B A10 tn ten := by rw [← hA10]; exact hx10
      have hcv := run_string_byt (P := Tryz.prog) (w := wc) (c := c - 10) 26 9 5 Tryz.underlying26 Tryz.underlying5 Tryz.underlying9 hx10
      have hq4 : (10 : Int) ≤ (t : Int) := by omega
      have hq5 : (t : Int) ≤ (c : Int) := by have := HL.out.2.2.2.1; omega
      have hq6 : (t : Int) ≤ (n : Int) := by omega
      have hq7 : t - 10 = tn := by omega
      have hq8 : tn ≤ 255 := by omega
      obtain ⟨A11, hA11⟩ : ∃ z, (if c = t then (some ⟨g, o, none⟩ : Option Addr) else some ⟨g, o + t, none⟩) = z := ⟨_, rfl⟩
      obtain ⟨rs, hrs⟩ : ∃ z, l.drop t = z := ⟨_, rfl⟩
      obtain ⟨m, hm⟩ : ∃ z, n - t = z := ⟨_, rfl⟩
      obtain ⟨c11, hc11⟩ : ∃ z, c - t = z := ⟨_, rfl⟩
      have hx11 := (HL.out.1.below (hBc.mono hB)).cut (k := t) (by omega) HL.out.2.2.2.1
      rw [hrs, hm] at hx11
      have hAA : (if c = t then (some ⟨g, o, none⟩ : Option Addr) else Option.map (fun (x : Addr) => x.add t) (some ⟨g, o, none⟩ : Option Addr)) = A11 := by
        rw [← hA11]
        by_cases h : c = t
        · rw [if_pos h, if_pos h]
        · rw [if_neg h, if_neg h]
          show some (Addr.add ⟨g, o, none⟩ t) = _
          rw [Addr.add_lit]
      rw [hAA] at hx11
      clear hAA
      have hnil11 : A11 = none → c11 = 0 := by
        intro h
        rw [← hA11] at h
        split at h <;> cases h
      have hmc : m ≤ c11 ∧ c11 ≤ maxLen := by have h1 := HL.out.2.2.2.1; have h2 := HL.out.2.2.2.2.1; omega
      rw [hs1'] at hbx
      obtain ⟨q0, q1, q2, q3, q4, q5⟩ := rc_cells hbx
      have f2 := hbx.frozen 2
      have hbx2 := hbx.set 2 (.string ⟨ten.toArray⟩)
      have hne : W.heap.size ≠ W.heap.size + 1 := by omega
      have hb3 := hb2'.other ⟨W.heap.size + 1, 2, none⟩ (.string ⟨ten.toArray⟩) hne
      have hBc2 := hBc.setCell (p := ⟨W.heap.size + 1, 2, none⟩) (by simp) (.string ⟨ten.toArray⟩)
      have HM := Lib.hid (And.intro ht (And.intro hten (And.intro hrs hm)))
      have hxl : Byt (wc.setCell ⟨W.heap.size + 1, 2, none⟩ (.string ⟨ten.toArray⟩)) B (some ⟨g, o, none⟩) n l := (HL.out.1.below (hBc.mono hB)).keep fun p hp => World.cell?_of_block (w := wc) (Below.heap_setCell _ _ _ _ (by simp; omega))
      have hx11' : Byt (wc.setCell ⟨W.heap.size + 1, 2, none⟩ (.string ⟨ten.toArray⟩)) B A11 m rs := hx11.keep fun p hp => World.cell?_of_block (w := wc) (Below.heap_setCell _ _ _ _ (by simp; omega))
      have HX := Lib.hid (show FldI W B A11 m c11 rs (some ⟨g, o, none⟩) n l (rcCs sq kn ⟨ten.toArray⟩ 0 0 0) _ from ⟨hbx2, hb3, hBc2, hx11', hnil11, hmc.1, hmc.2, hxl⟩)
      have hwn : (wc.setCell ⟨W.heap.size + 1, 2, none⟩ (.string ⟨ten.toArray⟩)).cell? ⟨W.heap.size + 1, 1, none⟩ = some (.int .i64 (kn : Nat)) := hbx2.cell 1
      have hml : m ≤ 5000 := by have := HL.out.2.2.2.2.2; omega
      clear hbx2 hb3 hBc2 hx11' hnil11 ht hten hrs hx11 hx10 hb2' hBc hbw hB1 hxl
      go_upto_region 9 with fail
      have hHas1 := fun w => refHas_any (kn : Int) 108 (.inl rfl) w
      rw [show fldZ (kn : Int) 108 = kL (kn : Int) from rfl] at hHas1
      obtain ⟨f1, hf1⟩ : ∃ f, (kL kn && decide (8 ≤ m)) = f := ⟨_, rfl⟩
      generalize wc.setCell ⟨W.heap.size + 1, 2, none⟩ (.string ⟨ten.toArray⟩) = wa at HX hwn ⊢
      go_cut [46] from 39 to 46 (fun s wx => s = .bool f1 ∧ FldI W B A11 m c11 rs (some ⟨g, o, none⟩) n l (rcCs sq kn ⟨ten.toArray⟩ 0 0 0) wx)
      case first =>
        obtain ⟨f, hf⟩ : ∃ f, kL kn = f := ⟨_, rfl⟩
        rw [hf] at hHas1 hf1
        clear hf
        cases f with
        | false =>
          obtain rfl : false = f1 := hf1
          go_wp2_with fail
          refine (hHas1 _).mono ?_
          rintro e w5 ⟨rfl, hb5⟩
          go_wp2_with fail
          go_meet
          exact ⟨rfl, HX.out.below HL.out.2.1 hb5⟩
        | true =>
          by_cases h8 : 8 ≤ m
          · have h8' : (8 : Int) ≤ (m : Int) := by omega
            rw [decide_eq_true h8] at hf1
            obtain rfl : true = f1 := hf1
            go_wp2_with fail
            refine (hHas1 _).mono ?_
            rintro e w5 ⟨rfl, hb5⟩
            go_wp2_with fail
            go_meet
            exact ⟨by first | rfl | exact congrArg Value.bool (decide_eq_false (by omega)), HX.out.below HL.out.2.1 hb5⟩
          · have h8' : ¬ (8 : Int) ≤ (m : Int) := by omega
            rw [decide_eq_false h8] at hf1
            obtain rfl : false = f1 := hf1
            go_wp2_with fail
            refine (hHas1 _).mono ?_
            rintro e w5 ⟨rfl, hb5⟩
            go_wp2_with fail
            go_meet
            exact ⟨by first | rfl | exact congrArg Value.bool (decide_eq_false (by omega)), HX.out.below HL.out.2.1 hb5⟩
      case rest =>
        obtain ⟨rfl, hF⟩ := hcut
        clear HX hwn hHas1
        go_upto_if 46 with fail
        go_cut [6] from 47 to 52 (fun s wx => ∃ Az mz cz, s = .slice Az mz cz ∧ mz ≤ m ∧ FldI W B Az mz cz (pf (kL kn) rs).2 (some ⟨g, o, none⟩) n l (rcCs sq kn ⟨ten.toArray⟩ (pf (kL kn) rs).1 0 0) wx)
        case first =>
          have hrl := hF.2.2.2.1.1
          cases f1 with
          | false =>
            have hpf : pf (kL kn) rs = (0, rs) := pf_no _ _ (by rw [hrl]; exact hf1)
            clear hrl
            go_wp2_with fail
            go_meet
            exact ⟨A11, m, c11, rfl, Nat.le_refl _, by rw [hpf]; exact hF⟩
          | true =>
            have h8 : 8 ≤ m := by have := Bool.and_eq_true_iff.1 hf1; exact of_decide_eq_true this.2
            have hpf : pf (kL kn) rs = (num (rs.take 8), rs.drop 8) := pf_yes _ _ (by rw [hrl]; exact hf1)
            have hNum := refNumber_any A11 8 c11 (rs.take 8) B wc (hF.2.2.2.1.take h8) (by decide)
            obtain ⟨y, hy⟩ : ∃ y, num (rs.take 8) = y := ⟨_, rfl⟩
            rw [hy] at hNum hpf
            have e1 : (8 : Int) ≤ (c11 : Int) := by have := hF.2.2.2.2.2.1; omega
            have e2 : (8 : Int) ≤ (m : Int) := by omega
            have s0 : wc.frozen? ⟨W.heap.size + 1, 3, none⟩ = false := hF.1.frozen 3
            have s1 : wc.cell? ⟨W.heap.size + 1, 3, none⟩ = some (.int .u64 ((0 : Nat) : Int)) := hF.1.cell 3
            have HF2 := Lib.hid ((hF.set HL.out.2.1 3 (.int .u64 (y : Nat))).step 8 h8)
            have HP := Lib.hid hpf
            have hmc8 := hF.2.2.2.2.2.1
            clear hrl hpf hy hF
            by_cases hc8 : c11 = 8
            · rw [if_pos hc8] at HF2
              subst hc8
              obtain rfl : m = 8 := by omega
              go_wp2_with fail
              refine hNum.mono ?_
              rintro e w5 ⟨rfl, rfl⟩
              go_wp2_with fail
              go_meet
              exact ⟨_, 0, 0, rfl, by omega, by rw [HP.out]; exact HF2.out⟩
            · rw [if_neg hc8] at HF2
              clear hmc8
              go_wp2_with fail
              refine hNum.mono ?_
              rintro e w5 ⟨rfl, rfl⟩
              go_wp2_with fail
              go_meet
              exact ⟨_, m - 8, c11 - 8, rfl, by omega, by rw [HP.out]; exact HF2.out⟩
        case rest =>
          obtain ⟨A12, m2, c12, rfl, hle1, hF2⟩ := hcut
          clear hF
          obtain ⟨x3, hx3⟩ : ∃ z, (pf (kL kn) rs).1 = z := ⟨_, rfl⟩
          obtain ⟨rs2, hrs2⟩ : ∃ z, (pf (kL kn) rs).2 = z := ⟨_, rfl⟩
          rw [hx3, hrs2] at hF2
          have HX := Lib.hid hF2
          have hwn : wc.cell? ⟨W.heap.size + 1, 1, none⟩ = some (.int .i64 (kn : Nat)) := hF2.1.cell 1
          have hml1 : m2 ≤ 5000 := by omega
          clear hF2
          have hHas2 := fun w => refHas_any (kn : Int) 110 (.inr (.inl rfl)) w
          rw [show fldZ (kn : Int) 110 = kN (kn : Int) from rfl] at hHas2
          obtain ⟨f2, hf2⟩ : ∃ f, (kN kn && decide (8 ≤ m2)) = f := ⟨_, rfl⟩
          go_upto_region 12 with fail
          go_cut [60] from 53 to 60 (fun s wx => s = .bool f2 ∧ FldI W B A12 m2 c12 rs2 (some ⟨g, o, none⟩) n l (rcCs sq kn ⟨ten.toArray⟩ x3 0 0) wx)
          case first =>
            obtain ⟨f, hf⟩ : ∃ f, kN kn = f := ⟨_, rfl⟩
            rw [hf] at hHas2 hf2
            clear hf
            cases f with
            | false =>
              obtain rfl : false = f2 := hf2
              go_wp2_with fail
              refine (hHas2 _).mono ?_
              rintro e w5 ⟨rfl, hb5⟩
              go_wp2_with fail
              go_meet
              exact ⟨rfl, HX.out.below HL.out.2.1 hb5⟩
            | true =>
              by_cases h8 : 8 ≤ m2
              · have h8' : (8 : Int) ≤ (m2 : Int) := by omega
                rw [decide_eq_true h8] at hf2
                obtain rfl : true = f2 := hf2
                go_wp2_with fail
                refine (hHas2 _).mono ?_
                rintro e w5 ⟨rfl, hb5⟩
                go_wp2_with fail
                go_meet
                exact ⟨by first | rfl | exact congrArg Value.bool (decide_eq_false (by omega)), HX.out.below HL.out.2.1 hb5⟩
              · have h8' : ¬ (8 : Int) ≤ (m2 : Int) := by omega
                rw [decide_eq_false h8] at hf2
                obtain rfl : false = f2 := hf2
                go_wp2_with fail
                refine (hHas2 _).mono ?_
                rintro e w5 ⟨rfl, hb5⟩
                go_wp2_with fail
                go_meet
                exact ⟨by first | rfl | exact congrArg Value.bool (decide_eq_false (by omega)), HX.out.below HL.out.2.1 hb5⟩
          case rest =>
            obtain ⟨rfl, hF⟩ := hcut
            clear HX hwn hHas2
            go_upto_if 60 with fail
            go_cut [6] from 61 to 66 (fun s wx => ∃ Az mz cz, s = .slice Az mz cz ∧ mz ≤ m2 ∧ FldI W B Az mz cz (pf (kN kn) rs2).2 (some ⟨g, o, none⟩) n l (rcCs sq kn ⟨ten.toArray⟩ x3 (pf (kN kn) rs2).1 0) wx)
            case first =>
              have hrl := hF.2.2.2.1.1
              cases f2 with
              | false =>
                have hpf : pf (kN kn) rs2 = (0, rs2) := pf_no _ _ (by rw [hrl]; exact hf2)
                clear hrl
                go_wp2_with fail
                go_meet
                exact ⟨A12, m2, c12, rfl, Nat.le_refl _, by rw [hpf]; exact hF⟩
              | true =>
                have h8 : 8 ≤ m2 := by have := Bool.and_eq_true_iff.1 hf2; exact of_decide_eq_true this.2
                have hpf : pf (kN kn) rs2 = (num (rs2.take 8), rs2.drop 8) := pf_yes _ _ (by rw [hrl]; exact hf2)
                have hNum := refNumber_any A12 8 c12 (rs2.take 8) B wc (hF.2.2.2.1.take h8) (by decide)
                obtain ⟨y, hy⟩ : ∃ y, num (rs2.take 8) = y := ⟨_, rfl⟩
                rw [hy] at hNum hpf
                have e1 : (8 : Int) ≤ (c12 : Int) := by have := hF.2.2.2.2.2.1; omega
                have e2 : (8 : Int) ≤ (m2 : Int) := by omega
                have s0 : wc.frozen? ⟨W.heap.size + 1, 4, none⟩ = false := hF.1.frozen 4
                have s1 : wc.cell? ⟨W.heap.size + 1, 4, none⟩ = some (.int .u64 ((0 : Nat) : Int)) := hF.1.cell 4
                have HF2 := Lib.hid ((hF.set HL.out.2.1 4 (.int .u64 (y : Nat))).step 8 h8)
                have HP := Lib.hid hpf
                have hmc8 := hF.2.2.2.2.2.1
                clear hrl hpf hy hF
                by_cases hc8 : c12 = 8
                · rw [if_pos hc8] at HF2
                  subst hc8
                  obtain rfl : m2 = 8 := by omega
                  go_wp2_with fail
                  refine hNum.mono ?_
                  rintro e w5 ⟨rfl, rfl⟩
                  go_wp2_with fail
                  go_meet
                  exact ⟨_, 0, 0, rfl, by omega, by rw [HP.out]; exact HF2.out⟩
                · rw [if_neg hc8] at HF2
                  clear hmc8
                  go_wp2_with fail
                  refine hNum.mono ?_
                  rintro e w5 ⟨rfl, rfl⟩
                  go_wp2_with fail
                  go_meet
                  exact ⟨_, m2 - 8, c12 - 8, rfl, by omega, by rw [HP.out]; exact HF2.out⟩
            case rest =>
              obtain ⟨A13, m3, c13, rfl, hle2, hF2⟩ := hcut
              clear hF
              obtain ⟨x4, hx4⟩ : ∃ z, (pf (kN kn) rs2).1 = z := ⟨_, rfl⟩
              obtain ⟨rs3, hrs3⟩ : ∃ z, (pf (kN kn) rs2).2 = z := ⟨_, rfl⟩
              rw [hx4, hrs3] at hF2
              have HX := Lib.hid hF2
              have hwn : wc.cell? ⟨W.heap.size + 1, 1, none⟩ = some (.int .i64 (kn : Nat)) := hF2.1.cell 1
              have hml2 : m3 ≤ 5000 := by omega
              clear hF2
              have hHas3 := fun w => refHas_any (kn : Int) 98 (.inr (.inr rfl)) w
              rw [show fldZ (kn : Int) 98 = kB (kn : Int) from rfl] at hHas3
              obtain ⟨f3, hf3⟩ : ∃ f, (kB kn && decide (8 ≤ m3)) = f := ⟨_, rfl⟩
              go_upto_region 15 with fail
              go_cut [74] from 67 to 74 (fun s wx => s = .bool f3 ∧ FldI W B A13 m3 c13 rs3 (some ⟨g, o, none⟩) n l (rcCs sq kn ⟨ten.toArray⟩ x3 x4 0) wx)
              case first =>
                obtain ⟨f, hf⟩ : ∃ f, kB kn = f := ⟨_, rfl⟩
                rw [hf] at hHas3 hf3
                clear hf
                cases f with
                | false =>
                  obtain rfl : false = f3 := hf3
                  go_wp2_with fail
                  refine (hHas3 _).mono ?_
                  rintro e w5 ⟨rfl, hb5⟩
                  go_wp2_with fail
                  go_meet
                  exact ⟨rfl, HX.out.below HL.out.2.1 hb5⟩
                | true =>
                  by_cases h8 : 8 ≤ m3
                  · have h8' : (8 : Int) ≤ (m3 : Int) := by omega
                    rw [decide_eq_true h8] at hf3
                    obtain rfl : true = f3 := hf3
                    go_wp2_with fail
                    refine (hHas3 _).mono ?_
                    rintro e w5 ⟨rfl, hb5⟩
                    go_wp2_with fail
                    go_meet
                    exact ⟨by first | rfl | exact congrArg Value.bool (decide_eq_false (by omega)), HX.out.below HL.out.2.1 hb5⟩
                  · have h8' : ¬ (8 : Int) ≤ (m3 : Int) := by omega
                    rw [decide_eq_false h8] at hf3
                    obtain rfl : false = f3 := hf3
                    go_wp2_with fail
                    refine (hHas3 _).mono ?_
                    rintro e w5 ⟨rfl, hb5⟩
                    go_wp2_with fail
                    go_meet
                    exact ⟨by first | rfl | exact congrArg Value.bool (decide_eq_false (by omega)), HX.out.below HL.out.2.1 hb5⟩
              case rest =>
                obtain ⟨rfl, hF⟩ := hcut
                clear HX hwn hHas3
                go_upto_if 74 with fail
                go_cut [] from 75 to 78 (fun wx => ∃ Az mz cz rz, FldI W B Az mz cz rz (some ⟨g, o, none⟩) n l (rcCs sq kn ⟨ten.toArray⟩ x3 x4 (pf (kB kn) rs3).1) wx)
                case first =>
                  have hrl := hF.2.2.2.1.1
                  cases f3 with
                  | false =>
                    have hpf : pf (kB kn) rs3 = (0, rs3) := pf_no _ _ (by rw [hrl]; exact hf3)
                    clear hrl
                    go_wp2_with fail
                    go_meet
                    exact ⟨A13, m3, c13, rs3, by rw [hpf]; exact hF⟩
                  | true =>
                    have h8 : 8 ≤ m3 := by have := Bool.and_eq_true_iff.1 hf3; exact of_decide_eq_true this.2
                    have hpf : pf (kB kn) rs3 = (num (rs3.take 8), rs3.drop 8) := pf_yes _ _ (by rw [hrl]; exact hf3)
                    have hNum := refNumber_any A13 8 c13 (rs3.take 8) B wc (hF.2.2.2.1.take h8) (by decide)
                    obtain ⟨y, hy⟩ : ∃ y, num (rs3.take 8) = y := ⟨_, rfl⟩
                    rw [hy] at hNum hpf
                    have e1 : (8 : Int) ≤ (c13 : Int) := by have := hF.2.2.2.2.2.1; omega
                    have e2 : (8 : Int) ≤ (m3 : Int) := by omega
                    have s0 : wc.frozen? ⟨W.heap.size + 1, 5, none⟩ = false := hF.1.frozen 5
                    have s1 : wc.cell? ⟨W.heap.size + 1, 5, none⟩ = some (.int .u64 ((0 : Nat) : Int)) := hF.1.cell 5
                    have HF2 := Lib.hid ((hF.set HL.out.2.1 5 (.int .u64 (y : Nat))).step 8 h8)
                    have HP := Lib.hid hpf
                    have hmc8 := hF.2.2.2.2.2.1
                    clear hrl hpf hy hF
                    by_cases hc8 : c13 = 8
                    · rw [if_pos hc8] at HF2
                      subst hc8
                      obtain rfl : m3 = 8 := by omega
                      go_wp2_with fail
                      refine hNum.mono ?_
                      rintro e w5 ⟨rfl, rfl⟩
                      go_wp2_with fail
                      go_meet
                      exact ⟨_, 0, 0, rs3.drop 8, by rw [HP.out]; exact HF2.out⟩
                    · rw [if_neg hc8] at HF2
                      clear hmc8
                      go_wp2_with fail
                      refine hNum.mono ?_
                      rintro e w5 ⟨rfl, rfl⟩
                      go_wp2_with fail
                      go_meet
                      exact ⟨_, m3 - 8, c13 - 8, rs3.drop 8, by rw [HP.out]; exact HF2.out⟩
                case rest =>
                  obtain ⟨A14, m4, c14, r4, hF2⟩ := hcut
                  clear hF
                  obtain ⟨x5, hx5⟩ : ∃ z, (pf (kB kn) rs3).1 = z := ⟨_, rfl⟩
                  rw [hx5] at hF2
                  obtain ⟨r, hr⟩ : ∃ r : Rc, recP l = r := ⟨_, rfl⟩
                  have hre : r = ⟨sq, kn, ten, x3, x4, x5⟩ := by
                    rw [← hr]
                    unfold recP
                    rw [HG.out.2.2.1, HG.out.1, HG.out.2.1, HG.out.2.2.2, HM.out.2.1, HM.out.1, HM.out.2.2.1, hrs2, hrs3, hx3, hx4, hx5]
                  have hro := recP_okay l
                  rw [hr, hre] at hro
                  have htl2 : ten.length ≤ 255 := by rw [← HM.out.2.1, List.length_take]; omega
                  have hRR : recR l = if checkC r = 0 ∧ encC r = l then (r, true) else (zeroR, false) := by
                    unfold recR recOk
                    rw [hr, HG.out.2.2.1]
                    have g1 : 10 ≤ l.length := by have := HN.out; omega
                    have g2 : 10 + tn ≤ l.length := by have := HN.out; have := HM.out.1; omega
                    by_cases hq : checkC r = 0 ∧ encC r = l
                    · rw [if_pos hq, if_pos (decide_eq_true ⟨g1, g2, hq.1, hq.2⟩)]
                    · rw [if_neg hq, if_neg]
                      intro e
                      have e' : _ ∧ _ ∧ _ ∧ _ := of_decide_eq_true e
                      exact hq ⟨e'.2.2.1, e'.2.2.2⟩
                  rw [hre] at hRR
                  have hChk := fun w => refCheck_any sq kn ⟨ten.toArray⟩ x3 x4 x5 (by show ten.toArray.size ≤ _; rw [List.size_toArray]; omega) hro.2.2.2.2.2 w
                  rw [show (⟨ten.toArray⟩ : ByteArray).data.toList = ten from rfl] at hChk
                  obtain ⟨q0, q1, q2, q3, q4, q5⟩ := rc_cells hF2.1
                  have HF := Lib.hid hF2
                  obtain ⟨ck, hck⟩ : ∃ z, checkC ⟨sq, kn, ten, x3, x4, x5⟩ = z := ⟨_, rfl⟩
                  rw [hck] at hChk hRR
                  unfold rcV at hChk
                  have HRR := Lib.hid hRR
                  clear hF2 hRR hre hr hx3 hx4 hx5 hrs2 hrs3 hf1 hf2 hf3 hs
                  by_cases hc0 : ck = 0
                  · rw [hc0] at hck hChk
                    have hkk : isK (kn : Int) = true := (check_parts _ hck).1
                    have hByt := fun w => refBytes_any sq kn ⟨ten.toArray⟩ x3 x4 x5 hro.1 hro.2.2.2.1 hro.2.2.2.2.1 hro.2.2.2.2.2 (by show ten.toArray.size ≤ _; rw [List.size_toArray]; omega) hkk w
                    rw [show (⟨ten.toArray⟩ : ByteArray).data.toList = ten from rfl] at hByt
                    obtain ⟨E, hE⟩ : ∃ E, encC ⟨sq, kn, ten, x3, x4, x5⟩ = E := ⟨_, rfl⟩
                    rw [hE] at hByt HRR
                    unfold rcV at hByt
                    have HE := Lib.hid (show E.length ≤ 1000 by
                      have := (recP_enc _ hro hck).2.2
                      have hel := enc_len ⟨sq, kn, ten, x3, x4, x5⟩
                      rw [hE] at hel
                      simp only at hel
                      omega)
                    obtain ⟨d, hd⟩ : ∃ d, decide (E = l) = d := ⟨_, rfl⟩
                    have HZ := Lib.hid (show recR l = if d then (⟨sq, kn, ten, x3, x4, x5⟩, true) else (zeroR, false) by
                      rw [HRR.out]
                      by_cases h : E = l
                      · rw [if_pos ⟨hc0, h⟩, ← hd, decide_eq_true h]; rfl
                      · rw [if_neg (fun q => h q.2), ← hd, decide_eq_false h]; rfl)
                    clear hc0 hck HRR hE
                    go_wp2_with fail
                    refine (hChk _).mono ?_
                    rintro e w5 ⟨rfl, hb5⟩
                    have hF5 := HF.out.below HL.out.2.1 hb5
                    obtain ⟨q0, q1, q2, q3, q4, q5⟩ := rc_cells hF5.1
                    have HF5 := Lib.hid hF5
                    clear hF5
                    go_wp2_with fail
                    refine (hByt _).mono ?_
                    rintro e w6 ⟨v6, m6, rfl, ho6, hb6⟩
                    obtain ⟨A6, c6, rfl, r1, r2, r3⟩ := own_form ho6
                    have hF6 := HF5.out.below HL.out.2.1 hb6
                    have hxE := Byt.of_own ho6
                    have hm6 : m6 ≤ 1000 := by have := HE.out; have := hxE.1; omega
                    go_wp2_with fail
                    refine (same_any A6 (some ⟨g, o, none⟩) m6 c6 n c E l w6.heap.size w6 hxE (hF6.2.2.2.2.2.2.2.more (Nat.le_trans HL.out.2.1 hF6.2.2.1.size)) (by omega)).mono ?_
                    rintro e w7 ⟨rfl, k7, rfl⟩
                    rw [hd]
                    have hF7 := hF6.below HL.out.2.1 (below_drewN (Below.refl _ w6) k7)
                    have hst := below_row hF7.2.2.1 (Nat.le_refl _)
                    generalize w6.drewN k7 = w8 at hF7 hst ⊢
                    clear hd
                    cases d with
                    | false =>
                      have HZ2 := Lib.hid (show recR l = (zeroR, false) from HZ.out)
                      go_wp2_with (refine st_blk rfl 25 _ _ rfl W.heap.size zeroR.cells rfl rfl 25 zeroR.cells hF7.2.1 (by kernel_rfl) rfl (by simp [Rc.cells, zeroR, Value.oneCell']) ?_)
                      exact ret_cell_tmp rfl W.heap.size 25 zeroR.cells rfl (hF7.2.1.row _) _ Tryz.underlying25 (by kernel_rfl) _ rfl rfl ⟨by rw [HZ2.out]; rfl, hst _⟩
                    | true =>
                      have HZ2 := Lib.hid (show recR l = (⟨sq, kn, ten, x3, x4, x5⟩, true) from HZ.out)
                      obtain ⟨y0, y1, y2, y3, y4, y5⟩ := rc_cells hF7.1
                      go_wp2_with (refine st_blk rfl 25 _ _ rfl W.heap.size (rcCs sq kn ⟨ten.toArray⟩ x3 x4 x5) rfl rfl 25 zeroR.cells hF7.2.1 (by kernel_rfl) rfl (by simp [rcCs, Value.oneCell']) ?_)
                      exact ret_cell_tmp rfl W.heap.size 25 (rcCs sq kn ⟨ten.toArray⟩ x3 x4 x5) rfl (hF7.2.1.row _) _ Tryz.underlying25 (by kernel_rfl) _ rfl rfl ⟨by rw [HZ2.out]; rfl, hst _⟩
                  · have HZ := Lib.hid (show recR l = (zeroR, false) by rw [HRR.out, if_neg (by rintro ⟨h, _⟩; exact hc0 h)])
                    have hq : (ck != 0) = true := by simpa using hc0
                    clear hc0 HRR
                    go_wp2_with fail
                    refine (hChk _).mono ?_
                    rintro e w5 ⟨rfl, hb5⟩
                    have hF5 := HF.out.below HL.out.2.1 hb5
                    have hst := below_row hF5.2.2.1 (Nat.le_refl _) (zeroR.cells.toArray)
                    go_wp2_with (refine st_blk rfl 25 _ _ rfl W.heap.size zeroR.cells rfl rfl 25 zeroR.cells hF5.2.1 (by kernel_rfl) rfl (by simp [Rc.cells, zeroR, Value.oneCell']) ?_)
                    exact ret_cell_tmp rfl W.heap.size 25 zeroR.cells rfl (hF5.2.1.row _) _ Tryz.underlying25 (by kernel_rfl) _ rfl rfl ⟨by rw [HZ.out]; rfl, hst⟩

end Go.Proofs.YtgococpbhbcpmaaGreatDoor
