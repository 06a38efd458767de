/-
  Law 14: WalKeeps, by the program's contracts.
-/
import Derived.Test.YthjikbhjciphiaaGreatDoorZz34
import Derived.Test.YthjikbhjciphiaaGreatDoorZz3
import Derived.Deep.CutRange
import Derived.Deep.CutBlock
import Derived.Deep.DeepCutAuto
namespace Go.Proofs.YthjikbhjciphiaaGreatDoor
open Go.RowKit
set_option linter.unusedVariables false
set_option linter.unusedSimpArgs false

set_option maxRecDepth 100000 in
set_option maxHeartbeats 4000000 in
theorem walKeeps_small {N : Nat} {I : World → Prop} {PD : World → (Nat → Prop) → Nat → Dk → Prop} {LA : World → (Nat → Prop) → Nat → Nat → Jn → Prop} (C : WalC N I PD LA) (A : Option Addr) (n c : Nat) (l : List Jst) (next : Nat) (W : World) (hI : I W) (hN : N ≤ W.heap.size)
    (hR : Jsts W (fun k => W.heap.size ≤ k) A n l) (hf : FineJ l) (hnc : n ≤ c) (hcm : c ≤ maxLen) (hl : largeJ l = false) (hnx : next ≤ 4611686018427387904) :
    Calls Tryz.prog 3 #[.slice A n c, .int .u64 ((next : Nat) : Int)] W fun e W' => e = .returned (.bool true) ∧ Below W.heap.size W W' := by
  obtain ⟨i0, hi0, hz0, hz1, hz2⟩ := info_parts Tryz.infoRc
  have hLg := refLargeJ_any A n c l _ W hR (Nat.le_trans hnc hcm) hf
  rw [hl] at hLg
  obtain ⟨hl80, hten⟩ := largeJ_not l hl
  have hln := hR.len
  have hNew := C.new W 1048576 hI hN (by decide) (by decide)
  have HR := Lib.hid (And.intro hR (And.intro hf (And.intro hten (And.intro hl80 (And.intro hln (And.intro hN (And.intro hI hnx)))))))
  have hn80 : n ≤ 80 := by omega
  obtain ⟨f, hff⟩ : ∃ f, max next 1 = f := ⟨_, rfl⟩
  have hm1 : max (next : Int) 1 = (f : Int) := by omega
  have hf0 : 1 ≤ f ∧ f ≤ 4611686018427387904 := by omega
  have t0 : ¬ (4611686018427387904 : Int) < (next : Int) := by omega
  clear hl hR hf hten hl80 hln hN hI hnc hcm
  go_enter Tryz.func3, Tryz.ntmps3
  go_wp2_with fail
  refine hLg.mono ?_
  rintro e w0 ⟨rfl, rfl⟩
  go_wp2_with fail
  refine hNew.mono ?_
  rintro e w1 ⟨q, S, rfl, hP, hS, hb1⟩
  have i1 := C.iturn HR.out.2.2.2.2.2.2.1 (Turn.of_below (S := fun _ => False) hb1) (fun _ h => h.elim)
  have hO := C.opens w1 S q (newDk 1048576) next i1 hP (held_new 1048576 (by decide)) rfl (by omega) (by rw [open_new]; show max next 1 < _; omega)
  rw [open_new] at hO
  clear hNew hLg
  go_wp2_with fail
  refine hO.mono ?_
  rintro e w2 ⟨p, T, A2, n2, c2, rfl, hL, hT, hR2, hnc2, hcm2, hb2⟩
  obtain rfl : n2 = 0 := by have := hR2.len; exact this.symm
  have hNx := C.next w2 T p q _ hL
  simp only at hNx
  rw [hff] at hNx hL
  have hs1 := hb1.size
  have HF : Hid (KeepR N I PD LA w0 (fun _ => False) q f 0 0 0 [] p (.slice none 0 0) w2) := Lib.hid ⟨S, T, newDk 1048576, _, [], C.dturn hP (Turn.of_below (S := fun _ => False) hb2) (fun _ h => h.elim), hL, fun k hk h => by have := ((C.dhere hP).2 k hk).2; have := hT k h; omega, fun k hk => by
    refine ⟨?_, fun h => h⟩
    rcases hk with h | h
    · exact hS k h
    · have := hT k h; omega, by rw [List.append_nil, ← hff]; exact JS.start2 next hnx, rfl, Nat.le_refl _, Nat.le_refl _, meas_start, ⟨World.ownsRow_nil _ _ _ _, fun k h => by simp [Value.ownBlock] at h, fun r h => (by cases h)⟩, bthen hb1 hb2, C.iturn i1 (Turn.of_below (S := fun _ => False) hb2) (fun _ h => h.elim)⟩
  have HFF := Lib.hid hff
  clear hP hS hb1 i1 hO hL hT hR2 hnc2 hcm2 hb2 hs1 hff
  have HM := Lib.hid hm1
  clear hm1
  go_upto_region 5 with fail
  go_cut [9] (fun v9 wx => v9 = .int .u64 ((f : Nat) : Int) ∧ wx = w2)
  case first =>
    go_wp2_with fail
    all_goals
      go_meet
      exact ⟨congrArg (Value.int .u64) (by have := HM.out; omega), rfl⟩
  case rest =>
  obtain ⟨rfl, rfl⟩ := hcut
  go_wp2_with fail
  refine hNx.mono ?_
  rintro e w3 ⟨rfl, rfl⟩
  clear hNx t0
  go_wp2_with fail
  go_loopw [6, 10, 11, 12] (fun v6 v10 v11 v12 wr => ∃ k s i p : Nat, v6 = .pointer (some ⟨p, 0, none⟩) ∧ v11 = .int .i64 s ∧ v12 = .int .i64 i ∧ i ≤ n ∧ KeepR N I PD LA w0 (fun _ => False) q f i k s [] p v10 wr) (fun _ _ _ v12 _ => n - (intOf v12).toNat)
  case atStart => exact ⟨0, 0, 0, p, rfl, rfl, rfl, Nat.zero_le _, HF.out⟩
  case round =>
    obtain ⟨k, s, i, p, rfl, rfl, rfl, hi, hF⟩ := hrel
    by_cases hlt : i < n
    · have t1 : (i : Int) < (n : Int) := by omega
      obtain ⟨st, hst⟩ : ∃ st, l[i]? = some st := ⟨_, List.getElem?_eq_getElem (by have := HR.out.2.2.2.2.1; omega)⟩
      obtain ⟨g, o, rfl, hgw, hgl, f0, f1, f2, f3, f4, f5, f6, f7, f8⟩ := Jsts.at_ HR.out.1 hst
      have hstl := List.mem_of_getElem? hst
      have hok := HR.out.2.1 st hstl
      have h100 := HR.out.2.2.1 st hstl
      have hb : Below w0.heap.size w0 wr := hF.below.1
      have e0 := (hb.cell (p := ⟨g, o + i * 9, none⟩) hgl).trans f0
      have e1 := (hb.cell (p := ⟨g, o + i * 9 + 1, none⟩) hgl).trans f1
      have e2 := (hb.cell (p := ⟨g, o + i * 9 + 2, none⟩) hgl).trans f2
      have e3 := (hb.cell (p := ⟨g, o + i * 9 + 3, none⟩) hgl).trans f3
      have e4 := (hb.cell (p := ⟨g, o + i * 9 + 4, none⟩) hgl).trans f4
      have e5 := (hb.cell (p := ⟨g, o + i * 9 + 5, none⟩) hgl).trans f5
      have e6 := (hb.cell (p := ⟨g, o + i * 9 + 6, none⟩) hgl).trans f6
      have e7 := (hb.cell (p := ⟨g, o + i * 9 + 7, none⟩) hgl).trans f7
      have e8 := (hb.cell (p := ⟨g, o + i * 9 + 8, none⟩) hgl).trans f8
      obtain ⟨hsk, hki, hf1, Av, cv, rfl, hkc, hcv, hnilv⟩ := hF.le
      have hW1 : Below wr.heap.size wr (wr.alloc (.cells #[.int .i64 st.kind, .int .i64 st.n, .int .i64 st.m, .int .u64 (st.r.seq : Nat), .int .i64 st.r.kind, .string ⟨st.r.ten.toArray⟩, .int .u64 (st.r.lease : Nat), .int .u64 (st.r.n : Nat), .int .u64 (st.r.bits : Nat)] 37)) := (Below.refl _ wr).alloc (Nat.le_refl _) _
      have hK1 := (hF.fence C).turn C hW1
      have hB1 : Blk (wr.alloc (.cells #[.int .i64 st.kind, .int .i64 st.n, .int .i64 st.m, .int .u64 (st.r.seq : Nat), .int .i64 st.r.kind, .string ⟨st.r.ten.toArray⟩, .int .u64 (st.r.lease : Nat), .int .u64 (st.r.n : Nat), .int .u64 (st.r.bits : Nat)] 37)) wr.heap.size 37 st.cells := Blk.new wr _ _ rfl
      obtain ⟨W1, hWW⟩ : ∃ x, (wr.alloc (.cells #[.int .i64 st.kind, .int .i64 st.n, .int .i64 st.m, .int .u64 (st.r.seq : Nat), .int .i64 st.r.kind, .string ⟨st.r.ten.toArray⟩, .int .u64 (st.r.lease : Nat), .int .u64 (st.r.n : Nat), .int .u64 (st.r.bits : Nat)] 37)) = x := ⟨_, rfl⟩
      rw [hWW] at hW1 hK1 hB1
      have hF13 : ∀ x, x = wr.heap.size → x < W1.heap.size := fun x hx => by rw [hx]; exact hB1.lt
      have HJ := Lib.hid (And.intro hK1 (And.intro hok (And.intro h100 (And.intro hlt (And.intro hB1 (And.intro hF13 hW1))))))
      have HN0 := Lib.hid (And.intro hsk (And.intro hki (And.intro hkc (And.intro hcv hnilv))))
      have hi80 : i < 80 := by omega
      have hk80 : k ≤ 80 := by omega
      have hs80 : s ≤ 80 := by omega
      clear hF hok h100 hlt f0 f1 f2 f3 f4 f5 f6 f7 f8 hst hstl hi hb hK1 hB1 hF13 hW1 hsk hki hkc hcv hnilv
      obtain ⟨kd, hkd⟩ : ∃ x, st.kind = x := ⟨_, rfl⟩
      rw [hkd] at e0 hWW
      have HKD := Lib.hid hkd
      have HWW := Lib.hid hWW
      clear hkd hWW
      go_upto_block 2 with fail
      rw [HWW.out]
      clear HWW e0 e1 e2 e3 e4 e5 e6 e7 e8
      go_cut [10, 11, 14, 15, 16] from 300 to 300 (fun v10 v11 _ _ _ wx => ∃ k s : Nat, v11 = .int .i64 s ∧ Blk wx wr.heap.size 37 st.cells ∧ ((kd ≠ 3 ∧ KeepR N I PD LA w0 (fun x => x = wr.heap.size) q f (i + 1) k s [] p v10 wx) ∨ (kd = 3 ∧ KeepR N I PD LA w0 (fun x => x = wr.heap.size) q f i k s [] p v10 wx) ∨ LeftR N I PD w0 (fun x => x = wr.heap.size) q f (i + 1) k s true v10 wx))
      case first =>
        by_cases h1 : kd = 1
        · subst h1
          by_cases hck : checkC (st.r.at_ 1) = 0
          · obtain ⟨x, hx⟩ : ∃ x, f + k = x := ⟨_, rfl⟩
            have hw1 : IntKind.u64.wrap (k : Int) = (k : Int) := by rw [IntKind.wrap_u64]; omega
            have hw2 : IntKind.u64.wrap ((f : Int) + (k : Int)) = (x : Int) := by rw [IntKind.wrap_u64]; omega
            have hU := HJ.out.1.puts C (by omega) hf0.2 st.r ⟨st.r.ten.toArray⟩ rfl HJ.out.2.1.1 HJ.out.2.2.1 hck HJ.out.2.2.2.2.2.1
            have hRt := fun w => right14_any st.r.seq st.r.kind ⟨st.r.ten.toArray⟩ st.r.lease st.r.n st.r.bits (by have := HJ.out.2.2.1; show st.r.ten.toArray.size ≤ _; rw [List.size_toArray]; omega) HJ.out.2.1.1.2.2.2.2.2 w
            rw [show (⟨st.r.ten.toArray⟩ : ByteArray).data.toList = st.r.ten from rfl, show (⟨1, st.r.kind, st.r.ten, st.r.lease, st.r.n, st.r.bits⟩ : Rc) = st.r.at_ 1 from rfl, decide_eq_true hck] at hRt
            rw [hx] at hU
            clear hx
            unfold rcV at hU hRt
            have hB1 := HJ.out.2.2.2.2.1
            have d3 : W1.cell? ⟨wr.heap.size, 3, none⟩ = some (.int .u64 (st.r.seq : Nat)) := hB1.cell 3
            have d4 : W1.cell? ⟨wr.heap.size, 4, none⟩ = some (.int .i64 st.r.kind) := hB1.cell 4
            have d5 : W1.cell? ⟨wr.heap.size, 5, none⟩ = some (.string ⟨st.r.ten.toArray⟩) := hB1.cell 5
            have d6 : W1.cell? ⟨wr.heap.size, 6, none⟩ = some (.int .u64 (st.r.lease : Nat)) := hB1.cell 6
            have d7 : W1.cell? ⟨wr.heap.size, 7, none⟩ = some (.int .u64 (st.r.n : Nat)) := hB1.cell 7
            have d8 : W1.cell? ⟨wr.heap.size, 8, none⟩ = some (.int .u64 (st.r.bits : Nat)) := hB1.cell 8
            clear hB1 hck
            go_wp2_with fail
            refine hU.mono ?_
            rintro e w2 ⟨rfl, hK2, ht2⟩
            have hB2 := ht2.blk HJ.out.2.2.2.2.1 (fun h => h.1 rfl)
            have g3 : w2.cell? ⟨wr.heap.size, 3, none⟩ = some (.int .u64 (st.r.seq : Nat)) := hB2.cell 3
            have g4 : w2.cell? ⟨wr.heap.size, 4, none⟩ = some (.int .i64 st.r.kind) := hB2.cell 4
            have g5 : w2.cell? ⟨wr.heap.size, 5, none⟩ = some (.string ⟨st.r.ten.toArray⟩) := hB2.cell 5
            have g6 : w2.cell? ⟨wr.heap.size, 6, none⟩ = some (.int .u64 (st.r.lease : Nat)) := hB2.cell 6
            have g7 : w2.cell? ⟨wr.heap.size, 7, none⟩ = some (.int .u64 (st.r.n : Nat)) := hB2.cell 7
            have g8 : w2.cell? ⟨wr.heap.size, 8, none⟩ = some (.int .u64 (st.r.bits : Nat)) := hB2.cell 8
            have hRt2 := hRt w2
            have H2 := Lib.hid (And.intro hK2 hB2)
            clear hU hRt hK2 ht2 hB2 d3 d4 d5 d6 d7 d8
            go_wp2_with fail
            refine hRt2.mono ?_
            rintro e w3 ⟨rfl, hb3⟩
            have hB3 := H2.out.2.below hb3 H2.out.2.lt
            have hK3 := H2.out.1.turn C hb3
            obtain ⟨put, A4, c4, hv4, hown, hn1, hWs, hgo⟩ := hK3.row C HJ.out.2.1.1 HJ.out.2.2.1 (fun x hx => by rw [hx]; exact hB3.lt) HR.out.2.2.2.2.2.1
            injection hv4 with e4 _ e5
            subst e4 e5
            have q3 : w3.cell? ⟨wr.heap.size, 3, none⟩ = some (.int .u64 (st.r.seq : Nat)) := hB3.cell 3
            have q4 : w3.cell? ⟨wr.heap.size, 4, none⟩ = some (.int .i64 st.r.kind) := hB3.cell 4
            have q5 : w3.cell? ⟨wr.heap.size, 5, none⟩ = some (.string ⟨st.r.ten.toArray⟩) := hB3.cell 5
            have q6 : w3.cell? ⟨wr.heap.size, 6, none⟩ = some (.int .u64 (st.r.lease : Nat)) := hB3.cell 6
            have q7 : w3.cell? ⟨wr.heap.size, 7, none⟩ = some (.int .u64 (st.r.n : Nat)) := hB3.cell 7
            have q8 : w3.cell? ⟨wr.heap.size, 8, none⟩ = some (.int .u64 (st.r.bits : Nat)) := hB3.cell 8
            have H3 := Lib.hid (And.intro hgo hB3)
            clear hRt2 hb3 hK3 hgo hB3 g3 g4 g5 g6 g7 g8
            go_wp2_with (at_builtin; refine wpList_append_own_at _ rfl _ _ 29 rfl w0.heap.size 35 i0 _ 6 56 Tryz.underlying29 hi0 hz0 hz1 hz2 rfl (by decide) (Value.slice Av k cv) k (rcCells put) rfl (hown.alloc _) ⟨w3.heap.size, 0, none⟩ 1 1 st.r.cells rfl rfl (fun y u hu => by rw [Addr.add_lit, Nat.zero_add, World.cell?_alloc_new]; simpa [Rc.cells] using hu) (by simp [Rc.cells, Value.oneCell']) (by unfold maxLen; omega) (by omega) (by simp; omega) ?_)
            intro v4 w4 hown4 hgr hat
            obtain ⟨hK4, ht4⟩ := H3.out.1 _ v4 w4 hown4 hgr (by rw [World.size_alloc]; exact hat)
            have hB4 := ht4.blk H3.out.2 (fun h => h rfl)
            have H4 := Lib.hid (And.intro hK4 hB4)
            clear hown4 hgr hat hK4 ht4 hB4 hown
            go_wp2_with fail
            go_meet
            exact ⟨k + 1, s, rfl, H4.out.2, .inl ⟨by decide, H4.out.1⟩⟩
          · obtain ⟨ck, hcq⟩ : ∃ x, checkC (st.r.at_ 1) = x := ⟨_, rfl⟩
            have hU := HJ.out.1.refuses C (by omega) st.r ⟨st.r.ten.toArray⟩ rfl HJ.out.2.1.1 HJ.out.2.2.1 hck HJ.out.2.2.2.2.2.1
            have hRt := fun w => right14_any st.r.seq st.r.kind ⟨st.r.ten.toArray⟩ st.r.lease st.r.n st.r.bits (by have := HJ.out.2.2.1; show st.r.ten.toArray.size ≤ _; rw [List.size_toArray]; omega) HJ.out.2.1.1.2.2.2.2.2 w
            rw [show (⟨st.r.ten.toArray⟩ : ByteArray).data.toList = st.r.ten from rfl, show (⟨1, st.r.kind, st.r.ten, st.r.lease, st.r.n, st.r.bits⟩ : Rc) = st.r.at_ 1 from rfl, decide_eq_false hck] at hRt
            rw [hcq] at hU hck
            have hcf : (ck == 0) = false := by simpa using hck
            have hcn : (ck != 0) = true := by simpa using hck
            unfold rcV at hU hRt
            have hB1 := HJ.out.2.2.2.2.1
            have d3 : W1.cell? ⟨wr.heap.size, 3, none⟩ = some (.int .u64 (st.r.seq : Nat)) := hB1.cell 3
            have d4 : W1.cell? ⟨wr.heap.size, 4, none⟩ = some (.int .i64 st.r.kind) := hB1.cell 4
            have d5 : W1.cell? ⟨wr.heap.size, 5, none⟩ = some (.string ⟨st.r.ten.toArray⟩) := hB1.cell 5
            have d6 : W1.cell? ⟨wr.heap.size, 6, none⟩ = some (.int .u64 (st.r.lease : Nat)) := hB1.cell 6
            have d7 : W1.cell? ⟨wr.heap.size, 7, none⟩ = some (.int .u64 (st.r.n : Nat)) := hB1.cell 7
            have d8 : W1.cell? ⟨wr.heap.size, 8, none⟩ = some (.int .u64 (st.r.bits : Nat)) := hB1.cell 8
            clear hB1 hcq
            go_wp2_with fail
            refine hU.mono ?_
            rintro e w2 ⟨rfl, hK2, ht2⟩
            have hB2 := ht2.blk HJ.out.2.2.2.2.1 (fun h => h.1 rfl)
            have g3 : w2.cell? ⟨wr.heap.size, 3, none⟩ = some (.int .u64 (st.r.seq : Nat)) := hB2.cell 3
            have g4 : w2.cell? ⟨wr.heap.size, 4, none⟩ = some (.int .i64 st.r.kind) := hB2.cell 4
            have g5 : w2.cell? ⟨wr.heap.size, 5, none⟩ = some (.string ⟨st.r.ten.toArray⟩) := hB2.cell 5
            have g6 : w2.cell? ⟨wr.heap.size, 6, none⟩ = some (.int .u64 (st.r.lease : Nat)) := hB2.cell 6
            have g7 : w2.cell? ⟨wr.heap.size, 7, none⟩ = some (.int .u64 (st.r.n : Nat)) := hB2.cell 7
            have g8 : w2.cell? ⟨wr.heap.size, 8, none⟩ = some (.int .u64 (st.r.bits : Nat)) := hB2.cell 8
            have hRt2 := hRt w2
            have H2 := Lib.hid (And.intro hK2 hB2)
            clear hU hRt hK2 ht2 hB2 d3 d4 d5 d6 d7 d8
            go_wp2_with fail
            refine hRt2.mono ?_
            rintro e w3 ⟨rfl, hb3⟩
            have H3 := Lib.hid (And.intro (H2.out.1.turn C hb3) (H2.out.2.below hb3 H2.out.2.lt))
            clear hRt2 hb3 g3 g4 g5 g6 g7 g8
            go_wp2_with fail
            go_meet
            exact ⟨k, s, rfl, H3.out.2, .inl ⟨by decide, H3.out.1⟩⟩
        · have b1 : (kd == 1) = false := by simpa using h1
          by_cases h2 : kd = 2
          · subst h2
            have hCm := HJ.out.1.commits C (by omega) HJ.out.2.2.2.2.2.1
            clear h1 b1
            go_wp2_with fail
            refine hCm.mono ?_
            rintro e w2 ⟨hr, ht2⟩
            have hB2 := ht2.blk HJ.out.2.2.2.2.1 (fun h => h.1 rfl)
            have HB2 := Lib.hid hB2
            clear hCm ht2 hB2
            rcases hr with ⟨rfl, hK2⟩ | ⟨rfl, hL2⟩
            · have H2 := Lib.hid hK2
              clear hK2
              go_wp2_with fail
              go_meet
              exact ⟨k, k, rfl, HB2.out, .inl ⟨by decide, H2.out⟩⟩
            · have H2 := Lib.hid hL2
              clear hL2
              go_wp2_with fail
              go_meet
              exact ⟨k, s, rfl, HB2.out, .inr (.inr H2.out)⟩
          · have b2 : (kd == 2) = false := by simpa using h2
            by_cases h4 : kd = 4
            · subst h4
              have hUp := HJ.out.1.isUp C (by omega)
              have hB1 := HJ.out.2.2.2.2.1
              have d1 : W1.cell? ⟨wr.heap.size, 1, none⟩ = some (.int .i64 st.n) := hB1.cell 1
              have d2 : W1.cell? ⟨wr.heap.size, 2, none⟩ = some (.int .i64 st.m) := hB1.cell 2
              clear h1 b1 h2 b2 hB1
              obtain ⟨z, hz⟩ : ∃ z, IntKind.u64.wrap (bits BinOp.and IntKind.i64 st.n 7) = z := ⟨_, rfl⟩
              have hz0 : 0 ≤ z ∧ z < 18446744073709551616 := by rw [← hz, IntKind.wrap_u64]; omega
              obtain ⟨a, rfl⟩ := Int.eq_ofNat_of_zero_le hz0.1
              have ha : a < 18446744073709551616 := by omega
              have hA := HJ.out.1.arms C (by omega) HJ.out.2.2.2.2.2.1 a st.m ha
              clear hz0
              go_wp2_with fail
              refine hUp.mono ?_
              rintro e w2 ⟨rfl, rfl⟩
              clear hUp
              go_wp2_with fail
              refine hA.mono ?_
              rintro e w3 ⟨rfl, hK3, ht3⟩
              have H3 := Lib.hid (And.intro (hK3.mono (Nat.le_succ i)) (ht3.blk HJ.out.2.2.2.2.1 (fun h => h.1 rfl)))
              clear hA hK3 ht3 hz
              go_wp2_with fail
              go_meet
              exact ⟨k, s, rfl, H3.out.2, .inl ⟨by decide, H3.out.1⟩⟩
            · have b4 : (kd == 4) = false := by simpa using h4
              go_wp2_with fail
              go_meet
              by_cases h3 : kd = 3
              · exact ⟨k, s, rfl, HJ.out.2.2.2.2.1, .inr (.inl ⟨h3, HJ.out.1⟩)⟩
              · exact ⟨k, s, rfl, HJ.out.2.2.2.2.1, .inl ⟨h3, HJ.out.1.mono (Nat.le_succ i)⟩⟩
      case rest =>
      obtain ⟨k2, s2, rfl, hB2, hM⟩ := hcut
      have d0 : wc.cell? ⟨wr.heap.size, 0, none⟩ = some (.int .i64 kd) := by rw [← HKD.out]; exact hB2.cell 0
      have d1 : wc.cell? ⟨wr.heap.size, 1, none⟩ = some (.int .i64 st.n) := hB2.cell 1
      have HB2 := Lib.hid hB2
      have HM := Lib.hid hM
      clear hB2 hM
      go_upto_region 30 with fail
      go_cut [139] from 300 to 300 (fun v139 wx => ∃ b : Bool, v139 = .bool b ∧ wx = wc ∧ ((b = true ∧ ∃ d, LeftR N I PD w0 (fun x => x = wr.heap.size) q f (i + 1) k2 s2 d u10 wc) ∨ (b = false ∧ KeepR N I PD LA w0 (fun x => x = wr.heap.size) q f (i + 1) k2 s2 [] p u10 wc)))
      case first =>
        rcases HM.out with ⟨h3, hK⟩ | ⟨h3, hK⟩ | hL
        · have b3 : (kd == 3) = false := by simpa using h3
          have hUp := hK.isUp C (by omega)
          have HK := Lib.hid hK
          clear hK
          go_wp2_with fail
          refine hUp.mono ?_
          rintro e w2 ⟨rfl, rfl⟩
          go_wp2_with fail
          go_meet
          exact ⟨false, rfl, rfl, .inr ⟨rfl, HK.out⟩⟩
        · subst h3
          have HK := Lib.hid (hK.left (by omega))
          clear hK
          go_wp2_with fail
          go_meet
          exact ⟨true, rfl, rfl, .inl ⟨rfl, _, HK.out⟩⟩
        · by_cases h3 : kd = 3
          · subst h3
            have HL := Lib.hid hL
            clear hL
            go_wp2_with fail
            go_meet
            exact ⟨true, rfl, rfl, .inl ⟨rfl, _, HL.out⟩⟩
          · have b3 : (kd == 3) = false := by simpa using h3
            have hDn := hL.isDown C (by omega)
            have HL := Lib.hid hL
            clear hL
            go_wp2_with fail
            refine hDn.mono ?_
            rintro e w2 ⟨rfl, rfl⟩
            go_wp2_with fail
            go_meet
            exact ⟨true, rfl, rfl, .inl ⟨rfl, _, HL.out⟩⟩
      case rest =>
      obtain ⟨b, rfl, rfl, hM2⟩ := hcut
      have HM2 := Lib.hid hM2
      clear hM2 HM d0
      go_upto_if 139 with fail
      go_cut [6, 10, 11, 17, 18, 19, 20] from 300 to 300 (fun v6 v10 v11 _ _ _ _ wx => ∃ k s p : Nat, v6 = .pointer (some ⟨p, 0, none⟩) ∧ v11 = .int .i64 s ∧ KeepR N I PD LA w0 (fun _ => False) q f (i + 1) k s [] p v10 wx)
      case first =>
        rcases HM2.out with ⟨hbt, d, hL⟩ | ⟨hbf, hK⟩
        · subst hbt
          have hCr := hL.crashes C (by omega) (fun x hx => by rw [hx]; exact HB2.out.lt) st.n
          clear hL
          go_wp2_with fail
          refine hCr.mono ?_
          rintro e w2 ⟨rfl, hL2, ht2⟩
          have hB3 := ht2.blk HB2.out (fun h => h.1 rfl)
          have hUp := hL2.ups C (by omega) (fun x hx => by rw [hx]; exact hB3.lt)
          clear hCr hL2 ht2 hB3 d1
          go_wp2_with fail
          refine hUp.mono ?_
          rintro e w3 ⟨rfl, hL3, ht3⟩
          have hOp := hL3.opens_ C (by omega) next HFF.out.symm hf0.2
          clear hUp hL3 ht3
          go_wp2_with fail
          refine hOp.mono ?_
          rintro e w4 ⟨put, p4, k4, A4, c4, rfl, hT4, hsk4, hkn4, hR4, hkc4, hcm4, hb4⟩
          obtain ⟨Av4, cv4, hv4, hRp, hnc4, hcv4, hfi4, hpl4, hnil4⟩ := hT4.row
          have hk2 : k2 ≤ 81 := by
            obtain ⟨_, _, _, _, _, _, _, _, _, _, _, h, _⟩ := hT4
            omega
          have hNu := refNumbered_any Av4 k2 cv4 put f w4 hRp (by omega) (by omega)
          have H4 := Lib.hid (And.intro hT4 (And.intro hR4 (And.intro hsk4 (And.intro hkn4 (And.intro hfi4 hpl4)))))
          subst hv4
          have hk4i : ¬ (k4 : Int) < (s2 : Int) := by omega
          have hk4c : k4 ≤ cv4 := by omega
          have hcv5 : cv4 ≤ 9223372036854775807 := by unfold maxLen at hcv4; omega
          have hk4n : k4 ≤ k2 := hkn4
          clear hOp hT4 hR4 hb4 hRp hfi4 hsk4 hkn4 hpl4
          go_wp2_with fail
          refine hNu.mono ?_
          rintro e w5 ⟨A5, c5, rfl, hR5, hnc5, hb5⟩
          have hBe := refBegins_yes A4 A5 k4 c4 k2 c5 _ _ _ _ w5 (H4.out.2.1.below hb5) hR5 (by rfl) hk4n (by omega) hnc5 (fine_num H4.out.2.2.2.2.1)
          have hT5 := H4.out.1.turn C hb5
          have H5 := Lib.hid hT5
          clear hNu hR5 hb5 hT5 H4
          go_wp2_with fail
          refine hBe.mono ?_
          rintro e w6 ⟨rfl, kk, rfl⟩
          have H6 := Lib.hid ((H5.out.turn C (below_drewN (Below.refl _ _) kk)).cut)
          clear hBe
          rcases Av4 with _ | ⟨ab, ao, ax⟩
          · obtain ⟨rfl, rfl⟩ := hnil4 rfl
            obtain rfl : k4 = 0 := by omega
            go_wp2_with fail
            go_meet
            exact ⟨0, 0, p4, rfl, rfl, H6.out⟩
          · go_wp2_with fail
            all_goals
              go_meet
              exact ⟨k4, k4, p4, rfl, rfl, H6.out⟩
        · subst hbf
          have HK := Lib.hid hK.free
          clear hK
          go_wp2_with fail
          go_meet
          exact ⟨k2, s2, p, rfl, rfl, HK.out⟩
      case rest =>
      obtain ⟨k3, s3, p3, rfl, rfl, hK3⟩ := hcut
      obtain ⟨hsk3, hki3, hf13, A3, c3, hv3, hkc3, hcv3, hnil3⟩ := hK3.le
      subst hv3
      have hNx3 := hK3.next_ C
      have hSu3 := hK3.sure_ C
      have hWt3 := fun kk => (hK3.turn C (below_drewN (Below.refl _ _) kk)).waits_ C
      obtain ⟨x, hx⟩ : ∃ x, f + k3 = x := ⟨_, rfl⟩
      obtain ⟨y, hy⟩ : ∃ y, f + s3 - 1 = y := ⟨_, rfl⟩
      obtain ⟨z, hz⟩ : ∃ z, k3 - s3 = z := ⟨_, rfl⟩
      rw [hx] at hNx3
      rw [hy] at hSu3
      rw [hz] at hWt3
      have m1 : IntKind.u64.wrap (k3 : Int) = (k3 : Int) := by rw [IntKind.wrap_u64]; omega
      have m2 : IntKind.u64.wrap ((f : Int) + (k3 : Int)) = (x : Int) := by rw [IntKind.wrap_u64]; omega
      have m3 : IntKind.u64.wrap (s3 : Int) = (s3 : Int) := by rw [IntKind.wrap_u64]; omega
      obtain ⟨y1, hy1⟩ : ∃ y1, f + s3 = y1 := ⟨_, rfl⟩
      have m4 : IntKind.u64.wrap ((f : Int) + (s3 : Int)) = (y1 : Int) := by rw [IntKind.wrap_u64]; omega
      have m5 : IntKind.u64.wrap ((y1 : Int) - 1) = (y : Int) := by rw [IntKind.wrap_u64]; omega
      have m6 : (k3 : Int) - (s3 : Int) = (z : Int) := by omega
      have hk81 : k3 ≤ 81 := by omega
      have hs81 : s3 ≤ 81 := by omega
      have hLT := Lib.hid HJ.out.2.2.2.1
      have HK3 := Lib.hid (fun kk => (hK3.turn C (below_drewN (Below.refl _ _) kk)))
      clear hK3 hx hy hz hy1 hsk3 hki3 hf13 hkc3 hcv3 hnil3 HM2 d1
      go_wp2_with fail
      refine hNx3.mono ?_
      rintro e w7 ⟨rfl, rfl⟩
      clear hNx3
      go_wp2_with fail
      refine hSu3.mono ?_
      rintro e w8 ⟨rfl, kk, rfl⟩
      clear hSu3
      go_wp2_with fail
      refine (hWt3 kk).mono ?_
      rintro e w9 ⟨rfl, rfl⟩
      have HK9 := Lib.hid (HK3.out kk)
      clear hWt3 HK3
      go_wp2_with fail
      go_roundw
      case rel => exact ⟨k3, s3, i + 1, p3, rfl, rfl, by go_num, by have := hLT.out; omega, HK9.out⟩
      case measure => have := hLT.out; simp [intOf]; omega
    · have t1 : ¬ (i : Int) < (n : Int) := by omega
      have hA := awake14_any C wr hF.below.2 (by have := hF.below.1.size; have := HR.out.2.2.2.2.2.1; omega)
      have HB := Lib.hid hF.below.1
      clear hF hi
      go_wp2_with fail
      refine hA.mono ?_
      rintro e w5 ⟨rfl, hb5⟩
      have HB5 := Lib.hid (bthen HB.out hb5)
      clear hb5 hA
      go_wp2_with fail
      go_ret
      exact ⟨rfl, HB5.out⟩

end Go.Proofs.YthjikbhjciphiaaGreatDoor

/-
  Law 14: WalKeeps, for any arguments.
-/
namespace Go.Proofs.YthjikbhjciphiaaGreatDoor
open Go.RowKit
set_option linter.unusedVariables false
set_option linter.unusedSimpArgs false

set_option maxRecDepth 100000 in
set_option maxHeartbeats 2000000 in
theorem walKeeps_law {N : Nat} {I : World → Prop} {PD : World → (Nat → Prop) → Nat → Dk → Prop} {LA : World → (Nat → Prop) → Nat → Nat → Jn → Prop} (C : WalC N I PD LA) (A : Option Addr) (n c : Nat) (l : List Jst) (next : Nat) (W : World) (hI : I W) (hN : N ≤ W.heap.size)
    (hR : Jsts W (fun k => W.heap.size ≤ k) A n l) (hf : FineJ l) (hnc : n ≤ c) (hcm : c ≤ maxLen) :
    Calls Tryz.prog 3 #[.slice A n c, .int .u64 ((next : Nat) : Int)] W fun e W' => e = .returned (.bool true) ∧ Below W.heap.size W W' := by
  cases hl : largeJ l with
  | false =>
    by_cases hnx : next ≤ 4611686018427387904
    · exact walKeeps_small C A n c l next W hI hN hR hf hnc hcm hl hnx
    · have hLg := refLargeJ_any A n c l _ W hR (Nat.le_trans hnc hcm) hf
      rw [hl] at hLg
      have hA := awake14_any C W hI hN
      have t0 : (4611686018427387904 : Int) < (next : Int) := by omega
      clear hl hR hf hnc hcm hI hN hnx
      go_enter Tryz.func3, Tryz.ntmps3
      go_wp2_with fail
      refine hLg.mono ?_
      rintro e w0 ⟨rfl, rfl⟩
      go_wp2_with fail
      refine hA.mono ?_
      rintro e w1 ⟨rfl, hb1⟩
      have HB := Lib.hid hb1
      clear hb1
      go_wp2_with fail
      go_ret
      exact ⟨rfl, HB.out⟩
  | true =>
    have hLg := refLargeJ_any A n c l _ W hR (Nat.le_trans hnc hcm) hf
    rw [hl] at hLg
    have hA := awake14_any C W hI hN
    clear hl hR hf hnc hcm hI hN
    go_enter Tryz.func3, Tryz.ntmps3
    go_wp2_with fail
    refine hLg.mono ?_
    rintro e w0 ⟨rfl, rfl⟩
    go_wp2_with fail
    refine hA.mono ?_
    rintro e w1 ⟨rfl, hb1⟩
    have HB := Lib.hid hb1
    clear hb1
    go_wp2_with fail
    go_ret
    exact ⟨rfl, HB.out⟩

end Go.Proofs.YthjikbhjciphiaaGreatDoor
