/-
  The reference's files with one more, or in the place of that of its name.
-/
import Derived.Test.YtnjkilmhphcocaaDkB
namespace Go.Proofs.Ytnjkilmhphcocaa
open Go.RowKit
set_option linter.unusedVariables false
set_option linter.unusedSimpArgs false

/-- Where the loop stands: the files ahead, whether the new one stands, what is left. -/
def WithI (W1 : World) (S : Nat → Prop) (f : Fl) (fs : List Fl) (d : Bool) (k : Nat) (v : Value) (w : World) : Prop :=
  ∃ gs xs, (w.ownsRow W1.heap.size 43 3 v gs.length xs ∧ Fx w S xs gs ∧ Below W1.heap.size W1 w ∧ W1.heap.size ≤ w.heap.size) ∧ gs.length ≤ 2 * k ∧ withF f false fs = gs ++ withF f d (fs.drop k)
theorem WithI.drewN {W1 w : World} {S : Nat → Prop} {k : Nat} {f : Fl} {fs : List Fl} {d : Bool} {v : Value} (h : WithI W1 S f fs d k v w) (q : Nat) : WithI W1 S f fs d k v (w.drewN q) := by
  obtain ⟨gs, xs, ⟨h1, h2, h3, h4⟩, h5⟩ := h
  exact ⟨gs, xs, ⟨h1, h2.drewN q, below_drewN h3 q, h4⟩, h5⟩

set_option maxRecDepth 100000 in
set_option maxHeartbeats 8000000 in
theorem with_any (A : Option Addr) (n c : Nat) (fs : List Fl) (f : Fl) (vf : Value) (S : Nat → Prop) (W : World) (hfl : Fls W S A n fs) (hvf : FlV W S vf f) (hS : ∀ k, W.heap.size ≤ k → S k) (hn : n ≤ 100000) :
    Calls Try.prog 32 #[.slice A n c, vf] W (FlsOut S (withF f false fs) W) := by
  obtain ⟨i0, hi, hz0, hz1, hz2⟩ := info_parts Try.infoFl
  obtain ⟨A9, n9, c9, rfl, hvb⟩ := hvf
  obtain ⟨Tf, hTf⟩ : ∃ T : ByteArray, ⟨f.name.toArray⟩ = T := ⟨_, rfl⟩
  have hTfl : Tf.toList = f.name := by rw [ByteArray.toList_eq, ← hTf]
  have HVF : Hid (FlV W S (.agg #[.string Tf, .slice A9 n9 c9, .int .i64 ((f.sure : Nat) : Int)]) f) := Lib.hid ⟨A9, n9, c9, by rw [hTf], hvb⟩
  rw [hTf]
  have HTF := Lib.hid hTfl
  obtain ⟨W1, hW1⟩ : ∃ W1, W1 = W.alloc (.cells #[.string Tf, .slice A9 n9 c9, .int .i64 ((f.sure : Nat) : Int)] 43) := ⟨_, rfl⟩
  have hb1 : Below W.heap.size W W1 := by rw [hW1]; exact (Below.refl _ W).alloc (Nat.le_refl _) _
  have hs1 : W1.heap.size = W.heap.size + 1 := by rw [hW1]; simp
  have HF : Hid (Fls W1 S A n fs) := Lib.hid (hfl.turn (Turn.of_below hb1))
  have HV : Hid (FlV W1 S (.agg #[.string Tf, .slice A9 n9 c9, .int .i64 ((f.sure : Nat) : Int)]) f) := Lib.hid (HVF.out.turn (Turn.of_below hb1))
  have HBX : Hid (W1.cell? ⟨W.heap.size, 0, none⟩ = some (.string Tf) ∧ W1.cell? ⟨W.heap.size, 1, none⟩ = some (.slice A9 n9 c9) ∧ W1.cell? ⟨W.heap.size, 2, none⟩ = some (.int .i64 ((f.sure : Nat) : Int))) := Lib.hid (by
    rw [hW1]
    exact ⟨by simp [World.cell?_alloc_at], by simp [World.cell?_alloc_at], by simp [World.cell?_alloc_at]⟩)
  have HS := Lib.hid hs1
  have HSS := Lib.hid hS
  have HB1 := Lib.hid hb1
  clear hfl hvb hTf hTfl hb1 hs1 hS
  go_enter Try.func32, Try.ntmps32
  go_wp2_with fail
  rw [← hW1]
  have HW1 := Lib.hid hW1
  clear hW1
  go_loopw [5, 6, 7] (fun v dv i wr => ∃ (k : Nat) (d : Bool), k ≤ n ∧ i = .int .i64 k ∧ dv = .bool d ∧ WithI W1 S f fs d k v wr) (fun _ _ i _ => n - (intOf i).toNat)
  case atStart => exact ⟨0, false, Nat.zero_le _, rfl, rfl, [], [], ⟨World.ownsRow_nil _ _ _ _, rfl, Below.refl _ _, Nat.le_refl _⟩, Nat.le_refl _, rfl⟩
  case round =>
    obtain ⟨k, d, hk, rfl, rfl, hI⟩ := hrel
    by_cases hlt : k < n
    · obtain ⟨g, hg⟩ : ∃ g, fs[k]? = some g := ⟨_, List.getElem?_eq_getElem (by have := HF.out.1; omega)⟩
      obtain ⟨b, o, rfl, hbS, hfa⟩ := HF.out.2 (by omega)
      obtain ⟨y0, y1, y2, hq0, hq1, hq2, hv⟩ := hfa k g hg
      have hbB : b < W1.heap.size := block_lt_of_cell hq0
      obtain ⟨A2, n2, c2, rfl, rfl, rfl, _⟩ := fl_parts hv
      obtain ⟨T, hT⟩ : ∃ T : ByteArray, ⟨g.name.toArray⟩ = T := ⟨_, rfl⟩
      have hTl : T.toList = g.name := by rw [ByteArray.toList_eq, ← hT]
      rw [hT] at hq0 hv
      have HC : Hid (∀ w : World, Below W1.heap.size W1 w → (w.cell? ⟨b, o + k * 3, none⟩ = some (.string T) ∧ w.cell? ⟨b, o + k * 3 + 1, none⟩ = some (.slice A2 n2 c2) ∧ w.cell? ⟨b, o + k * 3 + 2, none⟩ = some (.int .i64 ((g.sure : Nat) : Int))) ∧
          (w.cell? ⟨W.heap.size, 0, none⟩ = some (.string Tf) ∧ w.cell? ⟨W.heap.size, 1, none⟩ = some (.slice A9 n9 c9) ∧ w.cell? ⟨W.heap.size, 2, none⟩ = some (.int .i64 ((f.sure : Nat) : Int))) ∧
          FlV w S (.agg #[.string T, .slice A2 n2 c2, .int .i64 ((g.sure : Nat) : Int)]) g ∧ FlV w S (.agg #[.string Tf, .slice A9 n9 c9, .int .i64 ((f.sure : Nat) : Int)]) f) := Lib.hid (fun w hb => by
        have hlt1 : b < W1.heap.size := hbB
        have hlt2 : W.heap.size < W1.heap.size := by rw [HS.out]; omega
        have hTu : Turn S W1 w := Turn.of_below hb
        obtain ⟨x0, x1, x2⟩ := HBX.out
        exact ⟨⟨(hb.cell (p := ⟨b, o + k * 3, none⟩) hlt1).trans hq0, (hb.cell (p := ⟨b, o + k * 3 + 1, none⟩) hlt1).trans hq1, (hb.cell (p := ⟨b, o + k * 3 + 2, none⟩) hlt1).trans hq2⟩,
          ⟨(hb.cell (p := ⟨W.heap.size, 0, none⟩) hlt2).trans x0, (hb.cell (p := ⟨W.heap.size, 1, none⟩) hlt2).trans x1, (hb.cell (p := ⟨W.heap.size, 2, none⟩) hlt2).trans x2⟩, hv.turn hTu, HV.out.turn hTu⟩)
      have HST := Lib.hid (withF_drop f d fs k g hg)
      have HTL := Lib.hid hTl
      clear hfa hv hq0 hq1 hq2 hg hT hTl
      obtain ⟨gs, xs, ⟨hown, hx, hb, hbs⟩, hlen, hE⟩ := hI
      have HE := Lib.hid hE
      clear hE
      cases d
      · cases hl : Op.bytesLess g.name f.name
        · obtain ⟨⟨e0, e1, e2⟩, ⟨x0, x1, x2⟩, hvg, hvf⟩ := HC.out _ hb
          have d1 : Op.bytesLess T.toList Tf.toList = false := by rw [HTL.out, HTF.out]; exact hl
          have HX := Lib.hid (And.intro hown (And.intro hx (And.intro hb hbs)))
          have HLN := Lib.hid hlen
          clear hvg hvf e1 e2 x1 x2 hown hx hb hbs
          go_wp2_with fail
          go_quiet (fail)
          have HX2 : Hid ((wr.drewN nq).ownsRow W1.heap.size 43 3 u5 gs.length xs ∧ Fx (wr.drewN nq) S xs gs ∧ Below W1.heap.size W1 (wr.drewN nq) ∧ W1.heap.size ≤ (wr.drewN nq).heap.size) := Lib.hid ⟨HX.out.1, HX.out.2.1.drewN nq, below_drewN HX.out.2.2.1 nq, HX.out.2.2.2⟩
          revert HX2
          generalize wr.drewN nq = w2
          intro HX2
          clear e0 x0 HX d1
          obtain ⟨hown, hx, hb, hbs⟩ := HX2.out
          clear HX2
          have HL := Lib.hid hl
          clear hl
          obtain ⟨⟨e0, e1, e2⟩, ⟨x0, x1, x2⟩, hvg, hvf⟩ := HC.out _ hb
          have HLL : Hid (gs.length ≤ 1000000) := Lib.hid (by have := HLN.out; omega)
          go_wp2_with (at_builtin; refine wpList_append_fl 43 rfl _ _ 28 rfl 43 i0 _ Try.underlying28 hi hz0 hz1 hz2 rfl _ gs xs rfl hown hx hb hbs (fun k hk => HSS.out k (by have := HS.out; omega)) _ _ _ f hvf rfl HLL.out ?_; intro v4 w4 hh)
          obtain ⟨hown', hx', hb', hbs'⟩ := hh
          clear e0 e1 e2 x0 x1 x2 hvg hvf hown hx hb hbs HLL
          have hown := hown'
          have hx := hx'
          have hb := hb'
          have hbs := hbs'
          clear hown' hx' hb' hbs'
          by_cases he : g.name = f.name
          · obtain ⟨⟨e0, e1, e2⟩, ⟨x0, x1, x2⟩, hvg, hvf⟩ := HC.out _ hb
            have d2 : (T.toList == Tf.toList) = true := by rw [HTL.out, HTF.out]; simp [he]
            have HX := Lib.hid (And.intro hown (And.intro hx (And.intro hb hbs)))
            have HEQ := Lib.hid he
            clear hvg hvf e1 e2 x1 x2 hown hx hb hbs he
            go_wp2_with fail
            go_quiet (fail)
            have HX2 : Hid ((w4.drewN nq).ownsRow W1.heap.size 43 3 v4 (gs ++ [f]).length (xs ++ [.string Tf, .slice A9 n9 c9, .int .i64 ((f.sure : Nat) : Int)]) ∧ Fx (w4.drewN nq) S (xs ++ [.string Tf, .slice A9 n9 c9, .int .i64 ((f.sure : Nat) : Int)]) (gs ++ [f]) ∧ Below W1.heap.size W1 (w4.drewN nq) ∧ W1.heap.size ≤ (w4.drewN nq).heap.size) := Lib.hid ⟨HX.out.1, HX.out.2.1.drewN nq, below_drewN HX.out.2.2.1 nq, HX.out.2.2.2⟩
            revert HX2
            generalize w4.drewN nq = w6
            intro HX2
            clear e0 x0 HX d2
            obtain ⟨hown, hx, hb, hbs⟩ := HX2.out
            clear HX2
            have HR := Lib.hid (And.intro hown (And.intro hx (And.intro hb hbs)))
            clear hown hx hb hbs
            go_wp2
            go_roundw
            case rel => exact ⟨k + 1, true, by omega, by go_num, rfl, gs ++ [f], xs ++ [.string Tf, .slice A9 n9 c9, .int .i64 ((f.sure : Nat) : Int)], HR.out, by have := HLN.out; simp; omega, by rw [HE.out, HST.out, HL.out, if_pos HEQ.out]; simp⟩
            case measure => simp [intOf]; omega
          · obtain ⟨⟨e0, e1, e2⟩, ⟨x0, x1, x2⟩, hvg, hvf⟩ := HC.out _ hb
            have d2 : (T.toList == Tf.toList) = false := by rw [HTL.out, HTF.out]; simpa using he
            have HX := Lib.hid (And.intro hown (And.intro hx (And.intro hb hbs)))
            have HEQ := Lib.hid he
            clear hvg hvf e1 e2 x1 x2 hown hx hb hbs he
            go_wp2_with fail
            go_quiet (fail)
            have HX2 : Hid ((w4.drewN nq).ownsRow W1.heap.size 43 3 v4 (gs ++ [f]).length (xs ++ [.string Tf, .slice A9 n9 c9, .int .i64 ((f.sure : Nat) : Int)]) ∧ Fx (w4.drewN nq) S (xs ++ [.string Tf, .slice A9 n9 c9, .int .i64 ((f.sure : Nat) : Int)]) (gs ++ [f]) ∧ Below W1.heap.size W1 (w4.drewN nq) ∧ W1.heap.size ≤ (w4.drewN nq).heap.size) := Lib.hid ⟨HX.out.1, HX.out.2.1.drewN nq, below_drewN HX.out.2.2.1 nq, HX.out.2.2.2⟩
            revert HX2
            generalize w4.drewN nq = w6
            intro HX2
            clear e0 x0 HX d2
            obtain ⟨hown, hx, hb, hbs⟩ := HX2.out
            clear HX2
            obtain ⟨⟨e0, e1, e2⟩, ⟨x0, x1, x2⟩, hvg, hvf⟩ := HC.out _ hb
            have HLL : Hid ((gs ++ [f]).length ≤ 1000000) := Lib.hid (by have := HLN.out; simp; omega)
            go_wp2_with (at_builtin; refine wpList_append_fl 43 rfl _ _ 28 rfl 43 i0 _ Try.underlying28 hi hz0 hz1 hz2 rfl _ (gs ++ [f]) (xs ++ [.string Tf, .slice A9 n9 c9, .int .i64 ((f.sure : Nat) : Int)]) rfl hown hx hb hbs (fun k hk => HSS.out k (by have := HS.out; omega)) _ _ _ g hvg rfl HLL.out ?_; intro v5 w7 hh)
            obtain ⟨hown', hx', hb', hbs'⟩ := hh
            clear e0 e1 e2 x0 x1 x2 hvg hvf hown hx hb hbs HLL
            have hown := hown'
            have hx := hx'
            have hb := hb'
            have hbs := hbs'
            clear hown' hx' hb' hbs'
            have HR := Lib.hid (And.intro hown (And.intro hx (And.intro hb hbs)))
            clear hown hx hb hbs
            go_wp2
            go_roundw
            case rel => exact ⟨k + 1, true, by omega, by go_num, rfl, (gs ++ [f]) ++ [g], (xs ++ [.string Tf, .slice A9 n9 c9, .int .i64 ((f.sure : Nat) : Int)]) ++ [.string T, .slice A2 n2 c2, .int .i64 ((g.sure : Nat) : Int)], HR.out, by have := HLN.out; simp; omega, by rw [HE.out, HST.out, HL.out, if_neg HEQ.out]; simp⟩
            case measure => simp [intOf]; omega
        · obtain ⟨⟨e0, e1, e2⟩, ⟨x0, x1, x2⟩, hvg, hvf⟩ := HC.out _ hb
          have d1 : Op.bytesLess T.toList Tf.toList = true := by rw [HTL.out, HTF.out]; exact hl
          have HX := Lib.hid (And.intro hown (And.intro hx (And.intro hb hbs)))
          have HLN := Lib.hid hlen
          clear hvg hvf e1 e2 x1 x2 hown hx hb hbs
          go_wp2_with fail
          go_quiet (fail)
          have HX2 : Hid ((wr.drewN nq).ownsRow W1.heap.size 43 3 u5 gs.length xs ∧ Fx (wr.drewN nq) S xs gs ∧ Below W1.heap.size W1 (wr.drewN nq) ∧ W1.heap.size ≤ (wr.drewN nq).heap.size) := Lib.hid ⟨HX.out.1, HX.out.2.1.drewN nq, below_drewN HX.out.2.2.1 nq, HX.out.2.2.2⟩
          revert HX2
          generalize wr.drewN nq = w2
          intro HX2
          clear e0 x0 HX d1
          obtain ⟨hown, hx, hb, hbs⟩ := HX2.out
          clear HX2
          have HL := Lib.hid hl
          clear hl
          by_cases he : g.name = f.name
          · obtain ⟨⟨e0, e1, e2⟩, ⟨x0, x1, x2⟩, hvg, hvf⟩ := HC.out _ hb
            have d2 : (T.toList == Tf.toList) = true := by rw [HTL.out, HTF.out]; simp [he]
            have HX := Lib.hid (And.intro hown (And.intro hx (And.intro hb hbs)))
            have HEQ := Lib.hid he
            clear hvg hvf e1 e2 x1 x2 hown hx hb hbs he
            go_wp2_with fail
            go_quiet (fail)
            have HX2 : Hid ((w2.drewN nq).ownsRow W1.heap.size 43 3 u5 (gs).length (xs) ∧ Fx (w2.drewN nq) S (xs) (gs) ∧ Below W1.heap.size W1 (w2.drewN nq) ∧ W1.heap.size ≤ (w2.drewN nq).heap.size) := Lib.hid ⟨HX.out.1, HX.out.2.1.drewN nq, below_drewN HX.out.2.2.1 nq, HX.out.2.2.2⟩
            revert HX2
            generalize w2.drewN nq = w6
            intro HX2
            clear e0 x0 HX d2
            obtain ⟨hown, hx, hb, hbs⟩ := HX2.out
            clear HX2
            have HR := Lib.hid (And.intro hown (And.intro hx (And.intro hb hbs)))
            clear hown hx hb hbs
            go_wp2
            go_roundw
            case rel => exact ⟨k + 1, false, by omega, by go_num, rfl, gs, xs, HR.out, by have := HLN.out; simp; omega, by rw [HE.out, HST.out, HL.out, if_pos HEQ.out]; simp⟩
            case measure => simp [intOf]; omega
          · obtain ⟨⟨e0, e1, e2⟩, ⟨x0, x1, x2⟩, hvg, hvf⟩ := HC.out _ hb
            have d2 : (T.toList == Tf.toList) = false := by rw [HTL.out, HTF.out]; simpa using he
            have HX := Lib.hid (And.intro hown (And.intro hx (And.intro hb hbs)))
            have HEQ := Lib.hid he
            clear hvg hvf e1 e2 x1 x2 hown hx hb hbs he
            go_wp2_with fail
            go_quiet (fail)
            have HX2 : Hid ((w2.drewN nq).ownsRow W1.heap.size 43 3 u5 (gs).length (xs) ∧ Fx (w2.drewN nq) S (xs) (gs) ∧ Below W1.heap.size W1 (w2.drewN nq) ∧ W1.heap.size ≤ (w2.drewN nq).heap.size) := Lib.hid ⟨HX.out.1, HX.out.2.1.drewN nq, below_drewN HX.out.2.2.1 nq, HX.out.2.2.2⟩
            revert HX2
            generalize w2.drewN nq = w6
            intro HX2
            clear e0 x0 HX d2
            obtain ⟨hown, hx, hb, hbs⟩ := HX2.out
            clear HX2
            obtain ⟨⟨e0, e1, e2⟩, ⟨x0, x1, x2⟩, hvg, hvf⟩ := HC.out _ hb
            have HLL : Hid ((gs).length ≤ 1000000) := Lib.hid (by have := HLN.out; simp; omega)
            go_wp2_with (at_builtin; refine wpList_append_fl 43 rfl _ _ 28 rfl 43 i0 _ Try.underlying28 hi hz0 hz1 hz2 rfl _ (gs) (xs) rfl hown hx hb hbs (fun k hk => HSS.out k (by have := HS.out; omega)) _ _ _ g hvg rfl HLL.out ?_; intro v5 w7 hh)
            obtain ⟨hown', hx', hb', hbs'⟩ := hh
            clear e0 e1 e2 x0 x1 x2 hvg hvf hown hx hb hbs HLL
            have hown := hown'
            have hx := hx'
            have hb := hb'
            have hbs := hbs'
            clear hown' hx' hb' hbs'
            have HR := Lib.hid (And.intro hown (And.intro hx (And.intro hb hbs)))
            clear hown hx hb hbs
            go_wp2
            go_roundw
            case rel => exact ⟨k + 1, false, by omega, by go_num, rfl, (gs) ++ [g], (xs) ++ [.string T, .slice A2 n2 c2, .int .i64 ((g.sure : Nat) : Int)], HR.out, by have := HLN.out; simp; omega, by rw [HE.out, HST.out, HL.out, if_neg HEQ.out]; simp⟩
            case measure => simp [intOf]; omega
      · obtain ⟨⟨e0, e1, e2⟩, ⟨x0, x1, x2⟩, hvg, hvf⟩ := HC.out _ hb
        have HX := Lib.hid (And.intro hown (And.intro hx (And.intro hb hbs)))
        have HLN := Lib.hid hlen
        clear hvg hvf e1 e2 x1 x2 hown hx hb hbs
        go_wp2_with fail
        go_quiet (fail)
        have HX2 : Hid ((wr.drewN nq).ownsRow W1.heap.size 43 3 u5 gs.length xs ∧ Fx (wr.drewN nq) S xs gs ∧ Below W1.heap.size W1 (wr.drewN nq) ∧ W1.heap.size ≤ (wr.drewN nq).heap.size) := Lib.hid ⟨HX.out.1, HX.out.2.1.drewN nq, below_drewN HX.out.2.2.1 nq, HX.out.2.2.2⟩
        revert HX2
        generalize wr.drewN nq = w2
        intro HX2
        clear e0 x0 HX
        obtain ⟨hown, hx, hb, hbs⟩ := HX2.out
        clear HX2
        by_cases he : g.name = f.name
        · obtain ⟨⟨e0, e1, e2⟩, ⟨x0, x1, x2⟩, hvg, hvf⟩ := HC.out _ hb
          have d2 : (T.toList == Tf.toList) = true := by rw [HTL.out, HTF.out]; simp [he]
          have HX := Lib.hid (And.intro hown (And.intro hx (And.intro hb hbs)))
          have HEQ := Lib.hid he
          clear hvg hvf e1 e2 x1 x2 hown hx hb hbs he
          go_wp2_with fail
          go_quiet (fail)
          have HX2 : Hid ((w2.drewN nq).ownsRow W1.heap.size 43 3 u5 (gs).length (xs) ∧ Fx (w2.drewN nq) S (xs) (gs) ∧ Below W1.heap.size W1 (w2.drewN nq) ∧ W1.heap.size ≤ (w2.drewN nq).heap.size) := Lib.hid ⟨HX.out.1, HX.out.2.1.drewN nq, below_drewN HX.out.2.2.1 nq, HX.out.2.2.2⟩
          revert HX2
          generalize w2.drewN nq = w6
          intro HX2
          clear e0 x0 HX d2
          obtain ⟨hown, hx, hb, hbs⟩ := HX2.out
          clear HX2
          have HR := Lib.hid (And.intro hown (And.intro hx (And.intro hb hbs)))
          clear hown hx hb hbs
          go_wp2
          go_roundw
          case rel => exact ⟨k + 1, true, by omega, by go_num, rfl, gs, xs, HR.out, by have := HLN.out; simp; omega, by rw [HE.out, HST.out, if_pos HEQ.out]; simp⟩
          case measure => simp [intOf]; omega
        · obtain ⟨⟨e0, e1, e2⟩, ⟨x0, x1, x2⟩, hvg, hvf⟩ := HC.out _ hb
          have d2 : (T.toList == Tf.toList) = false := by rw [HTL.out, HTF.out]; simpa using he
          have HX := Lib.hid (And.intro hown (And.intro hx (And.intro hb hbs)))
          have HEQ := Lib.hid he
          clear hvg hvf e1 e2 x1 x2 hown hx hb hbs he
          go_wp2_with fail
          go_quiet (fail)
          have HX2 : Hid ((w2.drewN nq).ownsRow W1.heap.size 43 3 u5 (gs).length (xs) ∧ Fx (w2.drewN nq) S (xs) (gs) ∧ Below W1.heap.size W1 (w2.drewN nq) ∧ W1.heap.size ≤ (w2.drewN nq).heap.size) := Lib.hid ⟨HX.out.1, HX.out.2.1.drewN nq, below_drewN HX.out.2.2.1 nq, HX.out.2.2.2⟩
          revert HX2
          generalize w2.drewN nq = w6
          intro HX2
          clear e0 x0 HX d2
          obtain ⟨hown, hx, hb, hbs⟩ := HX2.out
          clear HX2
          obtain ⟨⟨e0, e1, e2⟩, ⟨x0, x1, x2⟩, hvg, hvf⟩ := HC.out _ hb
          have HLL : Hid ((gs).length ≤ 1000000) := Lib.hid (by have := HLN.out; simp; omega)
          go_wp2_with (at_builtin; refine wpList_append_fl 43 rfl _ _ 28 rfl 43 i0 _ Try.underlying28 hi hz0 hz1 hz2 rfl _ (gs) (xs) rfl hown hx hb hbs (fun k hk => HSS.out k (by have := HS.out; omega)) _ _ _ g hvg rfl HLL.out ?_; intro v5 w7 hh)
          obtain ⟨hown', hx', hb', hbs'⟩ := hh
          clear e0 e1 e2 x0 x1 x2 hvg hvf hown hx hb hbs HLL
          have hown := hown'
          have hx := hx'
          have hb := hb'
          have hbs := hbs'
          clear hown' hx' hb' hbs'
          have HR := Lib.hid (And.intro hown (And.intro hx (And.intro hb hbs)))
          clear hown hx hb hbs
          go_wp2
          go_roundw
          case rel => exact ⟨k + 1, true, by omega, by go_num, rfl, (gs) ++ [g], (xs) ++ [.string T, .slice A2 n2 c2, .int .i64 ((g.sure : Nat) : Int)], HR.out, by have := HLN.out; simp; omega, by rw [HE.out, HST.out, if_neg HEQ.out]; simp⟩
          case measure => simp [intOf]; omega
    · obtain ⟨gs, xs, ⟨hown, hx, hb, hbs⟩, hlen, hE⟩ := hI
      have hE2 : withF f false fs = gs ++ if d then [] else [f] := by rw [hE, withF_end _ _ _ _ (by have := HF.out.1; omega)]
      have HE := Lib.hid hE2
      have HLN := Lib.hid hlen
      clear hE hE2 hlen
      cases d
      · obtain ⟨x0, x1, x2⟩ : (wr.cell? ⟨W.heap.size, 0, none⟩ = some (.string Tf) ∧ wr.cell? ⟨W.heap.size, 1, none⟩ = some (.slice A9 n9 c9) ∧ wr.cell? ⟨W.heap.size, 2, none⟩ = some (.int .i64 ((f.sure : Nat) : Int))) := by
          have hlt2 : W.heap.size < W1.heap.size := by rw [HS.out]; omega
          obtain ⟨x0, x1, x2⟩ := HBX.out
          exact ⟨(hb.cell (p := ⟨W.heap.size, 0, none⟩) hlt2).trans x0, (hb.cell (p := ⟨W.heap.size, 1, none⟩) hlt2).trans x1, (hb.cell (p := ⟨W.heap.size, 2, none⟩) hlt2).trans x2⟩
        have hvf := HV.out.turn (Turn.of_below hb)
        have HLL : Hid (gs.length ≤ 1000000) := Lib.hid (by have := HLN.out; omega)
        go_wp2_with (at_builtin; refine wpList_append_fl 43 rfl _ _ 28 rfl 43 i0 _ Try.underlying28 hi hz0 hz1 hz2 rfl _ gs xs rfl hown hx hb hbs (fun k hk => HSS.out k (by have := HS.out; omega)) _ _ _ f hvf rfl HLL.out ?_; intro v4 w4 hh)
        have HR := Lib.hid hh
        clear hown hx hb hbs hvf x0 x1 x2 hh HLL
        go_wp2
        go_ret
        obtain ⟨h1, h2, h3, h4⟩ := HR.out
        exact ⟨_, _, rfl, by rw [HE.out]; exact own_mono h1 (by rw [HS.out]; omega), by rw [HE.out]; exact h2, HB1.out.trans (h3.mono (by rw [HS.out]; omega))⟩
      · have HR := Lib.hid (And.intro hown (And.intro hx (And.intro hb hbs)))
        clear hown hx hb hbs
        go_wp2
        go_ret
        obtain ⟨h1, h2, h3, h4⟩ := HR.out
        have hg : withF f false fs = gs := by rw [HE.out]; simp
        exact ⟨_, _, rfl, by rw [hg]; exact own_mono h1 (by rw [HS.out]; omega), by rw [hg]; exact h2, HB1.out.trans (h3.mono (by rw [HS.out]; omega))⟩

end Go.Proofs.Ytnjkilmhphcocaa
