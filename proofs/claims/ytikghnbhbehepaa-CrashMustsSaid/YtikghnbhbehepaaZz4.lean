/-
  The reference's files with one more, or in the place of that of its name.
-/
import Derived.Test.YtikghnbhbehepaaZz3
import Derived.IntWalk
import Derived.Test.YtikghnbhbehepaaZz2
namespace Go.Proofs.Ytikghnbhbehepaa
open Go.RowKit
set_option linter.unusedVariables false
set_option linter.unusedSimpArgs false

/-- Where the loop stands: the files ahead, whether the new one stands, what is left. -/
def WithI (W1 : World) (S : Nat → Prop) (f : Fl) (fs : List Fl) (d : Bool) (k : Nat) (v : Value) (w : World) : Prop :=
  ∃ gs xs, (w.ownsRow W1.heap.size 54 3 v gs.length xs ∧ Fx w S xs gs ∧ Below W1.heap.size W1 w ∧ W1.heap.size ≤ w.heap.size) ∧ gs.length ≤ 2 * k ∧ withF f false fs = gs ++ withF f d (fs.drop k)
theorem WithI.drewN {W1 w : World} {S : Nat → Prop} {k : Nat} {f : Fl} {fs : List Fl} {d : Bool} {v : Value} (h : WithI W1 S f fs d k v w) (q : Nat) : WithI W1 S f fs d k v (w.drewN q) := by
  obtain ⟨gs, xs, ⟨h1, h2, h3, h4⟩, h5⟩ := h
  exact ⟨gs, xs, ⟨h1, h2.drewN q, below_drewN h3 q, h4⟩, h5⟩

set_option maxRecDepth 100000 in
set_option maxHeartbeats 8000000 in
theorem with_any (A : Option Addr) (n c : Nat) (fs : List Fl) (f : Fl) (vf : Value) (S : Nat → Prop) (W : World) (hfl : Fls W S A n fs) (hvf : FlV W S vf f) (hS : ∀ k, W.heap.size ≤ k → S k) (hn : n ≤ 100000) :
    Calls Try.prog 34 #[.slice A n c, vf] W (FlsOut S (withF f false fs) W) := by
  obtain ⟨i0, hi, hz0, hz1, hz2⟩ := info_parts Try.infoFl
  obtain ⟨A9, n9, c9, rfl, hvb⟩ := hvf
  obtain ⟨Tf, hTf⟩ : ∃ T : ByteArray, ⟨f.name.toArray⟩ = T := ⟨_, rfl⟩
  have hTfl : Tf.toList = f.name := by rw [ByteArray.toList_eq, ← hTf]
  have HVF : Hid (FlV W S (.agg #[.string Tf, .slice A9 n9 c9, .int .i64 ((f.sure : Nat) : Int)]) f) := Lib.hid ⟨A9, n9, c9, by rw [hTf], hvb⟩
  rw [hTf]
  have HTF := Lib.hid hTfl
  obtain ⟨W1, hW1⟩ : ∃ W1, W1 = W.alloc (.cells #[.string Tf, .slice A9 n9 c9, .int .i64 ((f.sure : Nat) : Int)] 54) := ⟨_, rfl⟩
  have hb1 : Below W.heap.size W W1 := by rw [hW1]; exact (Below.refl _ W).alloc (Nat.le_refl _) _
  have hs1 : W1.heap.size = W.heap.size + 1 := by rw [hW1]; simp
  have HF : Hid (Fls W1 S A n fs) := Lib.hid (hfl.turn (Turn.of_below hb1))
  have HV : Hid (FlV W1 S (.agg #[.string Tf, .slice A9 n9 c9, .int .i64 ((f.sure : Nat) : Int)]) f) := Lib.hid (HVF.out.turn (Turn.of_below hb1))
  have HBX : Hid (W1.cell? ⟨W.heap.size, 0, none⟩ = some (.string Tf) ∧ W1.cell? ⟨W.heap.size, 1, none⟩ = some (.slice A9 n9 c9) ∧ W1.cell? ⟨W.heap.size, 2, none⟩ = some (.int .i64 ((f.sure : Nat) : Int))) := Lib.hid (by
    rw [hW1]
    exact ⟨by simp [World.cell?_alloc_at], by simp [World.cell?_alloc_at], by simp [World.cell?_alloc_at]⟩)
  have HS := Lib.hid hs1
  have HSS := Lib.hid hS
  have HB1 := Lib.hid hb1
  clear hfl hvb hTf hTfl hb1 hs1 hS
  go_enter Try.func34, Try.ntmps34
  go_wp2_with fail
  rw [← hW1]
  have HW1 := Lib.hid hW1
  clear hW1
  go_loopw [5, 6, 7] (fun v dv i wr => ∃ (k : Nat) (d : Bool), k ≤ n ∧ i = .int .i64 k ∧ dv = .bool d ∧ WithI W1 S f fs d k v wr) (fun _ _ i _ => n - (intOf i).toNat)
  case atStart => exact ⟨0, false, Nat.zero_le _, rfl, rfl, [], [], ⟨World.ownsRow_nil _ _ _ _, rfl, Below.refl _ _, Nat.le_refl _⟩, Nat.le_refl _, rfl⟩
  case round =>
    obtain ⟨k, d, hk, rfl, rfl, hI⟩ := hrel
    by_cases hlt : k < n
    · obtain ⟨g, hg⟩ : ∃ g, fs[k]? = some g := ⟨_, List.getElem?_eq_getElem (by have := HF.out.1; omega)⟩
      obtain ⟨b, o, rfl, hbS, hfa⟩ := HF.out.2 (by omega)
      obtain ⟨y0, y1, y2, hq0, hq1, hq2, hv⟩ := hfa k g hg
      have hbB : b < W1.heap.size := block_lt_of_cell hq0
      obtain ⟨A2, n2, c2, rfl, rfl, rfl, _⟩ := fl_parts hv
      obtain ⟨T, hT⟩ : ∃ T : ByteArray, ⟨g.name.toArray⟩ = T := ⟨_, rfl⟩
      have hTl : T.toList = g.name := by rw [ByteArray.toList_eq, ← hT]
      rw [hT] at hq0 hv
      have HC : Hid (∀ w : World, Below W1.heap.size W1 w → (w.cell? ⟨b, o + k * 3, none⟩ = some (.string T) ∧ w.cell? ⟨b, o + k * 3 + 1, none⟩ = some (.slice A2 n2 c2) ∧ w.cell? ⟨b, o + k * 3 + 2, none⟩ = some (.int .i64 ((g.sure : Nat) : Int))) ∧
          (w.cell? ⟨W.heap.size, 0, none⟩ = some (.string Tf) ∧ w.cell? ⟨W.heap.size, 1, none⟩ = some (.slice A9 n9 c9) ∧ w.cell? ⟨W.heap.size, 2, none⟩ = some (.int .i64 ((f.sure : Nat) : Int))) ∧
          FlV w S (.agg #[.string T, .slice A2 n2 c2, .int .i64 ((g.sure : Nat) : Int)]) g ∧ FlV w S (.agg #[.string Tf, .slice A9 n9 c9, .int .i64 ((f.sure : Nat) : Int)]) f) := Lib.hid (fun w hb => by
        have hlt1 : b < W1.heap.size := hbB
        have hlt2 : W.heap.size < W1.heap.size := by rw [HS.out]; omega
        have hTu : Turn S W1 w := Turn.of_below hb
        obtain ⟨x0, x1, x2⟩ := HBX.out
        exact ⟨⟨(hb.cell (p := ⟨b, o + k * 3, none⟩) hlt1).trans hq0, (hb.cell (p := ⟨b, o + k * 3 + 1, none⟩) hlt1).trans hq1, (hb.cell (p := ⟨b, o + k * 3 + 2, none⟩) hlt1).trans hq2⟩,
          ⟨(hb.cell (p := ⟨W.heap.size, 0, none⟩) hlt2).trans x0, (hb.cell (p := ⟨W.heap.size, 1, none⟩) hlt2).trans x1, (hb.cell (p := ⟨W.heap.size, 2, none⟩) hlt2).trans x2⟩, hv.turn hTu, HV.out.turn hTu⟩)
      have HST := Lib.hid (withF_drop f d fs k g hg)
      have HTL := Lib.hid hTl
      clear hfa hv hq0 hq1 hq2 hg hT hTl
      obtain ⟨gs, xs, ⟨hown, hx, hb, hbs⟩, hlen, hE⟩ := hI
      have HE := Lib.hid hE
      clear hE
      cases d
      · cases hl : Op.bytesLess g.name f.name
        · obtain ⟨⟨e0, e1, e2⟩, ⟨x0, x1, x2⟩, hvg, hvf⟩ := HC.out _ hb
          have d1 : Op.bytesLess T.toList Tf.toList = false := by rw [HTL.out, HTF.out]; exact hl
          have HX := Lib.hid (And.intro hown (And.intro hx (And.intro hb hbs)))
          have HLN := Lib.hid hlen
          clear hvg hvf e1 e2 x1 x2 hown hx hb hbs
          go_wp2_with fail
          go_quiet (fail)
          have HX2 : Hid ((wr.drewN nq).ownsRow W1.heap.size 54 3 u5 gs.length xs ∧ Fx (wr.drewN nq) S xs gs ∧ Below W1.heap.size W1 (wr.drewN nq) ∧ W1.heap.size ≤ (wr.drewN nq).heap.size) := Lib.hid ⟨HX.out.1, HX.out.2.1.drewN nq, below_drewN HX.out.2.2.1 nq, HX.out.2.2.2⟩
          revert HX2
          generalize wr.drewN nq = w2
          intro HX2
          clear e0 x0 HX d1
          obtain ⟨hown, hx, hb, hbs⟩ := HX2.out
          clear HX2
          have HL := Lib.hid hl
          clear hl
          obtain ⟨⟨e0, e1, e2⟩, ⟨x0, x1, x2⟩, hvg, hvf⟩ := HC.out _ hb
          have HLL : Hid (gs.length ≤ 1000000) := Lib.hid (by have := HLN.out; omega)
          go_wp2_with (at_builtin; refine wpList_append_fl 54 rfl _ _ 28 rfl 54 i0 _ Try.underlying28 hi hz0 hz1 hz2 rfl _ gs xs rfl hown hx hb hbs (fun k hk => HSS.out k (by have := HS.out; omega)) _ _ _ f hvf rfl HLL.out ?_; intro v4 w4 hh)
          obtain ⟨hown', hx', hb', hbs'⟩ := hh
          clear e0 e1 e2 x0 x1 x2 hvg hvf hown hx hb hbs HLL
          have hown := hown'
          have hx := hx'
          have hb := hb'
          have hbs := hbs'
          clear hown' hx' hb' hbs'
          by_cases he : g.name = f.name
          · obtain ⟨⟨e0, e1, e2⟩, ⟨x0, x1, x2⟩, hvg, hvf⟩ := HC.out _ hb
            have d2 : (T.toList == Tf.toList) = true := by rw [HTL.out, HTF.out]; simp [he]
            have HX := Lib.hid (And.intro hown (And.intro hx (And.intro hb hbs)))
            have HEQ := Lib.hid he
            clear hvg hvf e1 e2 x1 x2 hown hx hb hbs he
            go_wp2_with fail
            go_quiet (fail)
            have HX2 : Hid ((w4.drewN nq).ownsRow W1.heap.size 54 3 v4 (gs ++ [f]).length (xs ++ [.string Tf, .slice A9 n9 c9, .int .i64 ((f.sure : Nat) : Int)]) ∧ Fx (w4.drewN nq) S (xs ++ [.string Tf, .slice A9 n9 c9, .int .i64 ((f.sure : Nat) : Int)]) (gs ++ [f]) ∧ Below W1.heap.size W1 (w4.drewN nq) ∧ W1.heap.size ≤ (w4.drewN nq).heap.size) := Lib.hid ⟨HX.out.1, HX.out.2.1.drewN nq, below_drewN HX.out.2.2.1 nq, HX.out.2.2.2⟩
            revert HX2
            generalize w4.drewN nq = w6
            intro HX2
            clear e0 x0 HX d2
            obtain ⟨hown, hx, hb, hbs⟩ := HX2.out
            clear HX2
            have HR := Lib.hid (And.intro hown (And.intro hx (And.intro hb hbs)))
            clear hown hx hb hbs
            go_wp2
            go_roundw
            case rel => exact ⟨k + 1, true, by omega, by go_num, rfl, gs ++ [f], xs ++ [.string Tf, .slice A9 n9 c9, .int .i64 ((f.sure : Nat) : Int)], HR.out, by have := HLN.out; simp; omega, by rw [HE.out, HST.out, HL.out, if_pos HEQ.out]; simp⟩
            case measure => simp [intOf]; omega
          · obtain ⟨⟨e0, e1, e2⟩, ⟨x0, x1, x2⟩, hvg, hvf⟩ := HC.out _ hb
            have d2 : (T.toList == Tf.toList) = false := by rw [HTL.out, HTF.out]; simpa using he
            have HX := Lib.hid (And.intro hown (And.intro hx (And.intro hb hbs)))
            have HEQ := Lib.hid he
            clear hvg hvf e1 e2 x1 x2 hown hx hb hbs he
            go_wp2_with fail
            go_quiet (fail)
            have HX2 : Hid ((w4.drewN nq).ownsRow W1.heap.size 54 3 v4 (gs ++ [f]).length (xs ++ [.string Tf, .slice A9 n9 c9, .int .i64 ((f.sure : Nat) : Int)]) ∧ Fx (w4.drewN nq) S (xs ++ [.string Tf, .slice A9 n9 c9, .int .i64 ((f.sure : Nat) : Int)]) (gs ++ [f]) ∧ Below W1.heap.size W1 (w4.drewN nq) ∧ W1.heap.size ≤ (w4.drewN nq).heap.size) := Lib.hid ⟨HX.out.1, HX.out.2.1.drewN nq, below_drewN HX.out.2.2.1 nq, HX.out.2.2.2⟩
            revert HX2
            generalize w4.drewN nq = w6
            intro HX2
            clear e0 x0 HX d2
            obtain ⟨hown, hx, hb, hbs⟩ := HX2.out
            clear HX2
            obtain ⟨⟨e0, e1, e2⟩, ⟨x0, x1, x2⟩, hvg, hvf⟩ := HC.out _ hb
            have HLL : Hid ((gs ++ [f]).length ≤ 1000000) := Lib.hid (by have := HLN.out; simp; omega)
            go_wp2_with (at_builtin; refine wpList_append_fl 54 rfl _ _ 28 rfl 54 i0 _ Try.underlying28 hi hz0 hz1 hz2 rfl _ (gs ++ [f]) (xs ++ [.string Tf, .slice A9 n9 c9, .int .i64 ((f.sure : Nat) : Int)]) rfl hown hx hb hbs (fun k hk => HSS.out k (by have := HS.out; omega)) _ _ _ g hvg rfl HLL.out ?_; intro v5 w7 hh)
            obtain ⟨hown', hx', hb', hbs'⟩ := hh
            clear e0 e1 e2 x0 x1 x2 hvg hvf hown hx hb hbs HLL
            have hown := hown'
            have hx := hx'
            have hb := hb'
            have hbs := hbs'
            clear hown' hx' hb' hbs'
            have HR := Lib.hid (And.intro hown (And.intro hx (And.intro hb hbs)))
            clear hown hx hb hbs
            go_wp2
            go_roundw
            case rel => exact ⟨k + 1, true, by omega, by go_num, rfl, (gs ++ [f]) ++ [g], (xs ++ [.string Tf, .slice A9 n9 c9, .int .i64 ((f.sure : Nat) : Int)]) ++ [.string T, .slice A2 n2 c2, .int .i64 ((g.sure : Nat) : Int)], HR.out, by have := HLN.out; simp; omega, by rw [HE.out, HST.out, HL.out, if_neg HEQ.out]; simp⟩
            case measure => simp [intOf]; omega
        · obtain ⟨⟨e0, e1, e2⟩, ⟨x0, x1, x2⟩, hvg, hvf⟩ := HC.out _ hb
          have d1 : Op.bytesLess T.toList Tf.toList = true := by rw [HTL.out, HTF.out]; exact hl
          have HX := Lib.hid (And.intro hown (And.intro hx (And.intro hb hbs)))
          have HLN := Lib.hid hlen
          clear hvg hvf e1 e2 x1 x2 hown hx hb hbs
          go_wp2_with fail
          go_quiet (fail)
          have HX2 : Hid ((wr.drewN nq).ownsRow W1.heap.size 54 3 u5 gs.length xs ∧ Fx (wr.drewN nq) S xs gs ∧ Below W1.heap.size W1 (wr.drewN nq) ∧ W1.heap.size ≤ (wr.drewN nq).heap.size) := Lib.hid ⟨HX.out.1, HX.out.2.1.drewN nq, below_drewN HX.out.2.2.1 nq, HX.out.2.2.2⟩
          revert HX2
          generalize wr.drewN nq = w2
          intro HX2
          clear e0 x0 HX d1
          obtain ⟨hown, hx, hb, hbs⟩ := HX2.out
          clear HX2
          have HL := Lib.hid hl
          clear hl
          by_cases he : g.name = f.name
          · obtain ⟨⟨e0, e1, e2⟩, ⟨x0, x1, x2⟩, hvg, hvf⟩ := HC.out _ hb
            have d2 : (T.toList == Tf.toList) = true := by rw [HTL.out, HTF.out]; simp [he]
            have HX := Lib.hid (And.intro hown (And.intro hx (And.intro hb hbs)))
            have HEQ := Lib.hid he
            clear hvg hvf e1 e2 x1 x2 hown hx hb hbs he
            go_wp2_with fail
            go_quiet (fail)
            have HX2 : Hid ((w2.drewN nq).ownsRow W1.heap.size 54 3 u5 (gs).length (xs) ∧ Fx (w2.drewN nq) S (xs) (gs) ∧ Below W1.heap.size W1 (w2.drewN nq) ∧ W1.heap.size ≤ (w2.drewN nq).heap.size) := Lib.hid ⟨HX.out.1, HX.out.2.1.drewN nq, below_drewN HX.out.2.2.1 nq, HX.out.2.2.2⟩
            revert HX2
            generalize w2.drewN nq = w6
            intro HX2
            clear e0 x0 HX d2
            obtain ⟨hown, hx, hb, hbs⟩ := HX2.out
            clear HX2
            have HR := Lib.hid (And.intro hown (And.intro hx (And.intro hb hbs)))
            clear hown hx hb hbs
            go_wp2
            go_roundw
            case rel => exact ⟨k + 1, false, by omega, by go_num, rfl, gs, xs, HR.out, by have := HLN.out; simp; omega, by rw [HE.out, HST.out, HL.out, if_pos HEQ.out]; simp⟩
            case measure => simp [intOf]; omega
          · obtain ⟨⟨e0, e1, e2⟩, ⟨x0, x1, x2⟩, hvg, hvf⟩ := HC.out _ hb
            have d2 : (T.toList == Tf.toList) = false := by rw [HTL.out, HTF.out]; simpa using he
            have HX := Lib.hid (And.intro hown (And.intro hx (And.intro hb hbs)))
            have HEQ := Lib.hid he
            clear hvg hvf e1 e2 x1 x2 hown hx hb hbs he
            go_wp2_with fail
            go_quiet (fail)
            have HX2 : Hid ((w2.drewN nq).ownsRow W1.heap.size 54 3 u5 (gs).length (xs) ∧ Fx (w2.drewN nq) S (xs) (gs) ∧ Below W1.heap.size W1 (w2.drewN nq) ∧ W1.heap.size ≤ (w2.drewN nq).heap.size) := Lib.hid ⟨HX.out.1, HX.out.2.1.drewN nq, below_drewN HX.out.2.2.1 nq, HX.out.2.2.2⟩
            revert HX2
            generalize w2.drewN nq = w6
            intro HX2
            clear e0 x0 HX d2
            obtain ⟨hown, hx, hb, hbs⟩ := HX2.out
            clear HX2
            obtain ⟨⟨e0, e1, e2⟩, ⟨x0, x1, x2⟩, hvg, hvf⟩ := HC.out _ hb
            have HLL : Hid ((gs).length ≤ 1000000) := Lib.hid (by have := HLN.out; simp; omega)
            go_wp2_with (at_builtin; refine wpList_append_fl 54 rfl _ _ 28 rfl 54 i0 _ Try.underlying28 hi hz0 hz1 hz2 rfl _ (gs) (xs) rfl hown hx hb hbs (fun k hk => HSS.out k (by have := HS.out; omega)) _ _ _ g hvg rfl HLL.out ?_; intro v5 w7 hh)
            obtain ⟨hown', hx', hb', hbs'⟩ := hh
            clear e0 e1 e2 x0 x1 x2 hvg hvf hown hx hb hbs HLL
            have hown := hown'
            have hx := hx'
            have hb := hb'
            have hbs := hbs'
            clear hown' hx' hb' hbs'
            have HR := Lib.hid (And.intro hown (And.intro hx (And.intro hb hbs)))
            clear hown hx hb hbs
            go_wp2
            go_roundw
            case rel => exact ⟨k + 1, false, by omega, by go_num, rfl, (gs) ++ [g], (xs) ++ [.string T, .slice A2 n2 c2, .int .i64 ((g.sure : Nat) : Int)], HR.out, by have := HLN.out; simp; omega, by rw [HE.out, HST.out, HL.out, if_neg HEQ.out]; simp⟩
            case measure => simp [intOf]; omega
      · obtain ⟨⟨e0, e1, e2⟩, ⟨x0, x1, x2⟩, hvg, hvf⟩ := HC.out _ hb
        have HX := Lib.hid (And.intro hown (And.intro hx (And.intro hb hbs)))
        have HLN := Lib.hid hlen
        clear hvg hvf e1 e2 x1 x2 hown hx hb hbs
        go_wp2_with fail
        go_quiet (fail)
        have HX2 : Hid ((wr.drewN nq).ownsRow W1.heap.size 54 3 u5 gs.length xs ∧ Fx (wr.drewN nq) S xs gs ∧ Below W1.heap.size W1 (wr.drewN nq) ∧ W1.heap.size ≤ (wr.drewN nq).heap.size) := Lib.hid ⟨HX.out.1, HX.out.2.1.drewN nq, below_drewN HX.out.2.2.1 nq, HX.out.2.2.2⟩
        revert HX2
        generalize wr.drewN nq = w2
        intro HX2
        clear e0 x0 HX
        obtain ⟨hown, hx, hb, hbs⟩ := HX2.out
        clear HX2
        by_cases he : g.name = f.name
        · obtain ⟨⟨e0, e1, e2⟩, ⟨x0, x1, x2⟩, hvg, hvf⟩ := HC.out _ hb
          have d2 : (T.toList == Tf.toList) = true := by rw [HTL.out, HTF.out]; simp [he]
          have HX := Lib.hid (And.intro hown (And.intro hx (And.intro hb hbs)))
          have HEQ := Lib.hid he
          clear hvg hvf e1 e2 x1 x2 hown hx hb hbs he
          go_wp2_with fail
          go_quiet (fail)
          have HX2 : Hid ((w2.drewN nq).ownsRow W1.heap.size 54 3 u5 (gs).length (xs) ∧ Fx (w2.drewN nq) S (xs) (gs) ∧ Below W1.heap.size W1 (w2.drewN nq) ∧ W1.heap.size ≤ (w2.drewN nq).heap.size) := Lib.hid ⟨HX.out.1, HX.out.2.1.drewN nq, below_drewN HX.out.2.2.1 nq, HX.out.2.2.2⟩
          revert HX2
          generalize w2.drewN nq = w6
          intro HX2
          clear e0 x0 HX d2
          obtain ⟨hown, hx, hb, hbs⟩ := HX2.out
          clear HX2
          have HR := Lib.hid (And.intro hown (And.intro hx (And.intro hb hbs)))
          clear hown hx hb hbs
          go_wp2
          go_roundw
          case rel => exact ⟨k + 1, true, by omega, by go_num, rfl, gs, xs, HR.out, by have := HLN.out; simp; omega, by rw [HE.out, HST.out, if_pos HEQ.out]; simp⟩
          case measure => simp [intOf]; omega
        · obtain ⟨⟨e0, e1, e2⟩, ⟨x0, x1, x2⟩, hvg, hvf⟩ := HC.out _ hb
          have d2 : (T.toList == Tf.toList) = false := by rw [HTL.out, HTF.out]; simpa using he
          have HX := Lib.hid (And.intro hown (And.intro hx (And.intro hb hbs)))
          have HEQ := Lib.hid he
          clear hvg hvf e1 e2 x1 x2 hown hx hb hbs he
          go_wp2_with fail
          go_quiet (fail)
          have HX2 : Hid ((w2.drewN nq).ownsRow W1.heap.size 54 3 u5 (gs).length (xs) ∧ Fx (w2.drewN nq) S (xs) (gs) ∧ Below W1.heap.size W1 (w2.drewN nq) ∧ W1.heap.size ≤ (w2.drewN nq).heap.size) := Lib.hid ⟨HX.out.1, HX.out.2.1.drewN nq, below_drewN HX.out.2.2.1 nq, HX.out.2.2.2⟩
          revert HX2
          generalize w2.drewN nq = w6
          intro HX2
          clear e0 x0 HX d2
          obtain ⟨hown, hx, hb, hbs⟩ := HX2.out
          clear HX2
          obtain ⟨⟨e0, e1, e2⟩, ⟨x0, x1, x2⟩, hvg, hvf⟩ := HC.out _ hb
          have HLL : Hid ((gs).length ≤ 1000000) := Lib.hid (by have := HLN.out; simp; omega)
          go_wp2_with (at_builtin; refine wpList_append_fl 54 rfl _ _ 28 rfl 54 i0 _ Try.underlying28 hi hz0 hz1 hz2 rfl _ (gs) (xs) rfl hown hx hb hbs (fun k hk => HSS.out k (by have := HS.out; omega)) _ _ _ g hvg rfl HLL.out ?_; intro v5 w7 hh)
          obtain ⟨hown', hx', hb', hbs'⟩ := hh
          clear e0 e1 e2 x0 x1 x2 hvg hvf hown hx hb hbs HLL
          have hown := hown'
          have hx := hx'
          have hb := hb'
          have hbs := hbs'
          clear hown' hx' hb' hbs'
          have HR := Lib.hid (And.intro hown (And.intro hx (And.intro hb hbs)))
          clear hown hx hb hbs
          go_wp2
          go_roundw
          case rel => exact ⟨k + 1, true, by omega, by go_num, rfl, (gs) ++ [g], (xs) ++ [.string T, .slice A2 n2 c2, .int .i64 ((g.sure : Nat) : Int)], HR.out, by have := HLN.out; simp; omega, by rw [HE.out, HST.out, if_neg HEQ.out]; simp⟩
          case measure => simp [intOf]; omega
    · obtain ⟨gs, xs, ⟨hown, hx, hb, hbs⟩, hlen, hE⟩ := hI
      have hE2 : withF f false fs = gs ++ if d then [] else [f] := by rw [hE, withF_end _ _ _ _ (by have := HF.out.1; omega)]
      have HE := Lib.hid hE2
      have HLN := Lib.hid hlen
      clear hE hE2 hlen
      cases d
      · obtain ⟨x0, x1, x2⟩ : (wr.cell? ⟨W.heap.size, 0, none⟩ = some (.string Tf) ∧ wr.cell? ⟨W.heap.size, 1, none⟩ = some (.slice A9 n9 c9) ∧ wr.cell? ⟨W.heap.size, 2, none⟩ = some (.int .i64 ((f.sure : Nat) : Int))) := by
          have hlt2 : W.heap.size < W1.heap.size := by rw [HS.out]; omega
          obtain ⟨x0, x1, x2⟩ := HBX.out
          exact ⟨(hb.cell (p := ⟨W.heap.size, 0, none⟩) hlt2).trans x0, (hb.cell (p := ⟨W.heap.size, 1, none⟩) hlt2).trans x1, (hb.cell (p := ⟨W.heap.size, 2, none⟩) hlt2).trans x2⟩
        have hvf := HV.out.turn (Turn.of_below hb)
        have HLL : Hid (gs.length ≤ 1000000) := Lib.hid (by have := HLN.out; omega)
        go_wp2_with (at_builtin; refine wpList_append_fl 54 rfl _ _ 28 rfl 54 i0 _ Try.underlying28 hi hz0 hz1 hz2 rfl _ gs xs rfl hown hx hb hbs (fun k hk => HSS.out k (by have := HS.out; omega)) _ _ _ f hvf rfl HLL.out ?_; intro v4 w4 hh)
        have HR := Lib.hid hh
        clear hown hx hb hbs hvf x0 x1 x2 hh HLL
        go_wp2
        go_ret
        obtain ⟨h1, h2, h3, h4⟩ := HR.out
        exact ⟨_, _, rfl, by rw [HE.out]; exact own_mono h1 (by rw [HS.out]; omega), by rw [HE.out]; exact h2, HB1.out.trans (h3.mono (by rw [HS.out]; omega))⟩
      · have HR := Lib.hid (And.intro hown (And.intro hx (And.intro hb hbs)))
        clear hown hx hb hbs
        go_wp2
        go_ret
        obtain ⟨h1, h2, h3, h4⟩ := HR.out
        have hg : withF f false fs = gs := by rw [HE.out]; simp
        exact ⟨_, _, rfl, by rw [hg]; exact own_mono h1 (by rw [HS.out]; omega), by rw [hg]; exact h2, HB1.out.trans (h3.mono (by rw [HS.out]; omega))⟩

end Go.Proofs.Ytikghnbhbehepaa

/-
  The reference's disk: a crash; whether a call begins.
-/
namespace Go.Proofs.Ytikghnbhbehepaa
open Go.RowKit
set_option linter.unusedVariables false
set_option linter.unusedSimpArgs false

/-- A disk. -/
structure Dk where
  files : List Fl
  cap : Int
  calls : Nat
  armed : Bool
  left : Nat
  keep : Int
  down : Bool
/-- Few files, of few bytes, no more sure than there are. -/
def GoodD (m : Dk) : Prop := m.files.length ≤ 2000 ∧ sizeF m.files ≤ 100000 ∧ ∀ f ∈ m.files, f.sure ≤ f.data.length
def crashD (keep : Int) (m : Dk) : Dk := ⟨m.files.map (cutF keep), m.cap, m.calls, false, m.left, m.keep, true⟩
/-- The cells of the reference's disk. -/
def dkL (m : Dk) (A : Option Addr) (n c : Nat) : List Value := [.slice A n c, .int .i64 m.cap, .int .u64 ((m.calls : Nat) : Int), .bool m.armed, .int .u64 ((m.left : Nat) : Int), .int .i64 m.keep, .bool m.down]
/-- Block p is the reference's disk m, its files off S, which was there. -/
def RD (w : World) (S : Nat → Prop) (p : Nat) (m : Dk) : Prop :=
  ∃ A n c, Blk w p 40 (dkL m A n c) ∧ Fls w S A n m.files ∧ S p ∧ ∀ k, S k → k < w.heap.size
theorem RD.turn {w w' : World} {S S' : Nat → Prop} {p : Nat} {m : Dk} (h : RD w S p m) (ht : Turn S' w w') (hs : ∀ k, S' k → S k) (hp : ¬ S' p) : RD w' S p m := by
  obtain ⟨A, n, c, h1, h2, h3, h4⟩ := h
  exact ⟨A, n, c, ht.blk h1 hp, h2.turn (ht.mono hs), h3, fun k hk => Nat.lt_of_lt_of_le (h4 k hk) ht.size⟩

theorem mem_size (l : List Fl) (f : Fl) (h : f ∈ l) : f.data.length ≤ sizeF l := by
  induction l with
  | nil => cases h
  | cons g r ih =>
    have e : sizeF (g :: r) = g.data.length + sizeF r := by simp [sizeF]
    rcases List.mem_cons.1 h with rfl | h
    · omega
    · have := ih h
      omega

set_option maxRecDepth 100000 in
set_option maxHeartbeats 2000000 in
theorem rcrash_any (S : Nat → Prop) (p : Nat) (m : Dk) (keep : Int) (W : World) (h : RD W S p m) (hG : GoodD m) :
    Calls Try.prog 29 #[.pointer (some ⟨p, 0, none⟩), .int .i64 keep] W fun e W' => e = .returned (.tuple #[]) ∧ RD W' S p (crashD keep m) ∧ Turn (fun k => k = p) W W' := by
  obtain ⟨A, n, c, hB, hF, hSp, hSo⟩ := h
  have hnl := hF.1
  have hn : n ≤ 2000 := by have := hG.1; omega
  have hC := cut_any A n c m.files keep (fun k => S k ∨ W.heap.size ≤ k) W (hF.more fun k hk hl => by
    rcases hk with h | h
    · exact h
    · omega) (fun k hk => .inr hk) (by omega) (fun f hf => ⟨hG.2.2 f hf, by have h1 := mem_size m.files f hf; have h2 := hG.2.1; omega⟩)
  have hc0 : W.cell? ⟨p, 0, none⟩ = some (.slice A n c) := hB.cell 0
  have hlt := hB.lt
  have HBL := Lib.hid hB
  have HSO := Lib.hid (And.intro hSp hSo)
  clear hF hnl hSp hSo hB
  go_enter Try.func29, Try.ntmps29
  go_wp2_with fail
  refine hC.mono ?_
  rintro e W1 ⟨v, xs, rfl, hown, hx, hb⟩
  obtain ⟨A1, c1, rfl, hn1, hl1, hm1⟩ := own_formk hown
  have hB1 := HBL.out.below hb hlt
  have hF1 : Fls W1 S A1 (m.files.map (cutF keep)).length (m.files.map (cutF keep)) := Fls.of_own hown (hx.less fun k hk => .inl hk) HSO.out.2
  have e0 : W1.cell? ⟨p, 0, none⟩ = some (.slice A n c) := hB1.cell 0
  have e3 : W1.cell? ⟨p, 3, none⟩ = some (.bool m.armed) := hB1.cell 3
  have e6 : W1.cell? ⟨p, 6, none⟩ = some (.bool m.down) := hB1.cell 6
  have hfz := hB1.frozen
  have HH := Lib.hid (And.intro hB1 (And.intro hF1 hb))
  clear hC hown hx hn1 hl1 hm1 hB1 hF1 hb hc0
  go_wp2_with fail
  go_end0
  obtain ⟨hB1, hF1, hb⟩ := HH.out
  obtain ⟨hSp, hSo⟩ := HSO.out
  have ht : Turn (fun k => k = p) W1 (((W1.setCell ⟨p, 0, none⟩ (.slice A1 m.files.length c1)).setCell ⟨p, 3, none⟩ (.bool false)).setCell ⟨p, 6, none⟩ (.bool true)) :=
    (((Turn.refl (fun k => k = p) W1).setCell (p := ⟨p, 0, none⟩) rfl _).setCell (p := ⟨p, 3, none⟩) rfl _).setCell (p := ⟨p, 6, none⟩) rfl _
  have hBf := ((hB1.set 0 (.slice A1 m.files.length c1)).set 3 (.bool false)).set 6 (.bool true)
  rw [List.length_map] at hF1
  refine ⟨rfl, ⟨A1, m.files.length, c1, hBf, hF1.turn (ht.mono fun k hk => by rw [hk]; exact hSp), hSp, fun k hk => ?_⟩, (Turn.of_below hb).trans ht⟩
  exact Nat.lt_of_lt_of_le (Nat.lt_of_lt_of_le (hSo k hk) hb.size) ht.size

theorem crash_good (keep : Int) (m : Dk) (h : GoodD m) : GoodD (crashD keep m) := by
  refine ⟨by show (m.files.map _).length ≤ _; rw [List.length_map]; exact h.1, ?_, ?_⟩
  · refine Nat.le_trans ?_ h.2.1
    show sizeF (m.files.map (cutF keep)) ≤ sizeF m.files
    generalize m.files = l
    induction l with
    | nil => exact Nat.le_refl _
    | cons f r ih =>
      have e1 : sizeF (f :: r) = f.data.length + sizeF r := by simp [sizeF]
      have e2 : sizeF ((f :: r).map (cutF keep)) = (cutF keep f).data.length + sizeF (r.map (cutF keep)) := by simp [sizeF]
      have e3 : (cutF keep f).data.length ≤ f.data.length := by
        show (f.data.take _).length ≤ _
        rw [List.length_take]
        omega
      omega
  · intro g hg
    obtain ⟨f, hf, rfl⟩ := List.mem_map.1 hg
    show leftF keep f ≤ (f.data.take (leftF keep f)).length
    rw [List.length_take]
    unfold leftF
    omega

/-- Whether a call begins, and how the disk stands then. -/
def beginD (m : Dk) : Bool × Dk :=
  if m.down then (false, m) else if m.armed && decide (m.left = 0) then (false, crashD m.keep m) else (true, ⟨m.files, m.cap, m.calls + 1, m.armed, if m.armed then m.left - 1 else m.left, m.keep, m.down⟩)

end Go.Proofs.Ytikghnbhbehepaa

/-
  The reference's disk: whether a call begins.
-/
namespace Go.Proofs.Ytikghnbhbehepaa
open Go.RowKit
set_option linter.unusedVariables false
set_option linter.unusedSimpArgs false

/-- What stands behind the asking. -/
def BeginPost (S : Nat → Prop) (p : Nat) (b : Bool × Dk) (W : World) (e : Ending) (W' : World) : Prop := e = .returned (.bool b.1) ∧ RD W' S p b.2 ∧ Turn (fun k => k = p) W W'
theorem begin_down (m : Dk) (h : m.down = true) : beginD m = (false, m) := by unfold beginD; rw [h]; rfl
theorem begin_crash (m : Dk) (h : m.down = false) (ha : m.armed = true) (hl : m.left = 0) : beginD m = (false, crashD m.keep m) := by unfold beginD; rw [h, ha, hl]; rfl
theorem begin_armed (m : Dk) (h : m.down = false) (ha : m.armed = true) (hl : m.left ≠ 0) : beginD m = (true, ⟨m.files, m.cap, m.calls + 1, true, m.left - 1, m.keep, false⟩) := by
  unfold beginD
  rw [h, ha, decide_eq_false hl]
  rfl
theorem begin_free (m : Dk) (h : m.down = false) (ha : m.armed = false) : beginD m = (true, ⟨m.files, m.cap, m.calls + 1, false, m.left, m.keep, false⟩) := by
  unfold beginD
  rw [h, ha]
  rfl

theorem dkL_calls (m : Dk) (A : Option Addr) (n c : Nat) : (dkL m A n c).set 2 (.int .u64 (((m.calls : Nat) : Int) + 1)) = dkL ⟨m.files, m.cap, m.calls + 1, m.armed, m.left, m.keep, m.down⟩ A n c := by simp [dkL]
theorem dkL_left (m : Dk) (A : Option Addr) (n c : Nat) (h : m.left ≠ 0) : (dkL m A n c).set 4 (.int .u64 (((m.left : Nat) : Int) - 1)) = dkL ⟨m.files, m.cap, m.calls, m.armed, m.left - 1, m.keep, m.down⟩ A n c := by
  have : ((m.left : Nat) : Int) - 1 = ((m.left - 1 : Nat) : Int) := by omega
  rw [this]
  simp [dkL]

set_option maxRecDepth 100000 in
set_option maxHeartbeats 2000000 in
theorem rbegin_any (S : Nat → Prop) (p : Nat) (m : Dk) (W : World) (h : RD W S p m) (hG : GoodD m) (hcl : m.calls ≤ 1000000) (hlf : m.left < 18446744073709551616) :
    Calls Try.prog 30 #[.pointer (some ⟨p, 0, none⟩)] W (BeginPost S p (beginD m) W) := by
  have HR := Lib.hid h
  obtain ⟨A, n, c, hB, hF, hSp, hSo⟩ := h
  have HF := Lib.hid hF
  have HSO := Lib.hid (And.intro hSp hSo)
  have e6 : W.cell? ⟨p, 6, none⟩ = some (.bool m.down) := hB.cell 6
  have e3 : W.cell? ⟨p, 3, none⟩ = some (.bool m.armed) := hB.cell 3
  have e4 : W.cell? ⟨p, 4, none⟩ = some (.int .u64 ((m.left : Nat) : Int)) := hB.cell 4
  have e5 : W.cell? ⟨p, 5, none⟩ = some (.int .i64 m.keep) := hB.cell 5
  have e2 : W.cell? ⟨p, 2, none⟩ = some (.int .u64 ((m.calls : Nat) : Int)) := hB.cell 2
  have hfz := hB.frozen
  have HB := Lib.hid hB
  clear hB hF hSp hSo
  cases hd : m.down
  · rw [hd] at e6
    cases ha : m.armed
    · rw [ha] at e3
      have HE := Lib.hid (begin_free m hd ha)
      have HD := Lib.hid (And.intro hd ha)
      obtain ⟨C, hC⟩ : ∃ C : Nat, m.calls = C := ⟨_, rfl⟩
      rw [hC] at e2 hcl
      have HC := Lib.hid hC
      clear hd ha hC e4 e5
      go_enter Try.func30, Try.ntmps30
      go_wp2_with fail
      go_ret
      obtain ⟨hSp, hSo⟩ := HSO.out
      have ht : Turn (fun k => k = p) W (W.setCell ⟨p, 2, none⟩ (.int .u64 ((C : Int) + 1))) := (Turn.refl (fun k => k = p) W).setCell (p := ⟨p, 2, none⟩) rfl _
      have hBf := HB.out.set 2 (.int .u64 ((C : Int) + 1))
      rw [← HC.out, dkL_calls, HD.out.1, HD.out.2, HC.out] at hBf
      rw [HE.out, HC.out]
      exact ⟨rfl, ⟨A, n, c, hBf, HF.out.turn (ht.mono fun k hk => by rw [hk]; exact hSp), hSp, fun k hk => Nat.lt_of_lt_of_le (hSo k hk) ht.size⟩, ht⟩
    · rw [ha] at e3
      by_cases hl : m.left = 0
      · rw [hl] at e4
        have HE := Lib.hid (begin_crash m hd ha hl)
        have hCr := rcrash_any S p m m.keep W HR.out hG
        clear hd ha hl e2 hcl hlf
        go_enter Try.func30, Try.ntmps30
        go_wp2_with fail
        refine hCr.mono ?_
        rintro e W1 ⟨rfl, hr1, ht1⟩
        have HX := Lib.hid (And.intro hr1 ht1)
        clear hCr hr1 ht1 e3 e4 e5 e6 hfz
        go_wp2_with fail
        go_ret
        rw [HE.out]
        exact ⟨rfl, HX.out.1, HX.out.2⟩
      · have HE := Lib.hid (begin_armed m hd ha hl)
        have HD := Lib.hid (And.intro hd (And.intro ha hl))
        obtain ⟨C, hC⟩ : ∃ C : Nat, m.calls = C := ⟨_, rfl⟩
        obtain ⟨L, hL⟩ : ∃ L : Nat, m.left = L := ⟨_, rfl⟩
        rw [hC] at e2 hcl
        rw [hL] at e4 hlf hl
        have HC := Lib.hid hC
        have HL := Lib.hid hL
        have hw : IntKind.u64.wrap ((L : Int) - 1) = (L : Int) - 1 := IntWalk.u64_in _ ⟨by omega, by omega⟩
        have d4 : (((L : Nat) : Int) == 0) = false := by simp; omega
        clear hd ha hC hL e5 hl hlf
        go_enter Try.func30, Try.ntmps30
        go_wp2_with fail
        go_ret
        obtain ⟨hSp, hSo⟩ := HSO.out
        have ht : Turn (fun k => k = p) W ((W.setCell ⟨p, 4, none⟩ (.int .u64 ((L : Int) - 1))).setCell ⟨p, 2, none⟩ (.int .u64 ((C : Int) + 1))) := ((Turn.refl (fun k => k = p) W).setCell (p := ⟨p, 4, none⟩) rfl _).setCell (p := ⟨p, 2, none⟩) rfl _
        have hB1 := HB.out.set 4 (.int .u64 ((L : Int) - 1))
        rw [← HL.out, dkL_left _ _ _ _ HD.out.2.2, HL.out] at hB1
        have hBf := hB1.set 2 (.int .u64 ((C : Int) + 1))
        have e9 : (dkL ⟨m.files, m.cap, m.calls, m.armed, L - 1, m.keep, m.down⟩ A n c).set 2 (.int .u64 ((C : Int) + 1)) = dkL ⟨m.files, m.cap, C + 1, true, L - 1, m.keep, false⟩ A n c := by
          have := dkL_calls ⟨m.files, m.cap, m.calls, m.armed, L - 1, m.keep, m.down⟩ A n c
          rw [HC.out, HD.out.1, HD.out.2.1] at this
          rw [HC.out, HD.out.1, HD.out.2.1]
          exact this
        rw [e9] at hBf
        rw [HE.out, HC.out, HL.out]
        exact ⟨rfl, ⟨A, n, c, hBf, HF.out.turn (ht.mono fun k hk => by rw [hk]; exact hSp), hSp, fun k hk => Nat.lt_of_lt_of_le (hSo k hk) ht.size⟩, ht⟩
  · rw [hd] at e6
    have HE := Lib.hid (begin_down m hd)
    clear hd
    go_enter Try.func30, Try.ntmps30
    go_wp2_with fail
    go_ret
    rw [HE.out]
    exact ⟨rfl, HR.out, Turn.refl _ _⟩

end Go.Proofs.Ytikghnbhbehepaa

/-
  The reference's answers: is a text a tenant's, a target's name?
-/
namespace Go.Proofs.Ytikghnbhbehepaa
open Go.RowKit
set_option linter.unusedVariables false
set_option linter.unusedSimpArgs false

theorem ten_of_tar (z : Int) (h : tarR z = true) : tenR z = (decide (z ≠ 46) && decide (z ≠ 58)) := by
  unfold tarR at h
  cases ht : tenR z
  · rw [ht, Bool.false_or, Bool.or_eq_true, decide_eq_true_eq, decide_eq_true_eq] at h
    rcases h with h | h <;> simp [h]
  · have h1 : z ≠ 46 := by rintro rfl; revert ht; decide
    have h2 : z ≠ 58 := by rintro rfl; revert ht; decide
    simp [h1, h2]

set_option maxRecDepth 100000 in
set_option maxHeartbeats 2000000 in
theorem refTarget_any (s : ByteArray) (hs : s.size ≤ 10000) (W : World) :
    Calls Try.prog 31 #[.string s] W fun e W' => e = .returned (.bool (targetB s.data.toList)) ∧ W' = W := by
  have hlen : s.data.toList.length = s.size := by simp
  have HT : Hid (targetB s.data.toList = (decide (1 ≤ s.size) && decide (s.size ≤ 24) && (allR tenR (s.data.toList.take 1) && allR tarR s.data.toList))) := Lib.hid (by unfold targetB; rw [hlen])
  have hon := fun w => refOnly_any s tarT hs (by decide) w
  rw [allIn_tar] at hon
  clear hlen
  go_enter Try.func31, Try.ntmps31
  by_cases h1 : 1 ≤ s.size
  · have d1 : decide ((1 : Int) ≤ (s.size : Int)) = true := decide_eq_true (by omega)
    by_cases h16 : s.size ≤ 24
    · have d2 : decide ((s.size : Int) ≤ 24) = true := decide_eq_true (by omega)
      have H2 : Hid (targetB s.data.toList = (allR tenR (s.data.toList.take 1) && allR tarR s.data.toList)) := Lib.hid (by rw [HT.out, decide_eq_true h1, decide_eq_true h16]; rfl)
      have hby := byte_at s 0 h1
      obtain ⟨x, hx⟩ : ∃ x, s[0]'h1 = x := ⟨_, rfl⟩
      rw [hx] at hby
      have hl1 : allR tenR (s.data.toList.take 1) = tenR ((x.toNat : Nat) : Int) := by
        rw [allR_take tenR _ 0 x hby]
        simp [allR]
      rw [hl1] at H2
      clear HT hl1
      go_wp2_with fail
      refine (hon _).mono ?_
      rintro e W1 ⟨rfl, rfl⟩
      cases hq : allR tarR s.data.toList
      · rw [hq, Bool.and_false] at H2
        clear hq hon hby
        go_wp2_with fail
        go_ret
        exact ⟨by rw [H2.out]; rfl, rfl⟩
      · rw [ten_of_tar _ (allR_at tarR _ hq 0 x hby), hq, Bool.and_true] at H2
        clear hq hon hby
        by_cases h46 : ((x.toNat : Nat) : Int) = 46
        · have d3 : (((x.toNat : Nat) : Int) != 46) = false := by simp [h46]
          have H3 : Hid (targetB s.data.toList = false) := Lib.hid (by rw [H2.out, decide_eq_false (by simp [h46])]; rfl)
          clear h46
          go_wp2_with fail
          go_ret
          exact ⟨by rw [H3.out]; rfl, rfl⟩
        · have d3 : (((x.toNat : Nat) : Int) != 46) = true := by simpa using h46
          have H3 : Hid (targetB s.data.toList = (((x.toNat : Nat) : Int) != 58)) := Lib.hid (by
            rw [H2.out, decide_eq_true h46, Bool.true_and]
            by_cases h58 : ((x.toNat : Nat) : Int) = 58 <;> simp [h58])
          go_wp2_with fail
          go_ret
          exact ⟨by rw [H3.out]; rfl, rfl⟩
    · have d2 : decide ((s.size : Int) ≤ 24) = false := decide_eq_false (by omega)
      have H2 : Hid (targetB s.data.toList = false) := Lib.hid (by rw [HT.out, decide_eq_false h16, Bool.and_false, Bool.false_and])
      clear HT hon
      go_wp2_with fail
      go_ret
      exact ⟨by rw [H2.out]; rfl, rfl⟩
  · have d1 : decide ((1 : Int) ≤ (s.size : Int)) = false := decide_eq_false (by omega)
    have H2 : Hid (targetB s.data.toList = false) := Lib.hid (by rw [HT.out, decide_eq_false h1]; rfl)
    clear HT hon
    go_wp2_with fail
    go_ret
    exact ⟨by rw [H2.out]; rfl, rfl⟩

end Go.Proofs.Ytikghnbhbehepaa
