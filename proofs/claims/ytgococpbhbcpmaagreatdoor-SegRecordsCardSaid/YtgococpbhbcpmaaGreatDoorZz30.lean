/-
  The program's records of segments.
-/
import Derived.Test.YtgococpbhbcpmaaGreatDoorZz29
import Derived.Test.YtgococpbhbcpmaaGreatDoorZz1
import Derived.BigQuiet
namespace Go.Proofs.YtgococpbhbcpmaaGreatDoor
open Go.RowKit
set_option linter.unusedVariables false
set_option linter.unusedSimpArgs false

theorem own_turn {S : Nat → Prop} {w w' : World} {base size n : Nat} {e : TypeId} {v : Value} {xs : List Value} (h : w.ownsRow base e size v n xs) (ht : Turn S w w') (hs : ∀ k, S k → k < base) : w'.ownsRow base e size v n xs := by
  rcases h with ⟨h1, h2 | ⟨g, cap, cur, hv, hg, hh, r⟩⟩
  · exact ⟨h1, .inl h2⟩
  · exact ⟨h1, .inr ⟨g, cap, cur, hv, hg, (ht.block g (Array.getElem?_eq_some_iff.1 hh).1 (fun e => by have := hs g e; omega)).trans hh, r⟩⟩
theorem own_at1 {w : World} {base n c : Nat} {e : TypeId} {A : Option Addr} {xs : List Value} (h : w.ownsRow base e 1 (.slice A n c) n xs) (j : Nat) (x : Value) (hx : xs[j]? = some x) : ∃ g, A = some ⟨g, 0, none⟩ ∧ w.cell? ⟨g, j, none⟩ = some x := by
  have hl := (List.getElem?_eq_some_iff.1 hx).1
  have h1 := h.1
  rcases h.2 with ⟨e1, e2⟩ | ⟨g, cap, cur, hv, _⟩
  · omega
  · cases hv
    exact ⟨g, rfl, by rw [h.cellAt j (by omega), hx]⟩
theorem keepU_turn {w w' : World} {gF gA : Nat} {out : List Rc} (hT : TkS w gF gA out) (ht : Turn (fun k => k = gF ∨ k = gA) w w') : KeepU w w' := by
  refine ⟨ht.size, fun k cs fr hk => (ht.block k (Array.getElem?_eq_some_iff.1 hk).1 ?_).trans hk⟩
  rintro (rfl | rfl)
  · rw [show w.heap[k]? = _ from hT.1] at hk
    cases hk
  · rw [show w.heap[k]? = _ from hT.2] at hk
    cases hk
theorem tybs_at {w : World} : ∀ {vs : List Value} {bs : List (List UInt8)}, Tybs w vs bs → ∀ (j : Nat) (b : List UInt8), bs[j]? = some b → ∃ x, vs[j]? = some x ∧ Tyb w x b
  | [], [], _, j, b, h => by cases h
  | x :: vs, b' :: bs, h, 0, b, e => by
    cases e
    exact ⟨x, rfl, h.1⟩
  | x :: vs, b' :: bs, h, j + 1, b, e => tybs_at h.2 j b e

/-- What stands between two records. -/
def RecI (W : World) (v : Value) (out : List Rc) (w : World) : Prop := w.ownsRow (W.heap.size + 2) 25 6 v out.length (rcCells out) ∧ Below W.heap.size W w ∧ TkS w (W.heap.size + 1) W.heap.size out ∧ W.heap.size + 2 ≤ w.heap.size
theorem RecI.below {W w w' : World} {v : Value} {out : List Rc} (h : RecI W v out w) (hb : Below w.heap.size w w') : RecI W v out w' :=
  ⟨own_below h.1 hb, h.2.1.trans (hb.mono (by have := h.2.2.2; omega)), ⟨h.2.2.1.1.below hb h.2.2.1.1.lt, h.2.2.1.2.below hb h.2.2.1.2.lt⟩, Nat.le_trans h.2.2.2 hb.size⟩
theorem RecI.took {W w w' : World} {v : Value} {out o2 : List Rc} (h : RecI W v out w) (hT : TkS w' (W.heap.size + 1) W.heap.size o2) (ht : Turn (fun k => k = W.heap.size + 1 ∨ k = W.heap.size) w w') :
    w'.ownsRow (W.heap.size + 2) 25 6 v out.length (rcCells out) ∧ Below W.heap.size W w' ∧ TkS w' (W.heap.size + 1) W.heap.size o2 ∧ W.heap.size + 2 ≤ w'.heap.size :=
  ⟨own_turn h.1 ht (fun k hk => by omega), h.2.1.trans (ht.below (by have := h.2.2.2; omega) (fun k hk => by omega)), hT, Nat.le_trans h.2.2.2 ht.size⟩
/-- The bodies of a segment's boxes, in memory. -/
def BodI (W : World) (v : Value) (vs : List Value) (bs : List (List UInt8)) (w : World) : Prop := w.ownsRow (W.heap.size + 2) 26 1 v vs.length vs ∧ Tybs w vs bs
theorem BodI.below {W w w' : World} {v : Value} {vs : List Value} {bs : List (List UInt8)} (h : BodI W v vs bs w) (hb : Below w.heap.size w w') : BodI W v vs bs w' :=
  ⟨own_below h.1 hb, h.2.keep (KeepU.below hb)⟩

set_option maxRecDepth 100000 in
set_option maxHeartbeats 4000000 in
theorem srecords_any (A : Option Addr) (n c : Nat) (L : List (List UInt8)) (W : World) (hS : SV W) (hL : Lst W (fun k => W.heap.size ≤ k) A n L) (hs : sumL L ≤ 100000) (hn : n ≤ 100000) :
    Calls Tryz.prog 11 #[.slice A n c] W fun e W' => ∃ A' k c', e = .returned (.slice A' k c') ∧ Rcs W' (fun _ => False) A' k (segsR [] L) ∧ Below W.heap.size W W' := by
  obtain ⟨i0, hi, hz0, hz1, hz2⟩ := info_parts Tryz.infoRc
  have hLn : L.length = n := by have := hL.1; rwa [bts_len] at this
  have HN := Lib.hid (And.intro hLn (And.intro hs hn))
  have HL := Lib.hid hL
  have HS := Lib.hid hS
  have hTk := taking_any W
  clear hLn hs hS hL
  go_enter Tryz.func11, Tryz.ntmps11
  go_wp2_with fail
  refine hTk.mono ?_
  rintro e w1 ⟨rfl, hT1, hb1, hsz1⟩
  have HI1 := Lib.hid (show RecI W (.slice none 0 0) [] w1 from ⟨World.ownsRow_nil _ _ _ _, hb1, hT1, hsz1⟩)
  clear hT1 hb1 hsz1
  obtain ⟨gA, hgA⟩ : ∃ x, W.heap.size = x := ⟨_, rfl⟩
  obtain ⟨gF, hgF⟩ : ∃ x, W.heap.size + 1 = x := ⟨_, rfl⟩
  have HG := Lib.hid (And.intro hgA hgF)
  rw [hgF, hgA]
  clear hgA hgF
  go_wp2_with fail
  go_loopw [3, 16] (fun v i wr => ∃ k out, k ≤ n ∧ i = .int .i64 (k : Nat) ∧ out = segsR [] (L.take k) ∧ RecI W v out wr) (fun _ i _ => n - (intOf i).toNat)
  case atStart => exact ⟨0, [], Nat.zero_le _, rfl, rfl, HI1.out⟩
  case round =>
    obtain ⟨k, out, hk, rfl, hout, hI⟩ := hrel
    by_cases hlt : k < n
    · obtain ⟨s, hks⟩ : ∃ s, L[k]? = some s := ⟨_, List.getElem?_eq_getElem (by have := HN.out; omega)⟩
      have hLr := Sls.turn HL.out (show Turn (fun k => W.heap.size ≤ k) W wr from ⟨hI.2.1.os, hI.2.1.tape, hI.2.1.output, hI.2.1.size, fun k hk hn => hI.2.1.block k hk⟩)
      obtain ⟨g, o, A2, n2, c2, hAe, _, hgl, hcell, hbs, hnl2, hnc2, hcm2⟩ := Lst.at_ hLr hks
      subst hAe
      have hsl := sumL_at L k s hks
      have hn2 : n2 ≤ 100000 := by have := hbs.1; have := HN.out; omega
      have hV := valid_own A2 n2 c2 s wr hbs.byt (fun h => (hnl2 h).2) hnc2 hcm2 (by omega)
      have hkn : (k : Int) < (n : Int) := by omega
      have HS2 := Lib.hid (show segsR [] (L.take (k + 1)) = takeR out (validC s).1 by rw [take_snoc13 L k s hks, segsR_snoc, hout])
      have hol : out.length ≤ 100000 := by
        have h1 := segsR_len (L.take k) []
        have h2 := sumL_take L k
        have := HN.out
        rw [hout]
        simp only [List.length_nil] at h1
        omega
      have hvl := (valid_end s).2
      have hvs := valid_sizes s
      have hsl2 : s.length ≤ 100000 := by have := HN.out; omega
      obtain ⟨bs, hbs2⟩ : ∃ x, (validC s).1 = x := ⟨_, rfl⟩
      rw [hbs2] at hV HS2 hvl hvs
      obtain ⟨e2, he2⟩ : ∃ x, (validC s).2 = x := ⟨_, rfl⟩
      rw [he2] at hV
      have HK := Lib.hid (And.intro hlt (And.intro hol (And.intro hvl (And.intro hsl2 hvs))))
      have HI := Lib.hid hI
      clear hbs2 he2 hlt hk hks hout hsl hbs hol hvl hvs hsl2 hI hLr
      go_wp2_with fail
      refine hV.mono ?_
      rintro e w5 ⟨v5, vs, rfl, hr5, hT5, hb5⟩
      have hI5 : RecI W u3 out w5 := HI.out.below hb5
      have hB5 : BodI W v5 vs bs w5 := ⟨own_mono hr5 HI.out.2.2.2, hT5⟩
      have hk5 : vs.length = bs.length := hT5.len
      obtain ⟨A5, c5, rfl, _, _, _⟩ := own_form hr5
      obtain ⟨k5, hk5e⟩ : ∃ x, vs.length = x := ⟨_, rfl⟩
      rw [hk5e] at hk5 ⊢
      have HI5 := Lib.hid (And.intro hI5 (And.intro hB5 (And.intro hk5 hk5e)))
      clear hr5 hT5 hb5 hI5 hB5 HI hk5 hcell hk5e
      obtain ⟨v3, hv3⟩ : ∃ x, u3 = x := ⟨_, rfl⟩
      rw [hv3] at HI5 ⊢
      clear hv3
      go_wp2_with fail
      obtain ⟨w4, rfl⟩ : ∃ w4, w4 = wr := ⟨_, rfl⟩
      go_loopw [3, 27] (fun v i w6 => ∃ (j : Nat) (o2 : List Rc), j ≤ k5 ∧ i = .int .i64 (j : Nat) ∧ takeR out bs = takeR o2 (bs.drop j) ∧ o2.length ≤ out.length + j ∧ RecI W v o2 w6 ∧ BodI W (.slice A5 vs.length c5) vs bs w6) (fun _ i _ => k5 - (intOf i).toNat)
      case atStart => exact ⟨0, out, Nat.zero_le _, rfl, rfl, Nat.le_refl _, HI5.out.1, HI5.out.2.1⟩
      case round =>
        obtain ⟨j, o2, hj, rfl, htk, ho2, hI6, hB6⟩ := hrel
        by_cases hjl : j < k5
        · obtain ⟨b, hjb⟩ : ∃ b, bs[j]? = some b := ⟨_, List.getElem?_eq_getElem (by have := HI5.out.2.2.1; omega)⟩
          obtain ⟨x, hx, hTy⟩ := tybs_at hB6.2 j b hjb
          obtain ⟨g5, hAe, hcell5⟩ := own_at1 hB6.1 j x hx
          subst hAe
          obtain ⟨A6, n6, c6, rfl, hby6, hnl6, hnc6, hcm6, _⟩ := hTy
          have hb4 := HK.out.2.2.2.2 b (List.mem_of_getElem? hjb)
          have hn6 : n6 ≤ 5000 := by have := hby6.1; omega
          have hTr := stake_any A6 n6 c6 b wr (W.heap.size + 1) W.heap.size o2 hby6 hnl6 (by omega) (dk_below HS.out.1 hI6.2.1 (Nat.le_refl _)) hI6.2.2.1 (by omega) _ rfl
          rw [HG.out.2, HG.out.1] at hTr
          have hjk : (j : Int) < (k5 : Int) := by omega
          have HJ := Lib.hid (show j < k5 ∧ bs.length = k5 from ⟨hjl, HI5.out.2.2.1.symm⟩)
          have hdr : bs.drop j = b :: bs.drop (j + 1) := by
            obtain ⟨h1, h2⟩ := List.getElem?_eq_some_iff.1 hjb
            rw [List.drop_eq_getElem_cons h1, h2]
          rw [hdr] at htk
          have h60 : j ≤ 100000 := by have := HK.out.2.2; have := HI5.out.2.2.1; omega
          have HO := Lib.hid (show o2.length ≤ 200000 by have := HK.out.2.1; omega)
          have HO2 := Lib.hid ho2
          have H6 := Lib.hid (And.intro hI6 hB6)
          clear hI6 hB6 hby6 hnl6 hnc6 hcm6 hb4 hn6 hjl hj ho2 hdr hjb hx
          obtain ⟨r, hr⟩ : ∃ r, recP b = r := ⟨_, rfl⟩
          cases hv : (recOk b && awaits o2 (recP b)) with
          | true =>
            rw [Bool.and_eq_true] at hv
            rw [show (recOk b && awaits o2 (recP b)) = true by rw [hv.1, hv.2]; rfl, if_pos rfl, if_pos rfl, hr] at hTr
            have HT := Lib.hid (show takeR out bs = takeR (o2 ++ [r]) (bs.drop (j + 1)) by rw [htk, takeR_yes _ _ _ hv.1 hv.2, hr])
            clear htk hv hr
            have hTr : Calls Tryz.prog 44 #[.slice A6 n6 c6, .pointer (some ⟨gF, 0, none⟩), .pointer (some ⟨gA, 0, none⟩)] wr fun e W' => e = .returned (.tuple #[.agg #[.int .u64 (r.seq : Nat), .int .i64 r.kind, .string ⟨r.ten.toArray⟩, .int .u64 (r.lease : Nat), .int .u64 (r.n : Nat), .int .u64 (r.bits : Nat)], .bool true]) ∧ TkS W' gF gA (o2 ++ [r]) ∧ Turn (fun k => k = gF ∨ k = gA) wr W' := hTr
            go_wp2_with fail
            refine hTr.mono ?_
            rintro e w7 ⟨rfl, hT7, hU7⟩
            rw [← HG.out.1, ← HG.out.2] at hT7 hU7
            have H7 := Lib.hid (And.intro (H6.out.1.took hT7 hU7) (And.intro (own_turn H6.out.2.1 hU7 (fun k hk => by omega)) (H6.out.2.2.keep (keepU_turn H6.out.1.2.2.1 hU7))))
            clear hT7 hU7 H6
            have hbl : Below w7.heap.size w7 (w7.alloc (.cells #[.int .u64 (r.seq : Nat), .int .i64 r.kind, .string ⟨r.ten.toArray⟩, .int .u64 (r.lease : Nat), .int .u64 (r.n : Nat), .int .u64 (r.bits : Nat)] 25)) := (Below.refl _ _).alloc (Nat.le_refl _) _
            have hR7 := Blk.new (cs := r.cells) w7 25 _ rfl
            have H8 := Lib.hid (show ((w7.alloc (.cells #[.int .u64 (r.seq : Nat), .int .i64 r.kind, .string ⟨r.ten.toArray⟩, .int .u64 (r.lease : Nat), .int .u64 (r.n : Nat), .int .u64 (r.bits : Nat)] 25)).ownsRow (W.heap.size + 2) 25 6 u3 o2.length (rcCells o2) ∧ Below W.heap.size W (w7.alloc (.cells #[.int .u64 (r.seq : Nat), .int .i64 r.kind, .string ⟨r.ten.toArray⟩, .int .u64 (r.lease : Nat), .int .u64 (r.n : Nat), .int .u64 (r.bits : Nat)] 25)) ∧ TkS (w7.alloc (.cells #[.int .u64 (r.seq : Nat), .int .i64 r.kind, .string ⟨r.ten.toArray⟩, .int .u64 (r.lease : Nat), .int .u64 (r.n : Nat), .int .u64 (r.bits : Nat)] 25)) (W.heap.size + 1) W.heap.size (o2 ++ [r]) ∧ W.heap.size + 2 ≤ (w7.alloc (.cells #[.int .u64 (r.seq : Nat), .int .i64 r.kind, .string ⟨r.ten.toArray⟩, .int .u64 (r.lease : Nat), .int .u64 (r.n : Nat), .int .u64 (r.bits : Nat)] 25)).heap.size) ∧ BodI W (.slice (some ⟨g5, 0, none⟩) vs.length c5) vs bs (w7.alloc (.cells #[.int .u64 (r.seq : Nat), .int .i64 r.kind, .string ⟨r.ten.toArray⟩, .int .u64 (r.lease : Nat), .int .u64 (r.n : Nat), .int .u64 (r.bits : Nat)] 25)) from
              ⟨⟨own_below H7.out.1.1 hbl, H7.out.1.2.1.trans (hbl.mono (by have := H7.out.1.2.2.2; omega)), ⟨H7.out.1.2.2.1.1.below hbl H7.out.1.2.2.1.1.lt, H7.out.1.2.2.1.2.below hbl H7.out.1.2.2.1.2.lt⟩, Nat.le_trans H7.out.1.2.2.2 hbl.size⟩, BodI.below ⟨H7.out.2.1, H7.out.2.2⟩ hbl⟩)
            obtain ⟨p7, hp7⟩ : ∃ x, w7.heap.size = x := ⟨_, rfl⟩
            obtain ⟨w8, hw8⟩ : ∃ x, w7.alloc (.cells #[.int .u64 (r.seq : Nat), .int .i64 r.kind, .string ⟨r.ten.toArray⟩, .int .u64 (r.lease : Nat), .int .u64 (r.n : Nat), .int .u64 (r.bits : Nat)] 25) = x := ⟨_, rfl⟩
            rw [show w7.alloc (.cells r.cells.toArray 25) = w8 from hw8, hp7] at hR7
            rw [hw8] at H8
            have d0 : w8.cell? ⟨p7, 0, none⟩ = some (.int .u64 (r.seq : Nat)) := hR7.cell 0
            have d1 : w8.cell? ⟨p7, 1, none⟩ = some (.int .i64 r.kind) := hR7.cell 1
            have d2 : w8.cell? ⟨p7, 2, none⟩ = some (.string ⟨r.ten.toArray⟩) := hR7.cell 2
            have d3 : w8.cell? ⟨p7, 3, none⟩ = some (.int .u64 (r.lease : Nat)) := hR7.cell 3
            have d4 : w8.cell? ⟨p7, 4, none⟩ = some (.int .u64 (r.n : Nat)) := hR7.cell 4
            have d5 : w8.cell? ⟨p7, 5, none⟩ = some (.int .u64 (r.bits : Nat)) := hR7.cell 5
            have hown8 := H8.out.1.1
            have hsz8 := H8.out.1.2.2.2
            have hO := HO.out
            clear H7 hbl hR7 hcell5 hTr
            obtain ⟨v9, hv9⟩ : ∃ x, u3 = x := ⟨_, rfl⟩
            rw [hv9] at H8 hown8 ⊢
            clear hv9
            go_upto_region 12 with fail
            go_wp2_with (at_builtin; refine wpList_append_own_at _ rfl _ _ 35 rfl (W.heap.size + 2) 25 i0 _ 6 56 Tryz.underlying35 hi hz0 hz1 hz2 rfl (by decide) v9 o2.length (rcCells o2) rfl (hown8.alloc _) ⟨w8.heap.size, 0, none⟩ 1 1 r.cells rfl rfl (fun q u hu => by rw [Addr.add_lit, Nat.zero_add, World.cell?_alloc_new]; simpa [Rc.cells] using hu) (PrtsV.one (w := w8) (S := fun _ => False) (rcP r) r.cells (rcP_cells _ _ r)) (by unfold maxLen; omega) (by omega) (by simp; omega) ?_; intro v9 w9 h9 hg9 hv9; have H9 := Lib.hid (And.intro h9 (And.intro hg9 hv9)); clear h9 hg9 hv9)
            clear d0 d1 d2 d3 d4 d5 hown8 hsz8
            have hal : Below w8.heap.size w8 (w8.alloc (.cells #[.int .u64 (r.seq : Nat), .int .i64 r.kind, .string ⟨r.ten.toArray⟩, .int .u64 (r.lease : Nat), .int .u64 (r.n : Nat), .int .u64 (r.bits : Nat)] 25)) := (Below.refl _ _).alloc (Nat.le_refl _) _
            have HX := Lib.hid hal
            clear hal hw8
            go_roundw
            case rel =>
              have h8 := H8.out
              have h9 := H9.out
              have hs8 := h8.1.2.2.2
              have ho8 := h8.1.1.alloc (.cells #[.int .u64 (r.seq : Nat), .int .i64 r.kind, .string ⟨r.ten.toArray⟩, .int .u64 (r.lease : Nat), .int .u64 (r.n : Nat), .int .u64 (r.bits : Nat)] 25)
              refine ⟨j + 1, o2 ++ [r], by have := HJ.out; omega, by go_num, HT.out, by have := HO2.out; simp; omega, ⟨?_, ?_, ⟨?_, ?_⟩, ?_⟩, ⟨own_stay (h8.2.1.alloc _) ho8 (by decide) h9.2.1, ?_⟩⟩
              · have := h9.1
                rw [rcCells_snoc]
                simpa using this
              · exact (h8.1.2.1.alloc (by omega) _).grown h9.2.1 (by simp; omega) (fun q hq => by have := (h8.1.1.lt q hq).1; omega)
              · exact (h9.2.1.block _ (by rw [World.size_alloc]; omega) (fun e => by have := (own_block ho8 e.symm).1; omega)).trans (h8.1.2.2.1.1.alloc _)
              · exact (h9.2.1.block _ (by rw [World.size_alloc]; omega) (fun e => by have := (own_block ho8 e.symm).1; omega)).trans (h8.1.2.2.1.2.alloc _)
              · have := h9.2.1.size; rw [World.size_alloc] at this; omega
              · exact (h8.2.2.keep (KeepU.below HX.out)).keep (KeepU.grown h9.2.1 fun q e => by
                  obtain ⟨_, cs, fr, h⟩ := own_block ho8 e
                  exact ⟨_, h, fun cs fr h => by cases h⟩)
            case measure => have := HJ.out; simp [intOf]; omega
          | false =>
            have hv2 : recOk b = false ∨ awaits o2 (recP b) = false := by
              cases h1 : recOk b with
              | false => exact .inl rfl
              | true => rw [h1, Bool.true_and] at hv; exact .inr hv
            rw [hv, if_neg (by decide), if_neg (by decide)] at hTr
            have HR := Lib.hid (show segsR [] (L.take (k + 1)) = o2 by rw [HS2.out, htk, takeR_no _ _ _ hv2])
            clear htk hv hv2 hr
            have hTr : Calls Tryz.prog 44 #[.slice A6 n6 c6, .pointer (some ⟨gF, 0, none⟩), .pointer (some ⟨gA, 0, none⟩)] wr fun e W' => e = .returned (.tuple #[.agg #[.int .u64 0, .int .i64 0, .string ⟨#[]⟩, .int .u64 0, .int .u64 0, .int .u64 0], .bool false]) ∧ TkS W' gF gA o2 ∧ Turn (fun k => k = gF ∨ k = gA) wr W' := hTr
            go_wp2_with fail
            refine hTr.mono ?_
            rintro e w7 ⟨rfl, hT7, hU7⟩
            rw [← HG.out.1, ← HG.out.2] at hT7 hU7
            have H7 := Lib.hid (show RecI W u3 o2 w7 from H6.out.1.took hT7 hU7)
            have H8 := Lib.hid (show RecI W u3 o2 (w7.alloc (.cells #[.int .u64 0, .int .i64 0, .string ⟨#[]⟩, .int .u64 0, .int .u64 0, .int .u64 0] 25)) from H7.out.below ((Below.refl _ _).alloc (Nat.le_refl _) _))
            clear hT7 hU7 H6 H7 hTr hcell5
            obtain ⟨v9, hv9⟩ : ∃ x, u3 = x := ⟨_, rfl⟩
            rw [hv9] at H8 ⊢
            clear hv9
            go_wp2_with fail
            go_roundw
            case rel => exact ⟨k + 1, o2, by have := HK.out.1; omega, by go_num, HR.out.symm, H8.out⟩
            case measure => have := HK.out.1; simp [intOf]; omega
        · have hjk : ¬ (j : Int) < (k5 : Int) := by omega
          have HR := Lib.hid (show segsR [] (L.take (k + 1)) = o2 by rw [HS2.out, htk, List.drop_of_length_le (by have := HI5.out.2.2.1; omega)]; rfl)
          have HI6 := Lib.hid hI6
          clear hjl hj htk ho2 hI6 hB6
          go_wp2_with fail
          go_roundw
          case rel => exact ⟨k + 1, o2, by have := HK.out.1; omega, by go_num, HR.out.symm, HI6.out⟩
          case measure => have := HK.out.1; simp [intOf]; omega
    · have hkn : ¬ (k : Int) < (n : Int) := by omega
      have hkk : k = n := by omega
      have HR := Lib.hid (show out = segsR [] L by rw [hout, hkk, List.take_of_length_le (by have := HN.out.1; omega)])
      have HI := Lib.hid hI
      clear hlt hk hkk hout hI
      go_wp2_with fail
      go_ret
      obtain ⟨A9, c9, hv9, hR9⟩ := Rcs.of_own (S := fun _ => False) HI.out.1 (fun _ h => h.elim)
      refine ⟨A9, out.length, ⟨c9, by rw [hv9]; rfl⟩, ?_, HI.out.2.1⟩
      rw [← HR.out]
      exact hR9

theorem segR_all : SegR SV where
  toSegN := segN_all
  box := fun s k T l n b W hS ho hT => sbox_any s k T l n b W hS ho hT
  records := fun A n c L W hS hL _ _ _ hs hn => srecords_any A n c L W hS hL hs hn

end Go.Proofs.YtgococpbhbcpmaaGreatDoor

/-
  A region that draws its order and whose callees make memory of their own: one walk, in the text's order, in the class of the worlds that stand on this one. No program stands here.
-/
namespace Go.Proofs.YtgococpbhbcpmaaGreatDoor
open Go.RowKit
set_option linter.unusedVariables false

/-- A world that stands on w: what lay in w lies as it lay. -/
structure Ext (w : World) where
  on : World
  bel : Below w.heap.size w on
instance (w : World) : Nonempty (Ext w) := ⟨⟨w, Below.refl _ _⟩⟩
theorem Ext.cell {w : World} {p : Addr} {v : Value} (h : w.cell? p = some v) (u : Ext w) : u.on.cell? p = some v := (u.bel.cell (World.block_lt_of_cell? w _ h)).trans h
def Ext.next {w w' : World} (u : Ext w) (h : Below u.on.heap.size u.on w') : Ext w := ⟨w', u.bel.trans (h.mono u.bel.size)⟩
theorem wp_region_ext {P : Program} {id : Nat} {Q : Exit → Act → World → Prop} {a : Act} {w : World} {l : List Oper} (hm : P.follows .mixedOrders = true) (hB : Region.lexB .any l.toArray = true)
    (h : wpQuiet P l.toArray (fun w' => ∃ u : Ext w, w' = u.on) (fun a' => ∀ w', (∃ u : Ext w, w' = u.on) → Q .normal a' w') l a) : (Code.region id l.toArray true).wp P Q a w :=
  wp_region_quiet (C := fun w' => ∃ u : Ext w, w' = u.on) hm hB ⟨⟨_, below_drew (Below.refl _ _)⟩, rfl⟩ (by simpa using h)
/-- A callee's contract, met in such a world. -/
theorem Calls.ext {P : Program} {f : FuncId} {args : Array Value} {w : World} {u : Ext w} {v : Value} (h : Calls P f args u.on fun e w' => e = .returned v ∧ Below u.on.heap.size u.on w') :
    Calls P f args u.on fun e w'' => e = .returned v ∧ ∃ u' : Ext w, w'' = u'.on :=
  h.mono fun _ _ ⟨he, hb⟩ => ⟨he, u.next hb, rfl⟩

end Go.Proofs.YtgococpbhbcpmaaGreatDoor
