/-
  The program's records of segments.
-/
import Derived.Test.YthjikbhjciphiaaGreatDoorZz40
import Derived.Test.YthjikbhjciphiaaGreatDoorZz38
import Derived.Test.YthjikbhjciphiaaGreatDoorZz7
import Derived.Lib.SliceRun
namespace Go.Proofs.YthjikbhjciphiaaGreatDoor
open Go.RowKit
set_option linter.unusedVariables false
set_option linter.unusedSimpArgs false

theorem own_turnF {S : Nat → Prop} {w w' : World} {base size n : Nat} {e : TypeId} {v : Value} {xs : List Value} (h : w.ownsRow base e size v n xs) (ht : Turn S w w') (hs : ∀ k, S k → k < base) : w'.ownsRow base e size v n xs := by
  rcases h with ⟨h1, h2 | ⟨g, cap, cur, hv, hg, hh, r⟩⟩
  · exact ⟨h1, .inl h2⟩
  · exact ⟨h1, .inr ⟨g, cap, cur, hv, hg, (ht.block g (Array.getElem?_eq_some_iff.1 hh).1 (fun e => by have := hs g e; omega)).trans hh, r⟩⟩
theorem own_at1 {w : World} {base n c : Nat} {e : TypeId} {A : Option Addr} {xs : List Value} (h : w.ownsRow base e 1 (.slice A n c) n xs) (j : Nat) (x : Value) (hx : xs[j]? = some x) : ∃ g, A = some ⟨g, 0, none⟩ ∧ w.cell? ⟨g, j, none⟩ = some x := by
  have hl := (List.getElem?_eq_some_iff.1 hx).1
  have h1 := h.1
  rcases h.2 with ⟨e1, e2⟩ | ⟨g, cap, cur, hv, _⟩
  · omega
  · cases hv
    exact ⟨g, rfl, by rw [h.cellAt j (by omega), hx]⟩
theorem keepU_turn {w w' : World} {gF gA : Nat} {out : List Rc} (hT : TkS w gF gA out) (ht : Turn (fun k => k = gF ∨ k = gA) w w') : KeepU w w' := by
  refine ⟨ht.size, fun k cs fr hk => (ht.block k (Array.getElem?_eq_some_iff.1 hk).1 ?_).trans hk⟩
  rintro (rfl | rfl)
  · rw [show w.heap[k]? = _ from hT.1] at hk
    cases hk
  · rw [show w.heap[k]? = _ from hT.2] at hk
    cases hk
theorem tybs_at {w : World} : ∀ {vs : List Value} {bs : List (List UInt8)}, Tybs w vs bs → ∀ (j : Nat) (b : List UInt8), bs[j]? = some b → ∃ x, vs[j]? = some x ∧ Tyb w x b
  | [], [], _, j, b, h => by cases h
  | x :: vs, b' :: bs, h, 0, b, e => by
    cases e
    exact ⟨x, rfl, h.1⟩
  | x :: vs, b' :: bs, h, j + 1, b, e => tybs_at h.2 j b e

/-- What stands between two records. -/
def RecI (W : World) (v : Value) (out : List Rc) (w : World) : Prop := w.ownsRow (W.heap.size + 2) 35 6 v out.length (rcCells out) ∧ Below W.heap.size W w ∧ TkS w (W.heap.size + 1) W.heap.size out ∧ W.heap.size + 2 ≤ w.heap.size
theorem RecI.below {W w w' : World} {v : Value} {out : List Rc} (h : RecI W v out w) (hb : Below w.heap.size w w') : RecI W v out w' :=
  ⟨own_below h.1 hb, h.2.1.trans (hb.mono (by have := h.2.2.2; omega)), ⟨h.2.2.1.1.below hb h.2.2.1.1.lt, h.2.2.1.2.below hb h.2.2.1.2.lt⟩, Nat.le_trans h.2.2.2 hb.size⟩
theorem RecI.took {W w w' : World} {v : Value} {out o2 : List Rc} (h : RecI W v out w) (hT : TkS w' (W.heap.size + 1) W.heap.size o2) (ht : Turn (fun k => k = W.heap.size + 1 ∨ k = W.heap.size) w w') :
    w'.ownsRow (W.heap.size + 2) 35 6 v out.length (rcCells out) ∧ Below W.heap.size W w' ∧ TkS w' (W.heap.size + 1) W.heap.size o2 ∧ W.heap.size + 2 ≤ w'.heap.size :=
  ⟨own_turnF h.1 ht (fun k hk => by omega), h.2.1.trans (ht.below (by have := h.2.2.2; omega) (fun k hk => by omega)), hT, Nat.le_trans h.2.2.2 ht.size⟩
/-- The bodies of a segment's boxes, in memory. -/
def BodI (W : World) (v : Value) (vs : List Value) (bs : List (List UInt8)) (w : World) : Prop := w.ownsRow (W.heap.size + 2) 70 1 v vs.length vs ∧ Tybs w vs bs
theorem BodI.below {W w w' : World} {v : Value} {vs : List Value} {bs : List (List UInt8)} (h : BodI W v vs bs w) (hb : Below w.heap.size w w') : BodI W v vs bs w' :=
  ⟨own_below h.1 hb, h.2.keep (KeepU.below hb)⟩

theorem own_formS {w : World} {base k n : Nat} {e : TypeId} {v : Value} {xs : List Value} (h : w.ownsRow base e k v n xs) : ∃ A c, v = .slice A n c ∧ (A = none → n = 0 ∧ c = 0) ∧ n ≤ c ∧ c ≤ maxLen := by
  rcases h.2 with ⟨rfl, rfl⟩ | ⟨g, cap, cur, rfl, _, _, hn, hm, _⟩
  · exact ⟨none, 0, rfl, fun _ => ⟨rfl, rfl⟩, Nat.le_refl _, Nat.zero_le _⟩
  · exact ⟨_, cap, rfl, (fun h => by cases h), hn, hm⟩

set_option maxRecDepth 100000 in
set_option maxHeartbeats 4000000 in
theorem srecords_off (A : Option Addr) (n c : Nat) (L : List (List UInt8)) (W : World) (hS : SV W) (hL : Lst W (fun k => W.heap.size ≤ k) A n L) (hs : sumL L ≤ 100000) (hn : n ≤ 100000) :
    Calls Tryz.prog 30 #[.slice A n c] W fun e W' => ∃ A' k c', e = .returned (.slice A' k c') ∧ Rcs W' (fun k => k < W.heap.size) A' k (segsR [] L) ∧ k ≤ c' ∧ c' ≤ maxLen ∧ (A' = none → k = 0 ∧ c' = 0) ∧ Below W.heap.size W W' := by
  obtain ⟨i0, hi, hz0, hz1, hz2⟩ := info_parts Tryz.infoRc
  have hLn : L.length = n := by have := hL.1; rwa [bts_len] at this
  have HN := Lib.hid (And.intro hLn (And.intro hs hn))
  have HL := Lib.hid hL
  have HS := Lib.hid hS
  have hTk := taking_any W
  clear hLn hs hS hL
  go_enter Tryz.func30, Tryz.ntmps30
  go_wp2_with fail
  refine hTk.mono ?_
  rintro e w1 ⟨rfl, hT1, hb1, hsz1⟩
  have HI1 := Lib.hid (show RecI W (.slice none 0 0) [] w1 from ⟨World.ownsRow_nil _ _ _ _, hb1, hT1, hsz1⟩)
  clear hT1 hb1 hsz1
  obtain ⟨gA, hgA⟩ : ∃ x, W.heap.size = x := ⟨_, rfl⟩
  obtain ⟨gF, hgF⟩ : ∃ x, W.heap.size + 1 = x := ⟨_, rfl⟩
  have HG := Lib.hid (And.intro hgA hgF)
  rw [hgF, hgA]
  clear hgA hgF
  go_wp2_with fail
  go_loopw [3, 16] (fun v i wr => ∃ k out, k ≤ n ∧ i = .int .i64 (k : Nat) ∧ out = segsR [] (L.take k) ∧ RecI W v out wr) (fun _ i _ => n - (intOf i).toNat)
  case atStart => exact ⟨0, [], Nat.zero_le _, rfl, rfl, HI1.out⟩
  case round =>
    obtain ⟨k, out, hk, rfl, hout, hI⟩ := hrel
    by_cases hlt : k < n
    · obtain ⟨s, hks⟩ : ∃ s, L[k]? = some s := ⟨_, List.getElem?_eq_getElem (by have := HN.out; omega)⟩
      have hLr := Sls.turn HL.out (show Turn (fun k => W.heap.size ≤ k) W wr from ⟨hI.2.1.os, hI.2.1.tape, hI.2.1.output, hI.2.1.size, fun k hk hn => hI.2.1.block k hk⟩)
      obtain ⟨g, o, A2, n2, c2, hAe, _, hgl, hcell, hbs, hnl2, hnc2, hcm2⟩ := Lst.at_ hLr hks
      subst hAe
      have hsl := sumL_at L k s hks
      have hn2 : n2 ≤ 100000 := by have := hbs.1; have := HN.out; omega
      have hV := valid_own A2 n2 c2 s wr hbs.byt (fun h => (hnl2 h).2) hnc2 hcm2 (by omega)
      have hkn : (k : Int) < (n : Int) := by omega
      have HS2 := Lib.hid (show segsR [] (L.take (k + 1)) = takeR out (validC s).1 by rw [take_snoc13 L k s hks, segsR_snoc, hout])
      have hol : out.length ≤ 100000 := by
        have h1 := segsR_len (L.take k) []
        have h2 := sumL_take L k
        have := HN.out
        rw [hout]
        simp only [List.length_nil] at h1
        omega
      have hvl := (valid_end s).2
      have hvs := valid_sizes s
      have hsl2 : s.length ≤ 100000 := by have := HN.out; omega
      obtain ⟨bs, hbs2⟩ : ∃ x, (validC s).1 = x := ⟨_, rfl⟩
      rw [hbs2] at hV HS2 hvl hvs
      obtain ⟨e2, he2⟩ : ∃ x, (validC s).2 = x := ⟨_, rfl⟩
      rw [he2] at hV
      have HK := Lib.hid (And.intro hlt (And.intro hol (And.intro hvl (And.intro hsl2 hvs))))
      have HI := Lib.hid hI
      clear hbs2 he2 hlt hk hks hout hsl hbs hol hvl hvs hsl2 hI hLr
      go_wp2_with fail
      refine hV.mono ?_
      rintro e w5 ⟨v5, vs, rfl, hr5, hT5, hb5⟩
      have hI5 : RecI W u3 out w5 := HI.out.below hb5
      have hB5 : BodI W v5 vs bs w5 := ⟨own_mono hr5 HI.out.2.2.2, hT5⟩
      have hk5 : vs.length = bs.length := hT5.len
      obtain ⟨A5, c5, rfl, _, _, _⟩ := own_form hr5
      obtain ⟨k5, hk5e⟩ : ∃ x, vs.length = x := ⟨_, rfl⟩
      rw [hk5e] at hk5 ⊢
      have HI5 := Lib.hid (And.intro hI5 (And.intro hB5 (And.intro hk5 hk5e)))
      clear hr5 hT5 hb5 hI5 hB5 HI hk5 hcell hk5e
      obtain ⟨v3, hv3⟩ : ∃ x, u3 = x := ⟨_, rfl⟩
      rw [hv3] at HI5 ⊢
      clear hv3
      go_wp2_with fail
      obtain ⟨w4, rfl⟩ : ∃ w4, w4 = wr := ⟨_, rfl⟩
      go_loopw [3, 27] (fun v i w6 => ∃ (j : Nat) (o2 : List Rc), j ≤ k5 ∧ i = .int .i64 (j : Nat) ∧ takeR out bs = takeR o2 (bs.drop j) ∧ o2.length ≤ out.length + j ∧ RecI W v o2 w6 ∧ BodI W (.slice A5 vs.length c5) vs bs w6) (fun _ i _ => k5 - (intOf i).toNat)
      case atStart => exact ⟨0, out, Nat.zero_le _, rfl, rfl, Nat.le_refl _, HI5.out.1, HI5.out.2.1⟩
      case round =>
        obtain ⟨j, o2, hj, rfl, htk, ho2, hI6, hB6⟩ := hrel
        by_cases hjl : j < k5
        · obtain ⟨b, hjb⟩ : ∃ b, bs[j]? = some b := ⟨_, List.getElem?_eq_getElem (by have := HI5.out.2.2.1; omega)⟩
          obtain ⟨x, hx, hTy⟩ := tybs_at hB6.2 j b hjb
          obtain ⟨g5, hAe, hcell5⟩ := own_at1 hB6.1 j x hx
          subst hAe
          obtain ⟨A6, n6, c6, rfl, hby6, hnl6, hnc6, hcm6, _⟩ := hTy
          have hb4 := HK.out.2.2.2.2 b (List.mem_of_getElem? hjb)
          have hn6 : n6 ≤ 5000 := by have := hby6.1; omega
          have hTr := stake_any A6 n6 c6 b wr (W.heap.size + 1) W.heap.size o2 hby6 hnl6 (by omega) (dk_below HS.out.1 hI6.2.1 (Nat.le_refl _)) hI6.2.2.1 (by omega) _ rfl
          rw [HG.out.2, HG.out.1] at hTr
          have hjk : (j : Int) < (k5 : Int) := by omega
          have HJ := Lib.hid (show j < k5 ∧ bs.length = k5 from ⟨hjl, HI5.out.2.2.1.symm⟩)
          have hdr : bs.drop j = b :: bs.drop (j + 1) := by
            obtain ⟨h1, h2⟩ := List.getElem?_eq_some_iff.1 hjb
            rw [List.drop_eq_getElem_cons h1, h2]
          rw [hdr] at htk
          have h60 : j ≤ 100000 := by have := HK.out.2.2; have := HI5.out.2.2.1; omega
          have HO := Lib.hid (show o2.length ≤ 200000 by have := HK.out.2.1; omega)
          have HO2 := Lib.hid ho2
          have H6 := Lib.hid (And.intro hI6 hB6)
          clear hI6 hB6 hby6 hnl6 hnc6 hcm6 hb4 hn6 hjl hj ho2 hdr hjb hx
          obtain ⟨r, hr⟩ : ∃ r, recP b = r := ⟨_, rfl⟩
          cases hv : (recOk b && awaits o2 (recP b)) with
          | true =>
            rw [Bool.and_eq_true] at hv
            rw [show (recOk b && awaits o2 (recP b)) = true by rw [hv.1, hv.2]; rfl, if_pos rfl, if_pos rfl, hr] at hTr
            have HT := Lib.hid (show takeR out bs = takeR (o2 ++ [r]) (bs.drop (j + 1)) by rw [htk, takeR_yes _ _ _ hv.1 hv.2, hr])
            clear htk hv hr
            have hTr : Calls Tryz.prog 73 #[.slice A6 n6 c6, .pointer (some ⟨gF, 0, none⟩), .pointer (some ⟨gA, 0, none⟩)] wr fun e W' => e = .returned (.tuple #[.agg #[.int .u64 (r.seq : Nat), .int .i64 r.kind, .string ⟨r.ten.toArray⟩, .int .u64 (r.lease : Nat), .int .u64 (r.n : Nat), .int .u64 (r.bits : Nat)], .bool true]) ∧ TkS W' gF gA (o2 ++ [r]) ∧ Turn (fun k => k = gF ∨ k = gA) wr W' := hTr
            go_wp2_with fail
            refine hTr.mono ?_
            rintro e w7 ⟨rfl, hT7, hU7⟩
            rw [← HG.out.1, ← HG.out.2] at hT7 hU7
            have H7 := Lib.hid (And.intro (H6.out.1.took hT7 hU7) (And.intro (own_turnF H6.out.2.1 hU7 (fun k hk => by omega)) (H6.out.2.2.keep (keepU_turn H6.out.1.2.2.1 hU7))))
            clear hT7 hU7 H6
            have hbl : Below w7.heap.size w7 (w7.alloc (.cells #[.int .u64 (r.seq : Nat), .int .i64 r.kind, .string ⟨r.ten.toArray⟩, .int .u64 (r.lease : Nat), .int .u64 (r.n : Nat), .int .u64 (r.bits : Nat)] 35)) := (Below.refl _ _).alloc (Nat.le_refl _) _
            have hR7 := Blk.new (cs := r.cells) w7 35 _ rfl
            have H8 := Lib.hid (show ((w7.alloc (.cells #[.int .u64 (r.seq : Nat), .int .i64 r.kind, .string ⟨r.ten.toArray⟩, .int .u64 (r.lease : Nat), .int .u64 (r.n : Nat), .int .u64 (r.bits : Nat)] 35)).ownsRow (W.heap.size + 2) 35 6 u3 o2.length (rcCells o2) ∧ Below W.heap.size W (w7.alloc (.cells #[.int .u64 (r.seq : Nat), .int .i64 r.kind, .string ⟨r.ten.toArray⟩, .int .u64 (r.lease : Nat), .int .u64 (r.n : Nat), .int .u64 (r.bits : Nat)] 35)) ∧ TkS (w7.alloc (.cells #[.int .u64 (r.seq : Nat), .int .i64 r.kind, .string ⟨r.ten.toArray⟩, .int .u64 (r.lease : Nat), .int .u64 (r.n : Nat), .int .u64 (r.bits : Nat)] 35)) (W.heap.size + 1) W.heap.size (o2 ++ [r]) ∧ W.heap.size + 2 ≤ (w7.alloc (.cells #[.int .u64 (r.seq : Nat), .int .i64 r.kind, .string ⟨r.ten.toArray⟩, .int .u64 (r.lease : Nat), .int .u64 (r.n : Nat), .int .u64 (r.bits : Nat)] 35)).heap.size) ∧ BodI W (.slice (some ⟨g5, 0, none⟩) vs.length c5) vs bs (w7.alloc (.cells #[.int .u64 (r.seq : Nat), .int .i64 r.kind, .string ⟨r.ten.toArray⟩, .int .u64 (r.lease : Nat), .int .u64 (r.n : Nat), .int .u64 (r.bits : Nat)] 35)) from
              ⟨⟨own_below H7.out.1.1 hbl, H7.out.1.2.1.trans (hbl.mono (by have := H7.out.1.2.2.2; omega)), ⟨H7.out.1.2.2.1.1.below hbl H7.out.1.2.2.1.1.lt, H7.out.1.2.2.1.2.below hbl H7.out.1.2.2.1.2.lt⟩, Nat.le_trans H7.out.1.2.2.2 hbl.size⟩, BodI.below ⟨H7.out.2.1, H7.out.2.2⟩ hbl⟩)
            obtain ⟨p7, hp7⟩ : ∃ x, w7.heap.size = x := ⟨_, rfl⟩
            obtain ⟨w8, hw8⟩ : ∃ x, w7.alloc (.cells #[.int .u64 (r.seq : Nat), .int .i64 r.kind, .string ⟨r.ten.toArray⟩, .int .u64 (r.lease : Nat), .int .u64 (r.n : Nat), .int .u64 (r.bits : Nat)] 35) = x := ⟨_, rfl⟩
            rw [show w7.alloc (.cells r.cells.toArray 35) = w8 from hw8, hp7] at hR7
            rw [hw8] at H8
            have d0 : w8.cell? ⟨p7, 0, none⟩ = some (.int .u64 (r.seq : Nat)) := hR7.cell 0
            have d1 : w8.cell? ⟨p7, 1, none⟩ = some (.int .i64 r.kind) := hR7.cell 1
            have d2 : w8.cell? ⟨p7, 2, none⟩ = some (.string ⟨r.ten.toArray⟩) := hR7.cell 2
            have d3 : w8.cell? ⟨p7, 3, none⟩ = some (.int .u64 (r.lease : Nat)) := hR7.cell 3
            have d4 : w8.cell? ⟨p7, 4, none⟩ = some (.int .u64 (r.n : Nat)) := hR7.cell 4
            have d5 : w8.cell? ⟨p7, 5, none⟩ = some (.int .u64 (r.bits : Nat)) := hR7.cell 5
            have hown8 := H8.out.1.1
            have hsz8 := H8.out.1.2.2.2
            have hO := HO.out
            clear H7 hbl hR7 hcell5 hTr
            obtain ⟨v9, hv9⟩ : ∃ x, u3 = x := ⟨_, rfl⟩
            rw [hv9] at H8 hown8 ⊢
            clear hv9
            go_upto_region 12 with fail
            go_wp2_with (at_builtin; refine wpList_append_own_at _ rfl _ _ 29 rfl (W.heap.size + 2) 35 i0 _ 6 56 Tryz.underlying29 hi hz0 hz1 hz2 rfl (by decide) v9 o2.length (rcCells o2) rfl (hown8.alloc _) ⟨w8.heap.size, 0, none⟩ 1 1 r.cells rfl rfl (fun q u hu => by rw [Addr.add_lit, Nat.zero_add, World.cell?_alloc_new]; simpa [Rc.cells] using hu) (PrtsV.one (w := w8) (S := fun _ => False) (rcP r) r.cells (rcP_cells _ _ r)) (by unfold maxLen; omega) (by omega) (by simp; omega) ?_; intro v9 w9 h9 hg9 hv9; have H9 := Lib.hid (And.intro h9 (And.intro hg9 hv9)); clear h9 hg9 hv9)
            clear d0 d1 d2 d3 d4 d5 hown8 hsz8
            have hal : Below w8.heap.size w8 (w8.alloc (.cells #[.int .u64 (r.seq : Nat), .int .i64 r.kind, .string ⟨r.ten.toArray⟩, .int .u64 (r.lease : Nat), .int .u64 (r.n : Nat), .int .u64 (r.bits : Nat)] 35)) := (Below.refl _ _).alloc (Nat.le_refl _) _
            have HX := Lib.hid hal
            clear hal hw8
            go_roundw
            case rel =>
              have h8 := H8.out
              have h9 := H9.out
              have hs8 := h8.1.2.2.2
              have ho8 := h8.1.1.alloc (.cells #[.int .u64 (r.seq : Nat), .int .i64 r.kind, .string ⟨r.ten.toArray⟩, .int .u64 (r.lease : Nat), .int .u64 (r.n : Nat), .int .u64 (r.bits : Nat)] 35)
              refine ⟨j + 1, o2 ++ [r], by have := HJ.out; omega, by go_num, HT.out, by have := HO2.out; simp; omega, ⟨?_, ?_, ⟨?_, ?_⟩, ?_⟩, ⟨own_stay (h8.2.1.alloc _) ho8 (by decide) h9.2.1, ?_⟩⟩
              · have := h9.1
                rw [rcCells_snoc]
                simpa using this
              · exact (h8.1.2.1.alloc (by omega) _).grown h9.2.1 (by simp; omega) (fun q hq => by have := (h8.1.1.lt q hq).1; omega)
              · exact (h9.2.1.block _ (by rw [World.size_alloc]; omega) (fun e => by have := (own_block ho8 e.symm).1; omega)).trans (h8.1.2.2.1.1.alloc _)
              · exact (h9.2.1.block _ (by rw [World.size_alloc]; omega) (fun e => by have := (own_block ho8 e.symm).1; omega)).trans (h8.1.2.2.1.2.alloc _)
              · have := h9.2.1.size; rw [World.size_alloc] at this; omega
              · exact (h8.2.2.keep (KeepU.below HX.out)).keep (KeepU.grown h9.2.1 fun q e => by
                  obtain ⟨_, cs, fr, h⟩ := own_block ho8 e
                  exact ⟨_, h, fun cs fr h => by cases h⟩)
            case measure => have := HJ.out; simp [intOf]; omega
          | false =>
            have hv2 : recOk b = false ∨ awaits o2 (recP b) = false := by
              cases h1 : recOk b with
              | false => exact .inl rfl
              | true => rw [h1, Bool.true_and] at hv; exact .inr hv
            rw [hv, if_neg (by decide), if_neg (by decide)] at hTr
            have HR := Lib.hid (show segsR [] (L.take (k + 1)) = o2 by rw [HS2.out, htk, takeR_no _ _ _ hv2])
            clear htk hv hv2 hr
            have hTr : Calls Tryz.prog 73 #[.slice A6 n6 c6, .pointer (some ⟨gF, 0, none⟩), .pointer (some ⟨gA, 0, none⟩)] wr fun e W' => e = .returned (.tuple #[.agg #[.int .u64 0, .int .i64 0, .string ⟨#[]⟩, .int .u64 0, .int .u64 0, .int .u64 0], .bool false]) ∧ TkS W' gF gA o2 ∧ Turn (fun k => k = gF ∨ k = gA) wr W' := hTr
            go_wp2_with fail
            refine hTr.mono ?_
            rintro e w7 ⟨rfl, hT7, hU7⟩
            rw [← HG.out.1, ← HG.out.2] at hT7 hU7
            have H7 := Lib.hid (show RecI W u3 o2 w7 from H6.out.1.took hT7 hU7)
            have H8 := Lib.hid (show RecI W u3 o2 (w7.alloc (.cells #[.int .u64 0, .int .i64 0, .string ⟨#[]⟩, .int .u64 0, .int .u64 0, .int .u64 0] 35)) from H7.out.below ((Below.refl _ _).alloc (Nat.le_refl _) _))
            clear hT7 hU7 H6 H7 hTr hcell5
            obtain ⟨v9, hv9⟩ : ∃ x, u3 = x := ⟨_, rfl⟩
            rw [hv9] at H8 ⊢
            clear hv9
            go_wp2_with fail
            go_roundw
            case rel => exact ⟨k + 1, o2, by have := HK.out.1; omega, by go_num, HR.out.symm, H8.out⟩
            case measure => have := HK.out.1; simp [intOf]; omega
        · have hjk : ¬ (j : Int) < (k5 : Int) := by omega
          have HR := Lib.hid (show segsR [] (L.take (k + 1)) = o2 by rw [HS2.out, htk, List.drop_of_length_le (by have := HI5.out.2.2.1; omega)]; rfl)
          have HI6 := Lib.hid hI6
          clear hjl hj htk ho2 hI6 hB6
          go_wp2_with fail
          go_roundw
          case rel => exact ⟨k + 1, o2, by have := HK.out.1; omega, by go_num, HR.out.symm, HI6.out⟩
          case measure => have := HK.out.1; simp [intOf]; omega
    · have hkn : ¬ (k : Int) < (n : Int) := by omega
      have hkk : k = n := by omega
      have HR := Lib.hid (show out = segsR [] L by rw [hout, hkk, List.take_of_length_le (by have := HN.out.1; omega)])
      have HI := Lib.hid hI
      clear hlt hk hkk hout hI
      go_wp2_with fail
      go_ret
      obtain ⟨A9, c9, hv9, hR9⟩ := Rcs.of_own (S := fun k => k < W.heap.size) HI.out.1 (fun x (h : x < W.heap.size) => .inl (by omega))
      have ho9 := HI.out.1
      rw [hv9] at ho9
      obtain ⟨A8, c8, e8, q1, q2, q3⟩ := own_formS ho9
      injection e8 with e8 _ e9
      subst e8 e9
      refine ⟨A9, out.length, c9, by rw [hv9]; rfl, ?_, q2, q3, q1, HI.out.2.1⟩
      rw [← HR.out]
      exact hR9

theorem srecords_any (A : Option Addr) (n c : Nat) (L : List (List UInt8)) (W : World) (hS : SV W) (hL : Lst W (fun k => W.heap.size ≤ k) A n L) (hs : sumL L ≤ 100000) (hn : n ≤ 100000) :
    Calls Tryz.prog 30 #[.slice A n c] W fun e W' => ∃ A' k c', e = .returned (.slice A' k c') ∧ Rcs W' (fun _ => False) A' k (segsR [] L) ∧ Below W.heap.size W W' :=
  (srecords_off A n c L W hS hL hs hn).mono fun e W' ⟨A', k, c', h1, h2, _, _, _, h3⟩ => ⟨A', k, c', h1, Sls.less h2 (fun _ h => h.elim), h3⟩

theorem segR_all : SegR SV where
  toSegN := segN_all
  box := fun s k T l n b W hS ho hT => sbox_any s k T l n b W hS ho hT
  records := fun A n c L W hS hL _ _ _ hs hn => srecords_any A n c L W hS hL hs hn

end Go.Proofs.YthjikbhjciphiaaGreatDoor

/-
  The library's Compact at words in order: each once.
-/
namespace Go.Proofs.YthjikbhjciphiaaGreatDoor
open Go.RowKit
set_option linter.unusedVariables false
set_option linter.unusedSimpArgs false

/-- Rising strictly up to k. -/
def Sup (k : Nat) (ys : List Nat) : Prop := ∀ j, 0 < j → j < k → atN ys (j - 1) < atN ys j
/-- m places looked at, the first kk hold each of them once. -/
def CmpI (m kk : Nat) (xs ys : List Nat) : Prop := 0 < kk ∧ kk < m ∧ m ≤ xs.length ∧ ys.length = xs.length ∧ (∀ j, kk ≤ j → atN ys j = atN xs j) ∧ Sup kk ys ∧ (∀ j, j < m → ∃ i, i < kk ∧ atN ys i = atN xs j) ∧ (∀ i, i < kk → ∃ j, j < m ∧ atN xs j = atN ys i) ∧ atN ys (kk - 1) = atN xs (m - 1)
theorem cmp_start {k : Nat} {xs : List Nat} (h0 : 0 < k) (hk : k < xs.length) (hs : Sup k xs) (he : atN xs k = atN xs (k - 1)) : CmpI (k + 1) k xs xs :=
  ⟨h0, by omega, hk, rfl, fun _ _ => rfl, hs, fun j hj => by
    by_cases e : j = k
    · exact ⟨k - 1, by omega, by rw [e, he]⟩
    · exact ⟨j, by omega, rfl⟩, fun i hi => ⟨i, by omega, rfl⟩, by rw [← he, Nat.add_sub_cancel]⟩
theorem cmp_skip {m kk : Nat} {xs ys : List Nat} (h : CmpI m kk xs ys) (hm : m < xs.length) (he : atN xs m = atN xs (m - 1)) : CmpI (m + 1) kk xs ys := by
  obtain ⟨h1, h2, h3, h4, h5, h6, h7, h8, h9⟩ := h
  refine ⟨h1, by omega, hm, h4, h5, h6, fun j hj => ?_, fun i hi => ?_, by rw [h9, ← he, Nat.add_sub_cancel]⟩
  · by_cases e : j = m
    · subst e
      obtain ⟨i, hi, hv⟩ := h7 (j - 1) (by omega)
      exact ⟨i, hi, by rw [hv, he]⟩
    · exact h7 j (by omega)
  · obtain ⟨j, hj, hv⟩ := h8 i hi
    exact ⟨j, by omega, hv⟩
theorem at_set (ys : List Nat) (k x t : Nat) (hk : k < ys.length) : atN (ys.set k x) t = if t = k then x else atN ys t := by
  unfold atN
  simp only [List.getD_eq_getElem?_getD]
  rw [List.getElem?_set]
  by_cases h : t = k
  · subst h
    rw [if_pos rfl, if_pos hk, if_pos rfl]
    rfl
  · rw [if_neg (fun e => h e.symm), if_neg h]
theorem cmp_keep {m kk x : Nat} {xs ys : List Nat} (h : CmpI m kk xs ys) (hm : m < xs.length) (hx : atN xs m = x) (hlt : atN xs (m - 1) < x) : CmpI (m + 1) (kk + 1) xs (ys.set kk x) := by
  obtain ⟨h1, h2, h3, h4, h5, h6, h7, h8, h9⟩ := h
  have hkl : kk < ys.length := by omega
  refine ⟨by omega, by omega, hm, by rw [List.length_set]; exact h4, fun j hj => ?_, fun j h0 hj => ?_, fun j hj => ?_, fun i hi => ?_, ?_⟩
  · rw [at_set _ _ _ _ hkl, if_neg (by omega)]
    exact h5 j (by omega)
  · rw [at_set _ _ _ _ hkl, at_set _ _ _ _ hkl, if_neg (by omega)]
    by_cases e : j = kk
    · subst e; rw [if_pos rfl, h9]; exact hlt
    · rw [if_neg e]; exact h6 j h0 (by omega)
  · by_cases e : j = m
    · subst e; exact ⟨kk, by omega, by rw [at_set _ _ _ _ hkl, if_pos rfl, hx]⟩
    · obtain ⟨i, hi, hv⟩ := h7 j (by omega)
      exact ⟨i, by omega, by rw [at_set _ _ _ _ hkl, if_neg (by omega)]; exact hv⟩
  · rw [at_set _ _ _ _ hkl]
    by_cases e : i = kk
    · rw [if_pos e]; exact ⟨m, by omega, hx⟩
    · rw [if_neg e]
      obtain ⟨j, hj, hv⟩ := h8 i (by omega)
      exact ⟨j, by omega, hv⟩
  · rw [at_set _ _ _ _ hkl, if_pos (by omega), Nat.add_sub_cancel, hx]
theorem at_take (ys : List Nat) (k j : Nat) (hj : j < k) : atN (ys.take k) j = atN ys j := by
  unfold atN
  simp only [List.getD_eq_getElem?_getD]
  rw [List.getElem?_take, if_pos hj]
theorem mem_at (xs : List Nat) (x : Nat) : x ∈ xs ↔ ∃ j, j < xs.length ∧ atN xs j = x := by
  rw [List.mem_iff_getElem?]
  constructor
  · rintro ⟨j, hj⟩
    have hl : j < xs.length := by
      rcases Nat.lt_or_ge j xs.length with h | h
      · exact h
      · rw [List.getElem?_eq_none h] at hj; cases hj
    exact ⟨j, hl, by rw [atN_some hl] at hj; exact Option.some.inj hj⟩
  · rintro ⟨j, hl, rfl⟩
    exact ⟨j, atN_some hl⟩
/-- What Compact gives of words in order. -/
def CmpQ (xs R : List Nat) : Prop := (∀ x, x ∈ R ↔ x ∈ xs) ∧ (∀ i x y, R[i]? = some x → R[i + 1]? = some y → x < y) ∧ R.length ≤ xs.length
theorem sup_rise {R : List Nat} (h : Sup R.length R) (i x y : Nat) (h1 : R[i]? = some x) (h2 : R[i + 1]? = some y) : x < y := by
  have hl : i + 1 < R.length := by
    rcases Nat.lt_or_ge (i + 1) R.length with h | h
    · exact h
    · rw [List.getElem?_eq_none h] at h2; cases h2
  rw [atN_some (by omega)] at h1
  rw [atN_some hl] at h2
  have := h (i + 1) (by omega) hl
  rw [Nat.add_sub_cancel] at this
  rw [← Option.some.inj h1, ← Option.some.inj h2]
  exact this
theorem cmp_done {kk : Nat} {xs ys : List Nat} (h : CmpI xs.length kk xs ys) : CmpQ xs (ys.take kk) ∧ (ys.take kk).length = kk := by
  obtain ⟨h1, h2, h3, h4, h5, h6, h7, h8, h9⟩ := h
  have hl : (ys.take kk).length = kk := by rw [List.length_take]; omega
  refine ⟨⟨fun x => ?_, sup_rise (by
    rw [hl]
    intro j h0 hj
    rw [at_take _ _ _ (by omega), at_take _ _ _ hj]
    exact h6 j h0 hj), by omega⟩, hl⟩
  rw [mem_at, mem_at, hl]
  constructor
  · rintro ⟨i, hi, rfl⟩
    rw [at_take _ _ _ hi]
    exact h8 i hi
  · rintro ⟨j, hj, rfl⟩
    obtain ⟨i, hi, hv⟩ := h7 j hj
    exact ⟨i, hi, by rw [at_take _ _ _ hi]; exact hv⟩
theorem cmp_whole {xs : List Nat} (h : Sup xs.length xs) : CmpQ xs xs := ⟨fun _ => Iff.rfl, sup_rise h, Nat.le_refl _⟩

/-- What Compact leaves. -/
def CmpP (W : World) (g c : Nat) (xs : List Nat) (e : Ending) (W' : World) : Prop := ∃ R : List Nat, e = .returned (.slice (some ⟨g, 0, none⟩) R.length c) ∧ (∀ j x, R[j]? = some x → W'.cell? ⟨g, j, none⟩ = some (.int .u64 (x : Nat))) ∧ Turn (fun k => k = g) W W' ∧ CmpQ xs R
theorem cmp_same {W w : World} {B g n c : Nat} {xs : List Nat} (hr : RowN w B g n c xs) (ht : Turn (fun k => k = g) W w) (h : Sup n xs) : CmpP W g c xs (.returned (.slice (some ⟨g, 0, none⟩) n c)) w := by
  have hl := hr.len
  refine ⟨xs, by rw [hl], fun j x hj => ?_, ht, cmp_whole (by rw [hl]; exact h)⟩
  have hjl : j < xs.length := by
    rcases Nat.lt_or_ge j xs.length with h | h
    · exact h
    · rw [List.getElem?_eq_none h] at hj; cases hj
  exact hr.cell j (by omega) x (by rw [atN_some hjl] at hj; exact Option.some.inj hj)
theorem turn_cells {W : World} (g : Nat) : ∀ (vs : List Value) (o : Nat) (w : World), Turn (fun k => k = g) W w → Turn (fun k => k = g) W (w.setCells g o vs)
  | [], _, _, h => h
  | v :: r, o, w, h => by
    rw [World.setCells]
    exact turn_cells g r (o + 1) _ (h.setCell (p := ⟨g, o, none⟩) rfl v)

set_option maxRecDepth 100000 in
set_option maxHeartbeats 8000000 in
theorem compact_any (B g n c : Nat) (hn : n ≤ 1000000000) (hnc : n ≤ c) (hc : c ≤ maxLen) (xs : List Nat) (W : World) (h : RowN W B g n c xs) (hz : Srt 0 n xs) :
    Calls Tryz.prog 44 #[.slice (some ⟨g, 0, none⟩) n c] W (CmpP W g c xs) := by
  unfold maxLen at hc
  by_cases h2 : n < 2
  · have t2 : (n : Int) < 2 := by omega
    have HS := Lib.hid (cmp_same h (Turn.refl _ _) (fun j h0 hj => by omega))
    clear h hz h2
    go_enter Tryz.func44, Tryz.ntmps44
    go_wp2_with fail
    go_ret
    exact HS.out
  · have t2 : ¬ (n : Int) < 2 := by omega
    have HB := Lib.hid (show 2 ≤ n ∧ n ≤ c ∧ n ≤ 1000000000 from ⟨by omega, hnc, hn⟩)
    have HZ := Lib.hid hz
    have HLn := Lib.hid h.len
    have H0 := Lib.hid (show RowN W B g n c xs ∧ Turn (fun k => k = g) W W from ⟨h, Turn.refl _ _⟩)
    clear h hz h2
    go_enter Tryz.func44, Tryz.ntmps44
    go_wp2_with fail
    go_loopw [3] (fun s3 wr => ∃ k : Nat, s3 = .int .i64 k ∧ 1 ≤ k ∧ k ≤ n ∧ RowN wr B g n c xs ∧ Turn (fun k => k = g) W wr ∧ Sup k xs) (fun s3 _ => n - (intOf s3).toNat)
    case atStart => exact ⟨1, rfl, Nat.le_refl _, by have := HB.out; omega, H0.out.1, H0.out.2, fun j h0 hj => by omega⟩
    case round =>
      obtain ⟨k, rfl, hk1, hkn, hr, ht, hs⟩ := hrel
      have hb := HB.out
      have hk9 : k ≤ 1000000000 := by omega
      by_cases hlt : k < n
      · have t1 : (k : Int) < (n : Int) := by omega
        obtain ⟨k0, hk0⟩ : ∃ x, k - 1 = x := ⟨_, rfl⟩
        have g1 : (k : Int) - 1 = (k0 : Int) := by omega
        have k0n : (k0 : Int) < (n : Int) := by omega
        have k09 : k0 ≤ 1000000000 := by omega
        obtain ⟨x, hx⟩ : ∃ x, atN xs k = x := ⟨_, rfl⟩
        obtain ⟨y, hy⟩ : ∃ x, atN xs k0 = x := ⟨_, rfl⟩
        have c1 := hr.cell k (by omega) x hx
        have c2 := hr.cell k0 (by omega) y hy
        have hyx := HZ.out k0 k (Nat.zero_le _) (by omega) hlt
        rw [hx, hy] at hyx
        by_cases hc : x = y
        · have q1 : ((x : Int) == (y : Int)) = true := by rw [hc]; simp
          have HI := Lib.hid (show CmpI (k + 1) k xs xs from cmp_start (by omega) (by rw [HLn.out]; exact hlt) hs (by rw [hk0, hx, hy, hc]))
          have HR := Lib.hid (And.intro hr ht)
          clear hr ht hs hx hy hc hyx hk0
          go_wp2_with fail
          go_quiet (fail)
          have HR9 := Lib.hid (show RowN (wr.drewN nq) B g n c xs ∧ Turn (fun k => k = g) W (wr.drewN nq) from ⟨HR.out.1.drewN _, HR.out.2.drewN _⟩)
          obtain ⟨w9, hw9⟩ : ∃ x, wr.drewN nq = x := ⟨_, rfl⟩
          rw [hw9] at HR9 ⊢
          clear hw9 HR c1 c2 q1
          go_wp2_with fail
          obtain ⟨nk, hnk⟩ : ∃ x, n - k = x := ⟨_, rfl⟩
          obtain ⟨ck, hck⟩ : ∃ x, c - k = x := ⟨_, rfl⟩
          rw [hnk, hck]
          have HK := Lib.hid (show n - k = nk ∧ 1 ≤ k ∧ k < n from ⟨hnk, hk1, hlt⟩)
          have nk9 : nk ≤ 1000000000 := by omega
          clear hnk hck hkn hb hlt t1 g1 k0n k09
          go_loopw [3, 5] (fun s3 s5 wr => ∃ (kk k2 : Nat) (ys : List Nat), s3 = .int .i64 kk ∧ s5 = .int .i64 k2 ∧ 1 ≤ k2 ∧ k2 ≤ nk ∧ RowN wr B g n c ys ∧ Turn (fun k => k = g) W wr ∧ CmpI (k + k2) kk xs ys) (fun _ s5 _ => nk - (intOf s5).toNat)
          case atStart => exact ⟨k, 1, xs, rfl, rfl, Nat.le_refl _, by have := HK.out; omega, HR9.out.1, HR9.out.2, HI.out⟩
          case round =>
            obtain ⟨kk, k2, ys, rfl, rfl, h1, h2, hr, ht, hI⟩ := hrel
            have hb := HB.out
            have hkb := HK.out
            have hkk1 := hI.1
            have hkk2 := hI.2.1
            have hkk9 : kk ≤ 1000000000 := by omega
            have hk29 : k2 ≤ 1000000000 := by omega
            by_cases hlt : k2 < nk
            · have t1 : (k2 : Int) < (nk : Int) := by omega
              obtain ⟨j0, hj0⟩ : ∃ x, k2 - 1 = x := ⟨_, rfl⟩
              have g1 : (k2 : Int) - 1 = (j0 : Int) := by omega
              have j0n : (j0 : Int) < (nk : Int) := by omega
              have j09 : j0 ≤ 1000000000 := by omega
              obtain ⟨u, hu⟩ : ∃ x, atN xs (k + k2) = x := ⟨_, rfl⟩
              obtain ⟨v, hv⟩ : ∃ x, atN xs (k + j0) = x := ⟨_, rfl⟩
              obtain ⟨z, hz⟩ : ∃ x, atN ys kk = x := ⟨_, rfl⟩
              have c1 := hr.cell (k + k2) (by omega) u (by rw [hI.2.2.2.2.1 (k + k2) (by omega)]; exact hu)
              have c2 := hr.cell (k + j0) (by omega) v (by rw [hI.2.2.2.2.1 (k + j0) (by omega)]; exact hv)
              have c3 := hr.cell kk (by omega) z hz
              have f3 := hr.frozen kk
              have kkn : (kk : Int) < (n : Int) := by omega
              have hvu := HZ.out (k + j0) (k + k2) (Nat.zero_le _) (by omega) (by omega)
              rw [hu, hv] at hvu
              by_cases hc : u = v
              · have q1 : ((u : Int) != (v : Int)) = false := by rw [hc]; simp
                have HN := Lib.hid (show RowN wr B g n c ys ∧ Turn (fun k => k = g) W wr ∧ CmpI (k + k2 + 1) kk xs ys ∧ k2 < nk from ⟨hr, ht, cmp_skip hI (by rw [HLn.out]; omega) (by rw [show k + k2 - 1 = k + j0 by omega, hu, hv, hc]), hlt⟩)
                clear hr ht hI hu hv hz hvu hc hb hkb hkk1 hkk2 hj0 h1 h2 hlt
                go_wp2_with fail
                go_quiet (fail)
                go_wp2_with fail
                go_roundw
                case rel => exact ⟨kk, k2 + 1, ys, rfl, by go_num, by omega, by have := HN.out; omega, HN.out.1.drewN _, HN.out.2.1.drewN _, HN.out.2.2.1⟩
                case measure => have := HN.out.2.2.2; simp [intOf]; omega
              · have q1 : ((u : Int) != (v : Int)) = true := by simp; omega
                have HN := Lib.hid (show (∀ q, RowN ((wr.drewN q).setCell ⟨g, kk, none⟩ (.int .u64 (u : Nat))) B g n c (ys.set kk u)) ∧ (∀ q, Turn (fun k => k = g) W ((wr.drewN q).setCell ⟨g, kk, none⟩ (.int .u64 (u : Nat)))) ∧ CmpI (k + k2 + 1) (kk + 1) xs (ys.set kk u) ∧ k2 < nk from ⟨fun q => (hr.drewN q).set kk u, fun q => (ht.drewN q).setCell (p := ⟨g, kk, none⟩) rfl _, cmp_keep hI (by rw [HLn.out]; omega) hu (by rw [show k + k2 - 1 = k + j0 by omega, hv]; omega), hlt⟩)
                clear hr ht hI hu hv hz hvu hc hb hkb hkk1 hkk2 hj0 h1 h2 hlt
                go_wp2_with fail
                go_quiet (fail)
                go_wp2_with fail
                go_roundw
                case rel => exact ⟨kk + 1, k2 + 1, ys.set kk u, by go_num, by go_num, by omega, by have := HN.out; omega, HN.out.1 _, HN.out.2.1 _, HN.out.2.2.1⟩
                case measure => have := HN.out.2.2.2; simp [intOf]; omega
            · have t1 : ¬ (k2 : Int) < (nk : Int) := by omega
              obtain ⟨m, hm⟩ : ∃ x, n - kk = x := ⟨_, rfl⟩
              obtain ⟨cm, hcm⟩ : ∃ x, c - kk = x := ⟨_, rfl⟩
              have hcl : ∀ ty, (Builtin.clear_ #[58] ty #[.slice (some ⟨g, kk, none⟩) (n - kk) (c - kk)]).run Tryz.prog wr = .ok (.tuple #[]) (wr.setCells g kk (List.replicate (n - kk) (nu 0))) :=
                fun ty => Lib.run_clear_slice wr 58 23 ty (nu 0) Tryz.underlying58 Tryz.zeroValue23 rfl rfl g kk _ _ (by omega) (fun j hj => by rw [hr.cell (kk + j) (by omega) _ rfl]; rfl) (fun j hj => hr.frozen (kk + j))
              have hkn1 : (kk : Int) ≤ (n : Int) := by omega
              have hkc1 : (kk : Int) ≤ (c : Int) := by omega
              have hend : k + k2 = xs.length := by rw [HLn.out]; omega
              rw [hend] at hI
              have hd := cmp_done hI
              have HS := Lib.hid (show CmpP W g c xs (.returned (.slice (some ⟨g, 0, none⟩) kk c)) (wr.setCells g kk (List.replicate (n - kk) (nu 0))) from ⟨ys.take kk, by rw [hd.2], fun j x hj => by
                have hjl : j < (ys.take kk).length := by
                  rcases Nat.lt_or_ge j (ys.take kk).length with h | h
                  · exact h
                  · rw [List.getElem?_eq_none h] at hj; cases hj
                rw [World.cell?_setCells_out g _ _ _ _ (fun _ _ => .inl (by show j < kk; omega))]
                rw [atN_some hjl] at hj
                exact hr.cell j (by omega) x (by rw [← Option.some.inj hj]; exact (at_take ys kk j (by omega)).symm), turn_cells g _ _ _ ht, hd.1⟩)
              clear hr ht hI hd hend hm hcm
              go_wp2_with fail
              go_ret
              exact HS.out
        · have q1 : ((x : Int) == (y : Int)) = false := by simp; omega
          have HR := Lib.hid (show RowN wr B g n c xs ∧ Turn (fun k => k = g) W wr ∧ Sup (k + 1) xs ∧ k < n from ⟨hr, ht, fun j h0 hj => by
            by_cases e : j = k
            · subst e; rw [hk0, hx, hy]; omega
            · exact hs j h0 (by omega), hlt⟩)
          clear hr ht hs hx hy hc hyx hk0 hb hlt
          go_wp2_with fail
          go_quiet (fail)
          go_wp2_with fail
          go_roundw
          case rel => exact ⟨k + 1, by go_num, by omega, by have := HR.out; omega, HR.out.1.drewN _, HR.out.2.1.drewN _, HR.out.2.2.1⟩
          case measure => have := HR.out.2.2.2; simp [intOf]; omega
      · have t1 : ¬ (k : Int) < (n : Int) := by omega
        obtain rfl : k = n := by omega
        have HS := Lib.hid (cmp_same hr ht hs)
        clear hr ht hs hlt
        go_wp2_with fail
        go_ret
        exact HS.out

end Go.Proofs.YthjikbhjciphiaaGreatDoor
