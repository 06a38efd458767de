/-
  The reference's records of segments.
-/
import Derived.Test.YtgococpbhbcpmaaGreatDoorZz25
namespace Go.Proofs.YtgococpbhbcpmaaGreatDoor
open Go.RowKit
set_option linter.unusedVariables false
set_option linter.unusedSimpArgs false

theorem valid_sizes (l : List UInt8) : ∀ b ∈ (validC l).1, b.length ≤ 4096 := by
  suffices h : ∀ n (r : List UInt8), r.length = n → ∀ b ∈ (validC r).1, b.length ≤ 4096 from h l.length l rfl
  intro n
  induction n using Nat.strongRecOn with
  | ind n ih =>
    intro r hr b hb
    by_cases h0 : (headC r).2.2 = 0
    · obtain ⟨h1, h2, h3, h4⟩ := head_size r h0
      have hd : (r.drop (headC r).2.1).length = r.length - (headC r).2.1 := List.length_drop
      rw [valid_go r h0] at hb
      rcases List.mem_cons.1 hb with rfl | hb
      · omega
      · exact ih _ (by omega) (r.drop (headC r).2.1) hd b hb
    · rw [valid_stop r h0] at hb
      cases hb
theorem BytS.low {w : World} {B : Nat} {A : Option Addr} {n : Nat} {l : List UInt8} (h : BytS w (fun k => B ≤ k) A n l) : Byt w B A n l :=
  ⟨h.1, fun hn => by
    obtain ⟨b, o, e, hb, hc⟩ := h.2 hn
    exact ⟨b, o, e, by omega, hc⟩⟩
theorem awaits_nil (r : Rc) : awaits [] r = true := rfl
theorem awaits_snoc (l : List Rc) (q r : Rc) : awaits (l ++ [q]) r = decide (r.seq = (q.seq + 1) % 18446744073709551616) := by unfold awaits; simp
theorem takeR_yes (out : List Rc) (b : List UInt8) (bs : List (List UInt8)) (h1 : recOk b = true) (h2 : awaits out (recP b) = true) : takeR out (b :: bs) = takeR (out ++ [recP b]) bs := by
  show (if recOk b = true ∧ awaits out (recP b) = true then _ else _) = _
  rw [if_pos ⟨h1, h2⟩]
theorem takeR_no (out : List Rc) (b : List UInt8) (bs : List (List UInt8)) (h : recOk b = false ∨ awaits out (recP b) = false) : takeR out (b :: bs) = out := by
  show (if recOk b = true ∧ awaits out (recP b) = true then _ else _) = _
  rw [if_neg]
  rintro ⟨h1, h2⟩
  rcases h with h | h
  · rw [h1] at h; cases h
  · rw [h2] at h; cases h
/-- All bytes of lists. -/
def sumL (l : List (List UInt8)) : Nat := (l.map List.length).sum
theorem segsR_len : ∀ (l : List (List UInt8)) (out : List Rc), (segsR out l).length ≤ out.length + sumL l := by
  intro l
  induction l with
  | nil => intro out; exact Nat.le_refl _
  | cons s l ih =>
    intro out
    show (segsR (takeR out (validC s).1) l).length ≤ _
    have h1 := ih (takeR out (validC s).1)
    have h2 := takeR_len (validC s).1 out
    have h3 := (valid_end s).2
    show _ ≤ out.length + (s.length + sumL l)
    omega
theorem sumL_take (l : List (List UInt8)) (k : Nat) : sumL (l.take k) ≤ sumL l := by
  unfold sumL
  induction l generalizing k with
  | nil => simp
  | cons s l ih =>
    cases k with
    | zero => simp
    | succ k =>
      simp only [List.take_succ_cons, List.map_cons, List.sum_cons]
      have := ih k
      omega
theorem sumL_at (l : List (List UInt8)) (k : Nat) (s : List UInt8) (h : l[k]? = some s) : s.length ≤ sumL l := by
  unfold sumL
  induction l generalizing k with
  | nil => cases h
  | cons t l ih =>
    cases k with
    | zero =>
      simp at h
      subst h
      simp only [List.map_cons, List.sum_cons]
      omega
    | succ k =>
      have := ih k (by simpa using h)
      simp only [List.map_cons, List.sum_cons]
      omega

/-- A list off a row of one's own stays so where the row is appended to. -/
theorem lst_step {w w' : World} {o : Obj} {v v' : Value} {A : Option Addr} {n : Nat} {l : List (List UInt8)} (h : Lst w (fun x => v.ownBlock = some x) A n l) (hg : (w.alloc o).grownBy w' v.ownBlock) (hv : v'.ownBlock = v.ownBlock ∨ v'.ownBlock = some (w.alloc o).heap.size) :
    Lst w' (fun x => v'.ownBlock = some x) A n l := by
  have hsz := hg.size
  simp at hsz
  have h1 : Lst w (fun x => v.ownBlock = some x ∨ w.heap.size ≤ x) A n l := Sls.more h (fun k hk hlt => hk.resolve_right (by omega))
  have h2 : Turn (fun x => v.ownBlock = some x ∨ w.heap.size ≤ x) w w' := by
    refine ⟨hg.os, hg.tape, hg.output, by omega, fun k hk hn => ?_⟩
    exact (hg.block k (by simp; omega) (fun e => hn (.inl e.symm))).trans (Below.heap_alloc _ _ _ hk)
  refine Sls.less (Sls.turn h1 h2) (fun k hk => ?_)
  rcases hv with e | e
  · rw [e] at hk; exact .inl hk
  · rw [e] at hk
    simp at hk
    exact .inr (by omega)

set_option maxRecDepth 100000 in
set_option maxHeartbeats 4000000 in
theorem refRecords_any (A : Option Addr) (n c : Nat) (L : List (List UInt8)) (W : World) (hL : Lst W (fun k => W.heap.size ≤ k) A n L) (hs : sumL L ≤ 100000) (hn : n ≤ 100000) :
    Calls Tryz.prog 12 #[.slice A n c] W fun e W' => ∃ A' k c', e = .returned (.slice A' k c') ∧ Rcs W' (fun _ => False) A' k (segsR [] L) ∧ Below W.heap.size W W' := by
  obtain ⟨i0, hi, hz0, hz1, hz2⟩ := info_parts Tryz.infoRc
  have hLn : L.length = n := by have := hL.1; rwa [bts_len] at this
  have HN := Lib.hid (And.intro hLn (And.intro hs hn))
  have HL := Lib.hid hL
  clear hLn hs
  go_enter Tryz.func12, Tryz.ntmps12
  go_wp2_with fail
  go_loopw [3, 4] (fun v i wr => ∃ k out, k ≤ n ∧ i = .int .i64 (k : Nat) ∧ out = segsR [] (L.take k) ∧ RcsI W v out wr) (fun _ i _ => n - (intOf i).toNat)
  case atStart => exact ⟨0, [], Nat.zero_le _, rfl, rfl, World.ownsRow_nil _ _ _ _, Below.refl _ _⟩
  case round =>
    obtain ⟨k, out, hk, rfl, hout, hI⟩ := hrel
    by_cases hlt : k < n
    · obtain ⟨s, hks⟩ : ∃ s, L[k]? = some s := ⟨_, List.getElem?_eq_getElem (by have := HN.out; omega)⟩
      have hLr := Sls.turn HL.out (show Turn (fun k => W.heap.size ≤ k) W wr from ⟨hI.2.os, hI.2.tape, hI.2.output, hI.2.size, fun k hk hn => hI.2.block k hk⟩)
      obtain ⟨g, o, A2, n2, c2, hAe, _, hgl, hcell, hbs, hnl2, hnc2, hcm2⟩ := Lst.at_ hLr hks
      subst hAe
      have hsl := sumL_at L k s hks
      have hn2 : n2 ≤ 100000 := by have := hbs.1; have := HN.out; omega
      have hby : Byt wr W.heap.size A2 n2 s := hbs.low
      have hV := refValid_off W.heap.size A2 n2 c2 s wr hby hI.2.size (fun h => (hnl2 h).2) hnc2 hcm2 (by omega)
      have hkn : (k : Int) < (n : Int) := by omega
      have HS := Lib.hid (show segsR [] (L.take (k + 1)) = takeR out (validC s).1 by rw [take_snoc13 L k s hks, segsR_snoc, hout])
      have hol : out.length ≤ 100000 := by
        have h1 := segsR_len (L.take k) []
        have h2 := sumL_take L k
        have := HN.out
        rw [hout]
        simp only [List.length_nil] at h1
        omega
      have hvl := (valid_end s).2
      have hvs := valid_sizes s
      have hsl2 : s.length ≤ 100000 := by have := HN.out; omega
      obtain ⟨bs, hbs2⟩ : ∃ x, (validC s).1 = x := ⟨_, rfl⟩
      rw [hbs2] at hV HS hvl hvs
      obtain ⟨e2, he2⟩ : ∃ x, (validC s).2 = x := ⟨_, rfl⟩
      rw [he2] at hV
      have HK := Lib.hid (And.intro hlt (And.intro hol (And.intro hvl (And.intro hsl2 hvs))))
      have HI := Lib.hid hI
      clear hbs2 he2 hlt hk hks hout hsl hbs hby hol hvl hvs hsl2 hI hLr
      go_wp2_with fail
      refine hV.mono ?_
      rintro e w5 ⟨A5, k5, c5, rfl, hB5, hb5⟩
      have hI5 : RcsI W u3 out w5 := ⟨own_below HI.out.1 hb5, HI.out.2.trans (hb5.mono HI.out.2.size)⟩
      have hB6 : Lst w5 (fun x => u3.ownBlock = some x) A5 k5 bs := Sls.less hB5 (fun x hx => HI.out.1.lt x hx)
      have hk5 : bs.length = k5 := by have := hB5.1; rwa [bts_len] at this
      have HI5 := Lib.hid (And.intro hI5 (And.intro hB6 hk5))
      clear hB5 hb5 hI5 hB6 HI hk5 hcell
      obtain ⟨v3, hv3⟩ : ∃ x, u3 = x := ⟨_, rfl⟩
      rw [hv3] at HI5 ⊢
      clear hv3
      go_wp2_with fail
      obtain ⟨w4, rfl⟩ : ∃ w4, w4 = wr := ⟨_, rfl⟩
      go_loopw [3, 7] (fun v i w6 => ∃ (j : Nat) (o2 : List Rc), j ≤ bs.length ∧ i = .int .i64 (j : Nat) ∧ takeR out bs = takeR o2 (bs.drop j) ∧ o2.length ≤ out.length + j ∧ RcsI W v o2 w6 ∧ Lst w6 (fun x => v.ownBlock = some x) A5 k5 bs) (fun _ i _ => k5 - (intOf i).toNat)
      case atStart => exact ⟨0, out, Nat.zero_le _, rfl, rfl, Nat.le_refl _, HI5.out.1, HI5.out.2.1⟩
      case round =>
        obtain ⟨j, o2, hj, rfl, htk, ho2, hI6, hB6⟩ := hrel
        by_cases hjl : j < k5
        · obtain ⟨b, hjb⟩ : ∃ b, bs[j]? = some b := ⟨_, List.getElem?_eq_getElem (by have := HI5.out.2.2; omega)⟩
          obtain ⟨g5, o5, A6, n6, c6, hAe, hS5, hgl5, hcell5, hbs6, hnl6, hnc6, hcm6⟩ := Lst.at_ hB6 hjb
          subst hAe
          have hb4 := HK.out.2.2.2.2 b (List.mem_of_getElem? hjb)
          have hn6 : n6 ≤ 5000 := by have := hbs6.1; omega
          have hRec : Calls Tryz.prog 26 #[.slice A6 n6 c6] wr fun e W' => e = .returned (.tuple #[.agg #[.int .u64 ((recR b).1.seq : Nat), .int .i64 (recR b).1.kind, .string ⟨(recR b).1.ten.toArray⟩, .int .u64 ((recR b).1.lease : Nat), .int .u64 ((recR b).1.n : Nat), .int .u64 ((recR b).1.bits : Nat)], .bool (recR b).2]) ∧ Below wr.heap.size wr W' :=
            refRecord_any wr.heap.size A6 n6 c6 b wr hbs6.byt (Nat.le_refl _) (fun h => (hnl6 h).2) hnc6 hcm6 hn6
          have hjk : (j : Int) < (k5 : Int) := by omega
          have HJ := Lib.hid (show j < k5 ∧ bs.length = k5 from ⟨hjl, HI5.out.2.2⟩)
          have hdr : bs.drop j = b :: bs.drop (j + 1) := by
            obtain ⟨h1, h2⟩ := List.getElem?_eq_some_iff.1 hjb
            rw [List.drop_eq_getElem_cons h1, h2]
          rw [hdr] at htk
          have h60 : j ≤ 100000 := by have := HK.out.2.2; have := HI5.out.2.2; omega
          have HO := Lib.hid (show o2.length ≤ 200000 by have := HK.out.2.1; omega)
          have HO2 := Lib.hid ho2
          have H6 := Lib.hid (And.intro hI6 hB6)
          clear hI6 hB6 hbs6 hnl6 hnc6 hcm6 hb4 hn6 hjl hj ho2 hdr hjb
          obtain ⟨r, hr⟩ : ∃ r, recP b = r := ⟨_, rfl⟩
          by_cases hok : recOk b = true
          · rw [show recR b = (r, true) by unfold recR; rw [if_pos hok, hr]] at hRec
            simp only at hRec
            go_wp2_with fail
            refine hRec.mono ?_
            rintro e w7 ⟨rfl, hb7⟩
            -- ACC
            have H7 := Lib.hid (show RcsI W u3 o2 (w7.alloc (.cells #[.int .u64 (r.seq : Nat), .int .i64 r.kind, .string ⟨r.ten.toArray⟩, .int .u64 (r.lease : Nat), .int .u64 (r.n : Nat), .int .u64 (r.bits : Nat)] 25)) ∧ Lst (w7.alloc (.cells #[.int .u64 (r.seq : Nat), .int .i64 r.kind, .string ⟨r.ten.toArray⟩, .int .u64 (r.lease : Nat), .int .u64 (r.n : Nat), .int .u64 (r.bits : Nat)] 25)) (fun x => u3.ownBlock = some x) (some ⟨g5, o5, none⟩) k5 bs ∧ Blk (w7.alloc (.cells #[.int .u64 (r.seq : Nat), .int .i64 r.kind, .string ⟨r.ten.toArray⟩, .int .u64 (r.lease : Nat), .int .u64 (r.n : Nat), .int .u64 (r.bits : Nat)] 25)) w7.heap.size 25 r.cells from
              ⟨⟨(own_below H6.out.1.1 hb7).alloc _, (H6.out.1.2.trans (hb7.mono H6.out.1.2.size)).alloc (Nat.le_trans H6.out.1.2.size hb7.size) _⟩, Sls.turn H6.out.2 (Turn.of_below (hb7.alloc hb7.size _)), Blk.new w7 _ _ rfl⟩)
            obtain ⟨v3, hv3⟩ : ∃ x, u3 = x := ⟨_, rfl⟩
            rw [hv3] at H7 ⊢
            clear hv3 H6 hS5 hgl5
            obtain ⟨A9, c9, hv9, hR9⟩ := Rcs.of_own (S := fun _ => False) H7.out.1.1 (fun _ h => h.elim)
            subst hv9
            by_cases he : o2.length = 0
            · have ho2 := List.eq_nil_of_length_eq_zero he
              have hz : decide (0 < o2.length) = false := decide_eq_false (by omega)
              have hz' : decide ((0 : Int) < (o2.length : Int)) = false := decide_eq_false (by omega)
              have hRq := hRec
              obtain ⟨W7, hW7⟩ : ∃ x, (w7.alloc (.cells #[.int .u64 (r.seq : Nat), .int .i64 r.kind, .string ⟨r.ten.toArray⟩, .int .u64 (r.lease : Nat), .int .u64 (r.n : Nat), .int .u64 (r.bits : Nat)] 25)) = x := ⟨_, rfl⟩
              rw [hW7] at H7
              have HO0 := Lib.hid (And.intro he ho2)
              clear he ho2
              go_wp2_with fail
              clear hW7
              go_quiet (fail)
              have H8 := Lib.hid (show RcsI W (Value.slice A9 o2.length c9) o2 (W7.drewN nq) ∧ Lst (W7.drewN nq) (fun x => (Value.slice A9 o2.length c9).ownBlock = some x) (some ⟨g5, o5, none⟩) k5 bs ∧ Blk (W7.drewN nq) w7.heap.size 25 r.cells from ⟨⟨H7.out.1.1, below_drewN H7.out.1.2 nq⟩, Sls.turn H7.out.2.1 ((Turn.refl _ _).drewN nq), H7.out.2.2⟩)
              clear H7 hRq
              generalize W7.drewN nq = w8 at H8 ⊢
              have d0 : w8.cell? ⟨w7.heap.size, 0, none⟩ = some (.int .u64 (r.seq : Nat)) := H8.out.2.2.cell 0
              have d1 : w8.cell? ⟨w7.heap.size, 1, none⟩ = some (.int .i64 r.kind) := H8.out.2.2.cell 1
              have d2 : w8.cell? ⟨w7.heap.size, 2, none⟩ = some (.string ⟨r.ten.toArray⟩) := H8.out.2.2.cell 2
              have d3 : w8.cell? ⟨w7.heap.size, 3, none⟩ = some (.int .u64 (r.lease : Nat)) := H8.out.2.2.cell 3
              have d4 : w8.cell? ⟨w7.heap.size, 4, none⟩ = some (.int .u64 (r.n : Nat)) := H8.out.2.2.cell 4
              have d5 : w8.cell? ⟨w7.heap.size, 5, none⟩ = some (.int .u64 (r.bits : Nat)) := H8.out.2.2.cell 5
              have hown8 := H8.out.1.1
              have hsz8 := H8.out.1.2.size
              have hO := HO.out
              have HT := Lib.hid (show takeR out bs = takeR (o2 ++ [r]) (bs.drop (j + 1)) by rw [htk, takeR_yes _ _ _ hok (by rw [hr]; exact (by rw [HO0.out.2]; rfl)), hr])
              clear htk
              go_wp2_with (at_builtin; refine wpList_append_own_at _ rfl _ _ 35 rfl W.heap.size 25 i0 _ 6 56 Tryz.underlying35 hi hz0 hz1 hz2 rfl (by decide) (Value.slice A9 o2.length c9) o2.length (rcCells o2) rfl (hown8.alloc _) ⟨w8.heap.size, 0, none⟩ 1 1 r.cells rfl rfl (fun q u hu => by rw [Addr.add_lit, Nat.zero_add, World.cell?_alloc_new]; simpa [Rc.cells] using hu) (PrtsV.one (w := w8) (S := fun _ => False) (rcP r) r.cells (rcP_cells _ _ r)) (by unfold maxLen; omega) (by omega) (by simp; omega) ?_; intro v9 w9 h9 hg9 hv9; have H9 := Lib.hid (And.intro h9 (And.intro hg9 hv9)); clear h9 hg9 hv9)
              clear d0 d1 d2 d3 d4 d5 hown8 hsz8 hcell5
              go_roundw
              case rel =>
                refine ⟨j + 1, o2 ++ [r], by have := HJ.out; omega, by go_num, HT.out, by have := HO2.out; simp; omega, ⟨?_, ?_⟩, ?_⟩
                · have := H9.out.1
                  rw [rcCells_snoc]
                  simpa using this
                · exact ((H8.out.1.2).alloc H8.out.1.2.size _).grown H9.out.2.1 (by have := H8.out.1.2.size; simp; omega) (fun q hq => (H8.out.1.1.lt q hq).1)
                · exact lst_step H8.out.2.1 H9.out.2.1 H9.out.2.2
              case measure => have := HJ.out; simp [intOf]; omega
            · obtain ⟨l', q, hlq⟩ : ∃ l' q, o2 = l' ++ [q] := ⟨o2.dropLast, o2.getLast (by intro h; rw [h] at he; exact he rfl), (List.dropLast_concat_getLast _).symm⟩
              have hll : l'.length + 1 = o2.length := by rw [hlq]; simp
              have hq : o2[l'.length]? = some q := by rw [hlq]; simp
              have haw : awaits o2 r = decide (r.seq = (q.seq + 1) % 18446744073709551616) := by rw [hlq]; exact awaits_snoc l' q r
              obtain ⟨g9, o9, hA9, _, _, z0, _⟩ := Rcs.at_ hR9 hq
              subst hA9
              obtain ⟨i9, hi9⟩ : ∃ x, l'.length = x := ⟨_, rfl⟩
              rw [hi9] at z0 hll
              have hz : decide (0 < o2.length) = true := decide_eq_true (by omega)
              have hz' : decide ((0 : Int) < (o2.length : Int)) = true := decide_eq_true (by omega)
              have hsub : (o2.length : Int) - 1 = (i9 : Int) := by omega
              have hil : (i9 : Int) < (o2.length : Int) := by omega
              obtain ⟨y, hy⟩ : ∃ y, (q.seq + 1) % 18446744073709551616 = y := ⟨_, rfl⟩
              rw [hy] at haw
              have hwr : IntKind.u64.wrap ((q.seq : Int) + 1) = (y : Int) := by rw [IntKind.wrap_u64]; omega
              have hRq := hRec
              obtain ⟨W7, hW7⟩ : ∃ x, (w7.alloc (.cells #[.int .u64 (r.seq : Nat), .int .i64 r.kind, .string ⟨r.ten.toArray⟩, .int .u64 (r.lease : Nat), .int .u64 (r.n : Nat), .int .u64 (r.bits : Nat)] 25)) = x := ⟨_, rfl⟩
              rw [hW7] at H7 z0
              have d0 : W7.cell? ⟨w7.heap.size, 0, none⟩ = some (.int .u64 (r.seq : Nat)) := H7.out.2.2.cell 0
              have hil2 : i9 < o2.length := by omega
              have hOl : o2.length ≤ 200000 := HO.out
              clear he hlq hq hi9 hll hR9 hy
              by_cases hsq : r.seq = y
              · rw [decide_eq_true hsq] at haw
                have hne : ((r.seq : Int) != (y : Int)) = false := by simp; omega
                have HAW := Lib.hid haw
                clear hsq haw
                go_wp2_with fail
                clear hW7
                go_quiet (fail)
                have H8 := Lib.hid (show RcsI W (Value.slice (some ⟨g9, o9, none⟩) o2.length c9) o2 (W7.drewN nq) ∧ Lst (W7.drewN nq) (fun x => (Value.slice (some ⟨g9, o9, none⟩) o2.length c9).ownBlock = some x) (some ⟨g5, o5, none⟩) k5 bs ∧ Blk (W7.drewN nq) w7.heap.size 25 r.cells from ⟨⟨H7.out.1.1, below_drewN H7.out.1.2 nq⟩, Sls.turn H7.out.2.1 ((Turn.refl _ _).drewN nq), H7.out.2.2⟩)
                clear H7 hRq
                generalize W7.drewN nq = w8 at H8 ⊢
                have d0 : w8.cell? ⟨w7.heap.size, 0, none⟩ = some (.int .u64 (r.seq : Nat)) := H8.out.2.2.cell 0
                have d1 : w8.cell? ⟨w7.heap.size, 1, none⟩ = some (.int .i64 r.kind) := H8.out.2.2.cell 1
                have d2 : w8.cell? ⟨w7.heap.size, 2, none⟩ = some (.string ⟨r.ten.toArray⟩) := H8.out.2.2.cell 2
                have d3 : w8.cell? ⟨w7.heap.size, 3, none⟩ = some (.int .u64 (r.lease : Nat)) := H8.out.2.2.cell 3
                have d4 : w8.cell? ⟨w7.heap.size, 4, none⟩ = some (.int .u64 (r.n : Nat)) := H8.out.2.2.cell 4
                have d5 : w8.cell? ⟨w7.heap.size, 5, none⟩ = some (.int .u64 (r.bits : Nat)) := H8.out.2.2.cell 5
                have hown8 := H8.out.1.1
                have hsz8 := H8.out.1.2.size
                have hO := HO.out
                have HT := Lib.hid (show takeR out bs = takeR (o2 ++ [r]) (bs.drop (j + 1)) by rw [htk, takeR_yes _ _ _ hok (by rw [hr]; exact HAW.out), hr])
                clear htk
                go_wp2_with (at_builtin; refine wpList_append_own_at _ rfl _ _ 35 rfl W.heap.size 25 i0 _ 6 56 Tryz.underlying35 hi hz0 hz1 hz2 rfl (by decide) (Value.slice (some ⟨g9, o9, none⟩) o2.length c9) o2.length (rcCells o2) rfl (hown8.alloc _) ⟨w8.heap.size, 0, none⟩ 1 1 r.cells rfl rfl (fun q u hu => by rw [Addr.add_lit, Nat.zero_add, World.cell?_alloc_new]; simpa [Rc.cells] using hu) (PrtsV.one (w := w8) (S := fun _ => False) (rcP r) r.cells (rcP_cells _ _ r)) (by unfold maxLen; omega) (by omega) (by simp; omega) ?_; intro v9 w9 h9 hg9 hv9; have H9 := Lib.hid (And.intro h9 (And.intro hg9 hv9)); clear h9 hg9 hv9)
                clear d0 d1 d2 d3 d4 d5 hown8 hsz8 hcell5
                go_roundw
                case rel =>
                  refine ⟨j + 1, o2 ++ [r], by have := HJ.out; omega, by go_num, HT.out, by have := HO2.out; simp; omega, ⟨?_, ?_⟩, ?_⟩
                  · have := H9.out.1
                    rw [rcCells_snoc]
                    simpa using this
                  · exact ((H8.out.1.2).alloc H8.out.1.2.size _).grown H9.out.2.1 (by have := H8.out.1.2.size; simp; omega) (fun q hq => (H8.out.1.1.lt q hq).1)
                  · exact lst_step H8.out.2.1 H9.out.2.1 H9.out.2.2
                case measure => have := HJ.out; simp [intOf]; omega
              · rw [decide_eq_false hsq] at haw
                have hne : ((r.seq : Int) != (y : Int)) = true := by simp; omega
                clear hsq
                go_wp2_with fail
                clear hW7
                go_quiet (fail)
                have H8 := Lib.hid (show RcsI W (Value.slice (some ⟨g9, o9, none⟩) o2.length c9) o2 (W7.drewN nq) from ⟨H7.out.1.1, below_drewN H7.out.1.2 nq⟩)
                have HR := Lib.hid (show segsR [] (L.take (k + 1)) = o2 by rw [HS.out, htk, takeR_no _ _ _ (.inr (by rw [hr]; exact haw))])
                clear H7 hRq htk hcell5
                generalize W7.drewN nq = w8 at H8 ⊢
                go_wp2_with fail
                go_roundw
                case rel => exact ⟨k + 1, o2, by have := HK.out.1; omega, by go_num, HR.out.symm, H8.out⟩
                case measure => have := HK.out.1; simp [intOf]; omega
          · have hok' : recOk b = false := by simpa using hok
            rw [show recR b = (zeroR, false) by unfold recR; rw [if_neg hok]] at hRec
            simp only [zeroR] at hRec
            have HR := Lib.hid (show segsR [] (L.take (k + 1)) = o2 by rw [HS.out, htk, takeR_no _ _ _ (.inl hok')])
            clear htk hok hok' hr
            go_wp2_with fail
            refine hRec.mono ?_
            rintro e w7 ⟨rfl, hb7⟩
            have HI7 := Lib.hid (show RcsI W u3 o2 (w7.alloc (.cells zeroR.cells.toArray 25)) from ⟨(own_below H6.out.1.1 hb7).alloc _, (H6.out.1.2.trans (hb7.mono H6.out.1.2.size)).alloc (Nat.le_trans H6.out.1.2.size hb7.size) _⟩)
            obtain ⟨v3, hv3⟩ : ∃ x, u3 = x := ⟨_, rfl⟩
            rw [hv3] at HI7 ⊢
            clear hv3 hcell5
            go_wp2_with fail
            go_quiet (fail)
            have HI8 := Lib.hid (show RcsI W v3 o2 ((w7.alloc (.cells zeroR.cells.toArray 25)).drewN nq) from ⟨HI7.out.1, below_drewN HI7.out.2 nq⟩)
            clear HI7
            go_wp2_with fail
            go_roundw
            case rel => exact ⟨k + 1, o2, by have := HK.out.1; omega, by go_num, HR.out.symm, HI8.out⟩
            case measure => have := HK.out.1; simp [intOf]; omega
        · have hjk : ¬ (j : Int) < (k5 : Int) := by omega
          have HR := Lib.hid (show segsR [] (L.take (k + 1)) = o2 by rw [HS.out, htk, List.drop_of_length_le (by have := HI5.out.2.2; omega)]; rfl)
          have HI6 := Lib.hid hI6
          clear hjl hj htk ho2 hI6 hB6
          go_wp2_with fail
          go_roundw
          case rel => exact ⟨k + 1, o2, by have := HK.out.1; omega, by go_num, HR.out.symm, HI6.out⟩
          case measure => have := HK.out.1; simp [intOf]; omega
    · have hkn : ¬ (k : Int) < (n : Int) := by omega
      have hkk : k = n := by omega
      have HR := Lib.hid (show out = segsR [] L by rw [hout, hkk, List.take_of_length_le (by have := HN.out.1; omega)])
      have HI := Lib.hid hI
      clear hlt hk hkk hout hI
      obtain ⟨v3, hv3⟩ : ∃ x, u3 = x := ⟨_, rfl⟩
      rw [hv3] at HI ⊢
      clear hv3
      go_wp2_with fail
      go_ret
      obtain ⟨A', c', rfl, h2⟩ := Rcs.of_own (S := fun _ => False) HI.out.1 (fun _ h => h.elim)
      exact ⟨A', out.length, ⟨c', rfl⟩, by rw [← HR.out]; exact h2, HI.out.2⟩

end Go.Proofs.YtgococpbhbcpmaaGreatDoor
