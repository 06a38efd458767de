/-
  Package line: the fields of a line that fits.
-/
import Derived.Test.YtpjjmnkiepdllaaGreatDoorLiC
namespace Go.Proofs.YtpjjmnkiepdllaaGreatDoor
open Go.RowKit
set_option linter.unusedVariables false
set_option linter.unusedSimpArgs false

theorem FdV.keeps {w w' : World} {v : Value} {f : Fd} (h : FdV w w.heap.size v f) (hk : Keeps w w') : FdV w' w'.heap.size v f := by
  obtain ⟨A, n, c, h1, h2, h3⟩ := h
  exact ⟨A, n, c, h1, (h2.keeps hk).more hk.1, h3⟩
theorem fdV_setCells {w : World} {B g o : Nat} {v : Value} {f : Fd} {cs : List Value} (h : FdV w B v f) (hn : NewV (g + 1) v) : FdV (w.setCells g o cs) B v f := by
  obtain ⟨A, n, c, rfl, h2, h3⟩ := h
  refine ⟨A, n, c, rfl, ⟨h2.1, fun h0 => ?_⟩, h3⟩
  obtain ⟨b, q, rfl, hb, hc⟩ := h2.2 h0
  have hgb : g + 1 ≤ b := hn _ _ _ _ _ rfl
  exact ⟨b, q, rfl, hb, fun j x hx => by
    rw [World.cell?_of_block (w := w) (a := ⟨b, q + j, none⟩) (heap_setCells_other g b (by omega) cs o w)]
    exact hc j x hx⟩

/-- Fields that lie in the block g, made by the call itself. -/
def FdsG (w : World) (g : Nat) (fs : List Fd) : Prop := ∀ (j : Nat) (f : Fd), fs[j]? = some f → ∃ cs : List Value, cs.length = 3 ∧ w.rangeAt g (j * 3) cs ∧ FdV w w.heap.size (.agg cs.toArray) f ∧ NewV (g + 1) (.agg cs.toArray)
theorem FdsG.keeps {w w' : World} {g : Nat} {fs : List Fd} (h : FdsG w g fs) (hk : Keeps w w') : FdsG w' g fs := fun j f hf => by
  obtain ⟨cs, h1, h2, h3, h4⟩ := h j f hf
  exact ⟨cs, h1, rangeAt_keeps h2 hk, h3.keeps hk, h4⟩
theorem FdsG.step {w : World} {g n k : Nat} {fs : List Fd} {f : Fd} {cs : List Value} (h : FdsG w g (fs.take k)) (ht : w.there g 0 (n * 3)) (hk : k < n) (hf : fs[k]? = some f) (hc : cs.length = 3)
    (hv : FdV w w.heap.size (.agg cs.toArray) f) (hn : NewV (g + 1) (.agg cs.toArray)) : FdsG (w.setCells g (k * 3) cs) g (fs.take (k + 1)) := fun j f' hj => by
  have hlt : j < k + 1 := by
    have := (List.getElem?_eq_some_iff.1 hj).1
    rw [List.length_take] at this
    omega
  rw [List.getElem?_take_of_lt hlt] at hj
  rw [setCells_size]
  by_cases e : j = k
  · subst e
    have hff : f = f' := Option.some.inj (hf.symm.trans hj)
    subst hff
    have ht2 := there_part ht (j * 3) cs.length (by omega)
    rw [Nat.zero_add] at ht2
    exact ⟨cs, hc, World.rangeAt_setCells_same w g (j * 3) cs ht2, fdV_setCells hv hn, hn⟩
  · obtain ⟨ds, h1, h2, h3, h4⟩ := h j f' (by rw [List.getElem?_take_of_lt (by omega)]; exact hj)
    exact ⟨ds, h1, World.rangeAt_setCells_apart h2 g (k * 3) cs (.inr (.inl (by omega))), fdV_setCells h3 h4, h4⟩
theorem FdsG.flds {w : World} {g n : Nat} {fs : List Fd} (h : FdsG w g fs) (hl : fs.length = n) (hg : g < w.heap.size) : Flds w w.heap.size (some ⟨g, 0, none⟩) n fs :=
  ⟨hl, fun _ => ⟨g, 0, rfl, hg, fun j f hf => by
    obtain ⟨cs, h1, h2, h3, _⟩ := h j f hf
    exact ⟨cs, h1, by rw [Nat.zero_add]; exact h2, h3⟩⟩⟩
theorem tailW_mem (ws : List (List UInt8)) (w : List UInt8) (h : w ∈ ws) : w.length ≤ (tailW ws).length := by
  induction ws with
  | nil => cases h
  | cons v vs ih =>
    rw [tailW_cons]
    simp only [List.length_cons, List.length_append]
    rcases List.mem_cons.1 h with rfl | h
    · omega
    · have := ih h
      omega
theorem fdV_cells {w : World} {B : Nat} {v : Value} {f : Fd} (h : FdV w B v f) : ∃ cs : List Value, v = .agg cs.toArray ∧ cs.length = 3 ∧ ∀ u ∈ cs, u.oneCell' = true := by
  obtain ⟨A, n, c, rfl, _⟩ := h
  exact ⟨[_, _, _], rfl, rfl, by simp [Value.oneCell']⟩
theorem one_agg3 {cs : List Value} (h : cs.length = 3) : ∃ a b c, cs = [a, b, c] := by
  match cs, h with
  | [a, b, c], _ => exact ⟨a, b, c, rfl⟩

theorem Tryz.infoF : (Tryz.prog.info? 36).map (fun i => (i.zero.isSome, i.size, i.bytes)) = some (true, 3, 48) := by kernel_rfl

set_option maxRecDepth 100000 in
set_option maxHeartbeats 2000000 in
theorem lread_good (s word pat : ByteArray) (hs : s.size ≤ 10000) (hp : pat.size ≤ 10000) (W : World) (hM : MV W) (hN : NV W) (h : lfitsB s.data.toList word.data.toList pat.data.toList = true) :
    Calls Tryz.prog 9 #[.string s, .string word, .string pat] W (ReadOut s.data.toList word.data.toList pat.data.toList W) := by
  obtain ⟨hpat, ws, hwl, hL, _, hsw⟩ := fits_of _ _ _ h
  have hpl : pat.data.toList.length = pat.size := by simp
  have hsl : s.data.toList.length = s.size := by simp
  have hchk : checkE s.data.toList word.data.toList pat.data.toList = pairE pat.data.toList ws := by
    unfold checkE
    rw [h, if_pos rfl, hL]
    rfl
  have hwmx : ∀ w ∈ ws, w.length ≤ 10000 := by
    intro w hw
    have h1 := tailW_mem ws w hw
    have h2 : s.data.toList.length = word.data.toList.length + (tailW ws).length := by
      conv => lhs; rw [hsw]
      rw [List.length_append]
    omega
  have hE : lineE s.data.toList = 0 := by
    have h2 := h
    unfold lfitsB at h2
    simp only [Bool.and_eq_true] at h2
    have h3 := h2.2.1
    unfold lineIs at h3
    unfold lineE
    rw [h3]
    rfl
  have hWd := fun w h => words_any s hs w h
  have hP := fun w => isPattern_any pat w
  rw [hE, hL] at hWd
  rw [hpat] at hP
  have HC := Lib.hid hchk
  have HT : Hid (readL pat.data.toList (lineW s.data.toList).tail = readL pat.data.toList ws) := Lib.hid (by rw [hL]; rfl)
  have HP := Lib.hid (isPat_at _ hpat)
  have HW := Lib.hid hwl
  have HM := Lib.hid hwmx
  have HE := Lib.hid h
  obtain ⟨i0, hi, hz0, hz1, hz2⟩ : ∃ i, Tryz.prog.info? 36 = some i ∧ i.zero.isSome = true ∧ i.size = 3 ∧ i.bytes = 48 := by
    have := Tryz.infoF
    cases hq : Tryz.prog.info? 36 with
    | none => rw [hq] at this; cases this
    | some i => rw [hq] at this; simp at this; exact ⟨i, rfl, this.1, this.2.1, this.2.2⟩
  obtain ⟨z, hz⟩ := Option.isSome_iff_exists.1 hz0
  have HN := Lib.hid hN
  have hdd : (word.toList == word.toList) = true := by simp
  have HWl : Hid (ws.length = pat.size) := Lib.hid (by rw [hwl, hpl])
  clear h hE hL hsw hpat hchk hwl hwmx hsl hpl hz0 hN
  go_enter Tryz.func9, Tryz.ntmps9
  go_wp2_with fail
  refine (hWd _ hM).mono ?_
  rintro e W1 ⟨v1, rfl, A1, n1, c1, rfl, hv1, hb1⟩
  have hn1 : n1 = pat.size + 1 := by have h1 := hv1.1; have h2 := HWl.out; simp [wsV] at h1; omega
  subst hn1
  go_wp2_with fail
  refine (hP _).mono ?_
  rintro e W2 ⟨rfl, hb2⟩
  have hb := bthen hb1 hb2
  have hv2 : Vals W2 W2.heap.size A1 (pat.size + 1) (wsV (word.data.toList :: ws)) := (hv1.below hb2).more hb2.size
  obtain ⟨b, o, x, rfl, hbB, hx, hc⟩ := hv2.at_ (k := 0) (by omega)
  obtain rfl : x = .string word := by simpa [wsV] using hx.symm
  rw [Nat.add_zero] at hc
  have HV := Lib.hid hv2
  clear hb1 hb2 hWd hP hM hv1 hv2 hx
  go_wp2_with (refine wpList_make_there _ rfl _ _ 22 rfl 36 i0 z 3 48 Tryz.underlying22 hi hz hz1 hz2 .i64 .i64 _ _ pat.size rfl rfl rfl rfl (by omega) (by omega) ?_; intro w4 ht4 hb4 hs4)
  obtain ⟨g, hg⟩ : ∃ g, g = W2.heap.size := ⟨_, rfl⟩
  rw [← hg] at ht4 hs4 ⊢
  have HG := Lib.hid (And.intro hg hs4)
  clear hg hs4 hi hz hz1 hz2 hc hbB hdd
  go_loopw [] (fun wr => ∃ pos : Nat, pos ≤ pat.size ∧ wr.heap[(g + 1)]? = some (.stringIter pat pos) ∧ wr.there g 0 (pat.size * 3) ∧ Below W2.heap.size W2 wr ∧ FdsG wr g ((readL pat.data.toList ws).take pos) ∧ Hid (pairE pat.data.toList ws = pairE (pat.data.toList.drop pos) (ws.drop pos)))
    (fun wr => pat.size - wr.iterPos (g + 1))
  case atStart =>
    refine ⟨0, Nat.zero_le _, ?_, World.there_alloc ht4 _, hb4.alloc hb4.size _, ?_, Lib.hid rfl⟩
    · have := World.iter_heap w4 pat 0
      rw [HG.out.2] at this
      simpa using this
    · intro j f hj
      simp at hj
  case round =>
    obtain ⟨pos, hpos, hit, ht, hbw, hfd, HPE⟩ := hrel
    have hsz : (g + 1) < wr.heap.size := (Array.getElem?_eq_some_iff.1 hit).1
    by_cases hp' : pos < pat.size
    · have hnx : ∀ ty, (Instr.next (.pointer (some ⟨(g + 1), 0, none⟩)) true ty).run Tryz.prog wr = _ := fun ty => Lib.run_next_any_at wr (g + 1) pat pos ty hit hp'
      have hit2 := Lib.iterAt_heap wr (g + 1) pat pos (pos + (Utf8.decode pat pos).2) hit
      have hby := byte_at pat pos hp'
      have hsg := HP.out _ _ hby
      have hd := decode_ascii pat pos hp' (sg_low _ hsg)
      obtain ⟨x, hx⟩ : ∃ x, pat[pos]'hp' = x := ⟨_, rfl⟩
      rw [hx] at hby hsg hd
      rw [hd] at hnx hit2
      dsimp only at hnx hit2
      obtain ⟨w, hw⟩ : ∃ w, ws[pos]? = some w := ⟨_, List.getElem?_eq_getElem (by have := HWl.out; omega)⟩
      have hpe := pairE_drop _ _ _ _ _ hby hw
      have hrl := readL_at _ _ _ _ _ hby hw
      have hwm := HM.out w (List.mem_of_getElem? hw)
      have hk2 : Keeps wr (wr.iterAt (g + 1) pat (pos + 1)) := keeps_iterAt hit
      have hb2 : Below W2.heap.size W2 (wr.iterAt (g + 1) pat (pos + 1)) := Lib.below_iterAt hbw (by have := HG.out; omega) pat (pos + 1)
      have ht2 := there_iterAt ht (show g ≠ (g + 1) by have := HG.out; omega) pat (pos + 1)
      have hf2 := hfd.keeps hk2
      generalize wr.iterAt (g + 1) pat (pos + 1) = wr2 at hnx hit2 hk2 hb2 ht2 hf2
      have hvr := HV.out.below hb2
      obtain ⟨b2, o2, y, e2, hb2b, hy, hc2⟩ := hvr.at_ (k := pos + 1) (by omega)
      cases e2
      rw [Nat.add_comm pos 1] at hc2
      obtain rfl : y = .string ⟨w.toArray⟩ := by
        have : (wsV (word.data.toList :: ws))[pos + 1]? = some (Value.string ⟨w.toArray⟩) := by simp [wsV, hw]
        exact Option.some.inj (hy.symm.trans this)
      have HXX := Lib.hid (And.intro hb2 (And.intro ht2 (And.intro hf2 (And.intro hpe (And.intro hrl (And.intro hit2 hk2))))))
      have hRd := fun w0 h => read_any x hsg ⟨w.toArray⟩ (by show w.toArray.size ≤ 10000; simpa using hwm) w0 h
      clear hb2 ht2 hf2 hpe hrl hk2 hit2 hby hd hx hvr hy hb2b ht hbw hfd hw hwm
      go_wp2_with fail
      refine (hRd _ (HN.out.below (bthen hb HXX.out.1))).mono ?_
      rintro e W3 ⟨v, rfl, ⟨f, hfv, hff⟩, hnv, hb3⟩
      obtain ⟨hb2, ht2, hf2, hpe, hrl, hit2, hk2⟩ := HXX.out
      obtain ⟨cs, rfl, hcl, hc1⟩ := fdV_cells hfv
      have hg2 : g < wr2.heap.size := by have := HG.out; have := hb2.size; have := (Array.getElem?_eq_some_iff.1 hit2).1; omega
      have ht3 := there_below ht2 hb3 hg2
      have htp : W3.there g (pos * 3) cs.length := by
        have := there_part ht3 (pos * 3) 3 (by omega)
        rw [Nat.zero_add] at this
        rw [hcl]
        exact this
      have hi3 : (Tryz.prog.info? 36).map (·.size) = some cs.length := by
        rw [hcl]
        kernel_rfl
      have hb23 : Below W2.heap.size W2 W3 := bthen hb2 hb3
      have hb5 : Below W2.heap.size W2 (W3.setCells g (pos * 3) cs) := below_setCells g (by have := HG.out; omega) cs _ _ hb23
      have hit5 : (W3.setCells g (pos * 3) cs).heap[g + 1]? = some (.stringIter pat (pos + 1)) := by
        rw [heap_setCells_other g (g + 1) (by omega)]
        exact (hb3.block (g + 1) (Array.getElem?_eq_some_iff.1 hit2).1).trans hit2
      have HF : Hid (signE x w = 0 → FdsG (W3.setCells g (pos * 3) cs) g ((readL pat.data.toList ws).take (pos + 1))) := Lib.hid (fun h0 =>
        (hf2.keeps (keeps_below hb3)).step ht3 hp' (by rw [hrl, hff h0]) hcl hfv (hnv.mono (by omega)))
      have HY := Lib.hid (And.intro (World.there_setCells ht3 g (pos * 3) cs) (And.intro hb5 (And.intro hit5 hpe)))
      clear hb2 ht2 hf2 hpe hrl hit2 hk2 HXX hfv hcl hff hnv hb3 ht3 hb23 hb5 hit5 hg2 hc2
      obtain ⟨x0, hx0⟩ : ∃ x0, signE x w = x0 := ⟨_, rfl⟩
      rw [hx0]
      have HX0 := Lib.hid hx0
      clear hx0
      go_upto_region 9 with (refine wpList_store_list rfl 36 _ _ rfl g (pos * 3) cs rfl rfl htp hi3 hc1 ?_)
      have hF := HF.out
      obtain ⟨ht6, hb6, hit6, hpe6⟩ := HY.out
      have HI : Hid (pairE pat.data.toList ws = if x0 = 0 then pairE (pat.data.toList.drop (pos + 1)) (ws.drop (pos + 1)) else x0) := Lib.hid (by rw [HPE.out, hpe6, HX0.out])
      rw [HX0.out] at hF
      clear HF HY hpe6 htp hi3 hc1 HX0
      generalize W3.setCells g (pos * 3) cs = w5 at hF ht6 hb6 hit6 ⊢
      by_cases h0 : x0 = 0
      · subst h0
        have HR := Lib.hid (And.intro (hF rfl) (And.intro ht6 (And.intro hb6 hit6)))
        clear hF ht6 hb6 hit6
        go_wp2
        go_roundw
        case rel =>
          obtain ⟨h1, h2, h3, h4⟩ := HR.out
          exact ⟨pos + 1, hp', h4, h2, h3, h1, Lib.hid (by rw [HI.out, if_pos rfl])⟩
        case measure =>
          rw [iterPos_of HR.out.2.2.2, iterPos_of hit]
          omega
      · have d1 : (x0 != 0) = true := by simpa using h0
        have HK : Hid (checkE s.data.toList word.data.toList pat.data.toList = x0 ∧ x0 ≠ 0) := Lib.hid ⟨by rw [HC.out, HI.out, if_neg h0], h0⟩
        have HB := Lib.hid hb6
        clear hF ht6 hb6 hit6 h0
        go_wp2
        go_ret2
        exact readOut_bad HK.out.1 HK.out.2 (bthen hb HB.out)
    · have hnx : ∀ ty, (Instr.next (.pointer (some ⟨(g + 1), 0, none⟩)) true ty).run Tryz.prog wr = _ := fun ty => Lib.run_next_end_at wr (g + 1) pat pos ty hit hp'
      have HR := Lib.hid (And.intro hfd (And.intro hbw (Array.getElem?_eq_some_iff.1 hit).1))
      have hpl : pat.data.toList.length = pat.size := by simp
      have HZ : Hid (checkE s.data.toList word.data.toList pat.data.toList = 0) := Lib.hid (by rw [HC.out, HPE.out]; exact pairE_end _ _ _ (by omega))
      have HL : Hid ((readL pat.data.toList ws).length = pat.size) := Lib.hid (by have := HWl.out; unfold readL; simp; omega)
      clear hfd hbw hit hpl ht
      go_wp2
      go_ret2
      obtain ⟨h1, h2, h3⟩ := HR.out
      rw [List.take_of_length_le (by have := HL.out; omega)] at h1
      refine ⟨some ⟨g, 0, none⟩, pat.size, pat.size, by rw [HZ.out]; rfl, fun hne => absurd HZ.out hne, fun _ => ⟨?_, by simp, Nat.le_refl _, by unfold maxLen; omega⟩, bthen hb h2⟩
      rw [HT.out]
      exact h1.flds HL.out (by omega)

/-- The fields of any line. -/
theorem lread_any (s word pat : ByteArray) (hs : s.size ≤ 10000) (hp : pat.size ≤ 10000) (W : World) (hM : MV W) (hN : NV W) :
    Calls Tryz.prog 9 #[.string s, .string word, .string pat] W (ReadOut s.data.toList word.data.toList pat.data.toList W) := by
  cases h : lfitsB s.data.toList word.data.toList pat.data.toList
  · exact lread_bad s word pat hs hp W hM h
  · exact lread_good s word pat hs hp W hM hN h

end Go.Proofs.YtpjjmnkiepdllaaGreatDoor
