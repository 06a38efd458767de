/-
  Package line: the line of fields, where there are as many as signs.
-/
import Derived.Test.YtpjjmnkiepdllaaGreatDoorLiK
import Derived.Test.YtpjjmnkiepdllaaGreatDoorLiH
import Derived.Lib.OwnKind
namespace Go.Proofs.YtpjjmnkiepdllaaGreatDoor
open Go.RowKit
set_option linter.unusedVariables false
set_option linter.unusedSimpArgs false

theorem own_iter {w : World} {base n : Nat} {e : TypeId} {v : Value} {xs : List Value} (h : w.ownsRow base e 1 v n xs) {k : Nat} {s : ByteArray} {p : Nat} (hit : w.heap[k]? = some (.stringIter s p)) (t : ByteArray) (q : Nat) : (w.iterAt k t q).ownsRow base e 1 v n xs := by
  refine h.kept (w' := w.iterAt k t q) (row := some k) ⟨rfl, rfl, rfl, by rw [Lib.iterAt_size]; exact Nat.le_refl _, fun j _ hj => Lib.iterAt_other w k j t q (fun h => hj (by rw [h]))⟩ (Or.inr fun e => ?_)
  obtain ⟨c, fz, hc⟩ := Lib.ownsRow_kind h k e
  rw [hit] at hc
  cases hc
theorem own_not_iter {w : World} {base n : Nat} {e : TypeId} {v : Value} {xs : List Value} (h : w.ownsRow base e 1 v n xs) {k : Nat} {s : ByteArray} {p : Nat} (hit : w.heap[k]? = some (.stringIter s p)) : some k ≠ v.ownBlock := fun e => by
  obtain ⟨c, fz, hc⟩ := Lib.ownsRow_kind h k e.symm
  rw [hit] at hc
  cases hc
theorem textL_small (word pat : List UInt8) (fs : List Fd) (t : List UInt8) (h : t ∈ textL pat fs) : t.length ≤ (lineF word pat fs).length := by
  have := tailW_mem _ _ h
  unfold lineF
  rw [List.length_append]
  omega
theorem writeOut_ok {X : List UInt8} {Y : ByteArray} {W W' : World} (h : ⟨X.toArray⟩ = Y) (hb : Below W.heap.size W W') : WriteOut X 0 W (.returned (.tuple #[.string Y, .int .i64 0])) W' := by
  subst h
  exact ⟨rfl, hb⟩
theorem writeOut_err {X : List UInt8} {x : Int} {W W' : World} (h : x ≠ 0) (hb : Below W.heap.size W W') : WriteOut X x W (.returned (.tuple #[.string ⟨#[]⟩, .int .i64 x])) W' :=
  ⟨by rw [if_neg h], hb⟩
/-- Texts as byte arrays. -/
def bas (L : List (List UInt8)) : List ByteArray := L.map fun l => ⟨l.toArray⟩
theorem bas_back (L : List (List UInt8)) : (bas L).map (fun x => x.data.toList) = L := by
  unfold bas
  rw [List.map_map]
  conv => rhs; rw [← List.map_id L]
  rfl
theorem bas_val (L : List (List UInt8)) : (bas L).map Value.string = wsV L := by
  unfold bas wsV
  rw [List.map_map]
  rfl

set_option maxRecDepth 100000 in
set_option maxHeartbeats 4000000 in
theorem lwrite_good (word pat : ByteArray) (A : Option Addr) (n c : Nat) (fs : List Fd) (W : World) (hfl : Flds W W.heap.size A n fs) (hnp : n = pat.size) (hpat : isPat pat.data.toList = true) (hp : pat.size ≤ 10000)
    (hlen : (lineF word.data.toList pat.data.toList fs).length ≤ 10000) (hd : ∀ f ∈ fs, f.n < 18446744073709551616 ∧ f.data.length ≤ 10000) (hM : MV W) (hN : NV W) :
    Calls Tryz.prog 6 #[.string word, .string pat, .slice A n c] W
      (WriteOut (lineF word.data.toList pat.data.toList fs) (checkE (lineF word.data.toList pat.data.toList fs) word.data.toList pat.data.toList) W) := by
  subst hnp
  obtain ⟨i0, hi, hz0, hz1, hz2⟩ := info_parts Tryz.infoS
  have hP := fun w => isPattern_any pat w
  rw [hpat] at hP
  have HPL : Hid (pat.data.toList.length = pat.size) := Lib.hid (by simp)
  have HFL := Lib.hid hfl
  have HD := Lib.hid hd
  have HLEN := Lib.hid hlen
  have HP := Lib.hid (isPat_at _ hpat)
  have HN := Lib.hid hN
  have HM := Lib.hid hM
  clear hfl hd hlen hpat hN hM
  go_enter Tryz.func6, Tryz.ntmps6
  go_wp2_with fail
  refine (hP _).mono ?_
  rintro e W1 ⟨rfl, hb1⟩
  have hown0 : (W1.alloc (.cells #[.string word] 9)).ownsRow W1.heap.size 9 1 (.slice (some ⟨W1.heap.size, 0, none⟩) 1 1) 1 [.string word] := World.ownsRow_lit W1 #[.string word] 1 (Nat.le_refl _) (by decide) rfl
  have HO := Lib.hid hown0
  clear hown0 hP
  go_wp2
  obtain ⟨g, hg⟩ : ∃ g, g = W1.heap.size := ⟨_, rfl⟩
  have hO := HO.out
  rw [← hg] at hO ⊢
  have HG := Lib.hid hg
  clear hg HO
  go_loopw [8] (fun v wr => ∃ pos : Nat, pos ≤ pat.size ∧ wr.heap[g + 1]? = some (.stringIter pat pos) ∧ wr.ownsRow g 9 1 v (pos + 1) (wsV (word.data.toList :: textL (pat.data.toList.take pos) (fs.take pos))) ∧ Below g W1 wr)
    (fun _ wr => pat.size - wr.iterPos (g + 1))
  case atStart =>
    refine ⟨0, Nat.zero_le _, ?_, ?_, ?_⟩
    · have := World.iter_heap (W1.alloc (.cells #[.string word] 9)) pat 0
      rw [World.size_alloc, ← HG.out] at this
      exact this
    · exact hO.alloc _
    · rw [HG.out]
      exact ((Below.refl _ W1).alloc (Nat.le_refl _) _).alloc (by simp) _
  case round =>
    obtain ⟨pos, hpos, hit, hown, hbw⟩ := hrel
    have hsz : g + 1 < wr.heap.size := (Array.getElem?_eq_some_iff.1 hit).1
    by_cases hp' : pos < pat.size
    · have hnx : ∀ ty, (Instr.next (.pointer (some ⟨(g + 1), 0, none⟩)) true ty).run Tryz.prog wr = _ := fun ty => Lib.run_next_any_at wr (g + 1) pat pos ty hit hp'
      have hit2 := Lib.iterAt_heap wr (g + 1) pat pos (pos + (Utf8.decode pat pos).2) hit
      have hby := byte_at pat pos hp'
      have hsg := HP.out _ _ hby
      have hdd := decode_ascii pat pos hp' (sg_low _ hsg)
      obtain ⟨x, hx⟩ : ∃ x, pat[pos]'hp' = x := ⟨_, rfl⟩
      rw [hx] at hby hsg hdd
      rw [hdd] at hnx hit2
      dsimp only at hnx hit2
      have hb2 : Below g W1 (wr.iterAt (g + 1) pat (pos + 1)) := Lib.below_iterAt hbw (by omega) pat (pos + 1)
      have hown2 := own_iter hown hit pat (pos + 1)
      generalize wr.iterAt (g + 1) pat (pos + 1) = wr2 at hnx hit2 hb2 hown2
      obtain ⟨f, hf⟩ : ∃ f, fs[pos]? = some f := ⟨_, List.getElem?_eq_getElem (by have := HFL.out.1; omega)⟩
      obtain ⟨b, o, rfl, hbB, hfa⟩ := HFL.out.2 (by omega)
      obtain ⟨cs, hcl, hra, hfv⟩ := hfa pos f hf
      have hbw2 : Below W.heap.size W wr2 := bthen hb1 (by rw [← HG.out]; exact hb2)
      have hr := rangeAt_below hra hbw2 hbB
      obtain ⟨y0, y1, y2, rfl⟩ := one_agg3 hcl
      have hq0 : wr2.cell? ⟨b, o + pos * 3, none⟩ = some y0 := hr 0 y0 rfl
      have hq1 : wr2.cell? ⟨b, o + pos * 3 + 1, none⟩ = some y1 := hr 1 y1 rfl
      have hq2 : wr2.cell? ⟨b, o + pos * 3 + 2, none⟩ = some y2 := hr 2 y2 rfl
      have hfd := HD.out f (List.mem_of_getElem? hf)
      have HW : Hid (Calls Tryz.prog 14 #[.int .i32 ((x.toNat : Nat) : Int), .agg #[y0, y1, y2]] wr2 fun e W' => e = .returned (.string ⟨(textF x f).toArray⟩) ∧ Below wr2.heap.size wr2 W') :=
        Lib.hid (written_any x hsg f (.agg #[y0, y1, y2]) wr2 ((hfv.below hbw2).more hbw2.size) hfd.1 hfd.2 (HN.out.below hbw2))
      have HT := Lib.hid (textL_take _ _ pos x f hby hf)
      have HXX := Lib.hid (And.intro hb2 (And.intro hown2 hit2))
      clear hb2 hown2 hit2 hbw2 hr hra hfv hfa hfd hf hby hsg hx hdd hown hbw hcl
      go_wp2_with fail
      refine HW.out.mono ?_
      rintro e W3 ⟨rfl, hb3⟩
      obtain ⟨T, hT⟩ : ∃ T : ByteArray, ⟨(textF x f).toArray⟩ = T := ⟨_, rfl⟩
      rw [hT]
      obtain ⟨hb2, hown2, hit2⟩ := HXX.out
      have hs2 := hb2.size
      have hown3 := own_below hown2 (hb3.mono (Nat.le_refl _))
      have hit3 := (hb3.block (g + 1) (Array.getElem?_eq_some_iff.1 hit2).1).trans hit2
      have hb13 : Below g W1 W3 := hb2.trans (hb3.mono (by have := (Array.getElem?_eq_some_iff.1 hit2).1; omega))
      have hgs : g + 1 < W3.heap.size := (Array.getElem?_eq_some_iff.1 hit3).1
      have hni := own_not_iter hown3 hit3
      have HE := Lib.hid (And.intro hit3 (And.intro hb13 (And.intro hni hT)))
      clear hb2 hown2 hit2 HXX hb3 hs2 hit3 hb13 hni hT HW hq0 hq1 hq2
      go_wp2_with (at_builtin; refine wpList_append_vals _ rfl _ _ 41 rfl g 9 i0 (.string ⟨#[]⟩) 16 Tryz.underlying41 hi hz0 hz1 hz2 rfl _ _ _ rfl (hown3.alloc _) (W3.heap.size + 1) _ 1 1 [.string T] rfl ?c1 ?c2 ?c3 ?c4 ?c5 ?c6 ?_)
      case c1 => exact Vals.one _ _ _ rfl _
      case c2 => intro h; cases h
      case c3 => intro u hu; simp at hu; subst hu; rfl
      case c4 => omega
      case c5 => omega
      case c6 => simp; omega
      intro v' w4 hown4 hgrow
      obtain ⟨hit3, hb13, hni, hT⟩ := HE.out
      have hb14 := own_step hb13 (by rw [HG.out]; exact Nat.le_refl _) hown3 hgrow
      have hit4 : w4.heap[g + 1]? = some (.stringIter pat (pos + 1)) := (hgrow.block (g + 1) (by simp; omega) hni).trans ((heap_alloc_old W3 _ hgs).trans hit3)
      have HO := Lib.hid hown4
      have HB := Lib.hid hb14
      have HI := Lib.hid hit4
      clear hown4 hb14 hit4 hgrow hown3 hit3 hb13 hni hT
      go_wp2
      go_roundw
      case rel =>
        refine ⟨pos + 1, hp', HI.out, ?_, HB.out⟩
        have hT := HE.out.2.2.2
        rw [HT.out, ← List.cons_append, wsV_snoc, hT]
        exact HO.out
      case measure =>
        rw [iterPos_of HI.out, iterPos_of hit]
        omega
    · have hnx : ∀ ty, (Instr.next (.pointer (some ⟨(g + 1), 0, none⟩)) true ty).run Tryz.prog wr = _ := fun ty => Lib.run_next_end_at wr (g + 1) pat pos ty hit hp'
      have hown1 : wr.ownsRow g 9 1 u8 (pat.size + 1) (wsV (word.data.toList :: textL pat.data.toList fs)) := by
        have h1 : pos = pat.size := by omega
        subst h1
        rw [List.take_of_length_le (by rw [HPL.out]; exact Nat.le_refl _), List.take_of_length_le (by rw [HFL.out.1]; exact Nat.le_refl _)] at hown
        exact hown
      obtain ⟨A8, c8, rfl, hn8, hl8, hm8⟩ := own_form hown1
      have hv8 := Vals.of_own hown1
      obtain ⟨b8, o8, rfl, hb8, hc8⟩ := hv8.2 (by omega)
      have hlenb : (bas (word.data.toList :: textL pat.data.toList fs)).length = pat.size + 1 := by
        have := hv8.1
        rw [← bas_val, List.length_map] at this
        exact this
      have hJ := Tryz.strings_Join b8 o8 c8 (bas (word.data.toList :: textL pat.data.toList fs)) ⟨#[32]⟩ wr (fun j x hx => hc8 j _ (by rw [← bas_val, List.getElem?_map, hx]; rfl)) hb8 (by rw [hlenb]; omega) (by rw [hlenb]; omega)
        (by
          rw [bas_back]
          show (Lib.join (word.data.toList :: textL pat.data.toList fs) [32]).length ≤ _
          rw [join_line]
          have := HLEN.out
          unfold lineF at this
          omega)
      rw [hlenb, bas_back] at hJ
      rw [show (⟨#[32]⟩ : ByteArray).data.toList = [32] from rfl, join_line] at hJ
      have hJ2 : Calls Tryz.prog 15 #[.slice (some ⟨b8, o8, none⟩) (pat.size + 1) c8, .string ⟨#[32]⟩] wr fun e w' => e = .returned (.string ⟨(lineF word.data.toList pat.data.toList fs).toArray⟩) ∧ Below wr.heap.size wr w' := hJ
      have HJ := Lib.hid hJ2
      have HBW : Hid (Below W.heap.size W wr) := Lib.hid (bthen hb1 (by rw [← HG.out]; exact hbw))
      clear hJ hJ2 hc8 hb8 hv8 hown1 hown hit hbw hn8 hl8 hm8 hlenb hO
      go_wp2_with fail
      refine HJ.out.mono ?_
      rintro e W5 ⟨rfl, hb5⟩
      have hb15 := bthen HBW.out hb5
      obtain ⟨X, hX⟩ : ∃ X : ByteArray, ⟨(lineF word.data.toList pat.data.toList fs).toArray⟩ = X := ⟨_, rfl⟩
      have hXL : X.data.toList = lineF word.data.toList pat.data.toList fs := by rw [← hX]
      rw [hX]
      have hXs : X.size ≤ 10000 := by
        have h1 : X.data.toList.length = X.size := by simp
        rw [← h1, hXL]
        exact HLEN.out
      have hR := lread_any X word pat hXs hp W5 (HM.out.below hb15) (HN.out.below hb15)
      obtain ⟨x0, hx0⟩ : ∃ x0, checkE (lineF word.data.toList pat.data.toList fs) word.data.toList pat.data.toList = x0 := ⟨_, rfl⟩
      have HX := Lib.hid hX
      have HXL := Lib.hid hXL
      have HX0 := Lib.hid hx0
      have HB := Lib.hid hb15
      clear hX hXL hx0 hb15 hb5 HJ HBW
      go_wp2_with fail
      refine hR.mono ?_
      rintro e W6 ⟨A6, n6, c6, he, _, _, hb6⟩
      rw [HXL.out, HX0.out] at he
      subst he
      have hbf := bthen HB.out hb6
      clear hR hb6
      by_cases h0 : x0 = 0
      · subst h0
        go_wp2_with fail
        go_ret2
        rw [HX0.out]
        exact writeOut_ok HX.out hbf
      · have d1 : (x0 != 0) = true := by simpa using h0
        have H0 := Lib.hid h0
        clear h0
        go_wp2_with fail
        go_ret2
        rw [HX0.out]
        exact writeOut_err H0.out hbf

end Go.Proofs.YtpjjmnkiepdllaaGreatDoor
