/-
  The reference's words of a line; two lists of texts.
-/
import Derived.Test.YtpjjmnkiepdllaaGreatDoorNaV
import Derived.Test.YtpjjmnkiepdllaaGreatDoorNaR
import Derived.Laws.Concat
import Derived.Laws.DeepStrings4
namespace Go.Proofs.YtpjjmnkiepdllaaGreatDoor
open Go.RowKit
set_option linter.unusedVariables false
set_option linter.unusedSimpArgs false

theorem Tryz.infoS : (Tryz.prog.info? 9).map (fun i => (i.zero, i.size, i.bytes)) = some (some (.string ⟨#[]⟩), 1, 16) := by kernel_rfl

/-- Where the reference's loop stands: the words ahead, a word's beginning, what is left. -/
def RefW (l : List UInt8) (base : Nat) (W : World) (v X iv : Value) (wr : World) : Prop :=
  ∃ (i : Nat) (out : List (List UInt8)) (w : List UInt8), iv = .int .i64 (i : Int) ∧ X = .string ⟨w.toArray⟩ ∧ w.length ≤ i ∧ out.length ≤ i ∧ i ≤ l.length + 1 ∧
    ((i ≤ l.length ∧ wordsR [] [] l = wordsR w out (l.drop i)) ∨ (i = l.length + 1 ∧ wordsR [] [] l = some out)) ∧
    wr.ownsRow base 9 1 v out.length (wsV out) ∧ Below base W wr

def lineIs (l : List UInt8) : Bool := (wordsL l).isSome
theorem lineIs_of (l : List UInt8) (h : l ≠ []) (L : Option (List (List UInt8))) (e : wordsR [] [] l = L) : lineIs l = L.isSome ∧ lineW l = L.getD [] := by
  have : wordsL l = L := by unfold wordsL; rw [if_neg h, e]
  unfold lineIs lineW
  rw [this]
  exact ⟨rfl, rfl⟩
theorem wsV_snoc (out : List (List UInt8)) (w : List UInt8) : wsV (out ++ [w]) = wsV out ++ [.string ⟨w.toArray⟩] := by simp [wsV]
theorem wordsR_at (l : List UInt8) (i : Nat) (c : UInt8) (h : l[i]? = some c) (w : List UInt8) (out : List (List UInt8)) :
    wordsR w out (l.drop i) = if c.toNat = 32 then (if w = [] then none else wordsR [] (out ++ [w]) (l.drop (i + 1))) else if c.toNat < 32 then none else wordsR (w ++ [c]) out (l.drop (i + 1)) := by
  have hlt := (List.getElem?_eq_some_iff.1 h).1
  have he : l[i] = c := (List.getElem?_eq_some_iff.1 h).2
  rw [List.drop_eq_getElem_cons hlt, he, wordsR_cons]

theorem slice_byte {P : Program} (w : World) (t : TypeId) (s : ByteArray) (i : Nat) (c : UInt8) (hc : s.data.toList[i]? = some c) (h : P.underlying t = some .string) :
    (Instr.slice t (.string s) (some (.int .i64 (i : Int))) (some (.int .i64 ((i : Int) + 1))) none).run P w = .ok (.string ⟨[c].toArray⟩) w := by
  have hlt := (List.getElem?_eq_some_iff.1 hc).1
  have hlen : s.data.toList.length = s.size := by simp
  rw [run_slice_string_if w t _ _ _ _ _ h, if_pos ⟨by omega, by omega⟩, if_pos ⟨by omega, by omega⟩]
  rw [show ((i : Int)).toNat = i by omega, show ((i : Int) + 1).toNat = i + 1 by omega]
  have e : s.extract i (i + 1) = ⟨[c].toArray⟩ := by
    have h1 : (s.extract i (i + 1)).data.toList = [c] := by
      have h2 : (s.extract i (i + 1)).data.toList = (s.data.toList.drop i).take 1 := by
        have e2 : (s.extract i (i + 1)).data = s.data.extract i (i + 1) := by simp
        rw [e2, Array.toList_extract, List.extract_eq_take_drop, show i + 1 - i = 1 by omega]
      rw [h2, List.drop_eq_getElem_cons hlt, List.take_succ_cons, List.take_zero, (List.getElem?_eq_some_iff.1 hc).2]
    cases hx : s.extract i (i + 1) with
    | mk d =>
      rw [hx] at h1
      rw [← h1]
  rw [e]

set_option maxRecDepth 100000 in
set_option maxHeartbeats 4000000 in
theorem refWords_full (s : ByteArray) (hs : s.size ≤ 10000) (hne : s.data.toList ≠ []) (W : World) :
    Calls Tryz.prog 17 #[.string s] W fun e W' => ∃ v, e = .returned (.tuple #[v, .bool (lineIs s.data.toList)]) ∧ WordsPost (lineW s.data.toList) W v W' := by
  obtain ⟨i0, hi, hz0, hz1, hz2⟩ := info_parts Tryz.infoS
  have e0 : (s.toList == []) = false := by rw [ByteArray.toList_eq]; simpa using hne
  have hlen : s.data.toList.length = s.size := by simp
  have HLEN := Lib.hid hlen
  have HNE := Lib.hid hne
  clear hlen hne
  go_enter Tryz.func17, Tryz.ntmps17
  go_wp2
  go_loopw [4, 5, 6] (fun v X iv wr => RefW s.data.toList W.heap.size W v X iv wr) (fun _ _ iv _ => s.size + 1 - (intOf iv).toNat)
  case atStart => exact ⟨0, [], [], rfl, rfl, Nat.zero_le _, Nat.zero_le _, by omega, .inl ⟨Nat.zero_le _, by simp⟩, World.ownsRow_nil _ _ _ _, Below.refl _ _⟩
  case round =>
    obtain ⟨i, out, w, rfl, rfl, hwi, hoi, hil, hcase, hown, hb⟩ := hrel
    have hln := HLEN.out
    have hss := hb.size
    rcases hcase with ⟨hi1, hR⟩ | ⟨hi1, hR⟩
    · have d1 : decide ((i : Int) ≤ (s.size : Int)) = true := decide_eq_true (by omega)
      have hni : (i : Int) ≤ (s.size : Int) := by omega
      obtain ⟨X, hX⟩ : ∃ X : ByteArray, ⟨w.toArray⟩ = X := ⟨_, rfl⟩
      have hXL : X.toList = w := by rw [ByteArray.toList_eq, ← hX]
      rw [hX]
      by_cases hin : i = s.size
      · have d2 : ((i : Int) == (s.size : Int)) = true := by simp; omega
        have hdr : s.data.toList.drop i = [] := List.drop_eq_nil_of_le (by omega)
        rw [hdr] at hR
        by_cases hw : w = []
        · have eX : (X.toList == []) = true := by rw [hXL, hw]; rfl
          have HF := Lib.hid (lineIs_of _ HNE.out _ (hR.trans (show wordsR w out [] = none by rw [hw]; rfl)))
          clear hR hdr hin hX hXL hw hown hil hi1 hln
          go_wp2
          go_ret2
          exact ⟨_, by rw [HF.out.1]; rfl, none, 0, 0, rfl, by rw [HF.out.2]; exact Vals.nil, hb⟩
        · have eX : (X.toList == []) = false := by rw [hXL]; simpa using hw
          have HR : Hid (wordsR [] [] s.data.toList = some (out ++ [w])) := Lib.hid (hR.trans (by unfold wordsR; rw [if_neg hw]))
          have HX := Lib.hid hX
          have HB := Lib.hid (show i = s.size ∧ out.length ≤ i ∧ i ≤ 10000 from ⟨hin, hoi, by omega⟩)
          clear hR hdr hin hX hXL hw hil hi1 hln hwi hoi
          go_wp2_with (at_builtin; refine wpList_append_vals _ rfl _ _ 41 rfl W.heap.size 9 i0 (.string ⟨#[]⟩) 16 Tryz.underlying41 hi hz0 hz1 hz2 rfl _ _ _ rfl (hown.alloc _) (wr.heap.size + 1) _ 1 1 [.string X] rfl ?c1 ?c2 ?c3 ?c4 ?c5 ?c6 ?_)
          case c1 => exact Vals.one _ _ _ rfl _
          case c2 => intro h; cases h
          case c3 => intro u hu; simp at hu; subst hu; rfl
          case c4 => have := HB.out; omega
          case c5 => have := HB.out; omega
          case c6 => simp; omega
          intro v' w3 hown' hgrow
          have hb' := own_step hb (Nat.le_refl _) hown hgrow
          have HO := Lib.hid hown'
          clear hown hgrow hb hown'
          go_wp2
          go_roundw
          case rel =>
            have hB := HB.out
            have hln := HLEN.out
            refine ⟨i + 1, out ++ [w], [], by go_num, rfl, by simp, by simp; omega, by omega, .inr ⟨by omega, HR.out⟩, ?_, hb'⟩
            rw [wsV_snoc, HX.out, List.length_append]
            exact HO.out
          case measure => simp [intOf]; have := HB.out; omega
      · have d2 : ((i : Int) == (s.size : Int)) = false := by simp; omega
        have hlt : i < s.size := by omega
        have hby := byte_at s i hlt
        obtain ⟨c, hc⟩ : ∃ c, s[i]'hlt = c := ⟨_, rfl⟩
        rw [hc] at hby
        rw [wordsR_at _ i c hby] at hR
        have hlt2 : (i : Int) < (s.size : Int) := by omega
        by_cases h32 : c.toNat = 32
        · have d3 : (((c.toNat : Nat) : Int) == 32) = true := by simp; omega
          rw [if_pos h32] at hR
          by_cases hw : w = []
          · have eX : (X.toList == []) = true := by rw [hXL, hw]; rfl
            rw [if_pos hw] at hR
            have HF := Lib.hid (lineIs_of _ HNE.out _ hR)
            clear hR hin hX hXL hw hown hil hi1 hln h32 hby
            go_wp2
            go_ret2
            exact ⟨_, by rw [HF.out.1]; rfl, none, 0, 0, rfl, by rw [HF.out.2]; exact Vals.nil, hb⟩
          · have eX : (X.toList == []) = false := by rw [hXL]; simpa using hw
            rw [if_neg hw] at hR
            have HR := Lib.hid hR
            have HX := Lib.hid hX
            have HB := Lib.hid (show i < s.size ∧ out.length ≤ i ∧ i ≤ 10000 from ⟨hlt, hoi, by omega⟩)
            clear hR hin hX hXL hw hil hi1 hln hwi hoi h32 hby
            go_wp2_with (at_builtin; refine wpList_append_vals _ rfl _ _ 41 rfl W.heap.size 9 i0 (.string ⟨#[]⟩) 16 Tryz.underlying41 hi hz0 hz1 hz2 rfl _ _ _ rfl (hown.alloc _) (wr.heap.size + 1) _ 1 1 [.string X] rfl ?c1 ?c2 ?c3 ?c4 ?c5 ?c6 ?_)
            case c1 => exact Vals.one _ _ _ rfl _
            case c2 => intro h; cases h
            case c3 => intro u hu; simp at hu; subst hu; rfl
            case c4 => have := HB.out; omega
            case c5 => have := HB.out; omega
            case c6 => simp; omega
            intro v' w3 hown' hgrow
            have hb' := own_step hb (Nat.le_refl _) hown hgrow
            have HO := Lib.hid hown'
            clear hown hgrow hb hown'
            go_wp2
            go_roundw
            case rel =>
              have hB := HB.out
              have hln := HLEN.out
              refine ⟨i + 1, out ++ [w], [], by go_num, rfl, by simp, by simp; omega, by omega, .inl ⟨by omega, HR.out⟩, ?_, hb'⟩
              rw [wsV_snoc, HX.out, List.length_append]
              exact HO.out
            case measure => simp [intOf]; have := HB.out; omega
        · have d3 : (((c.toNat : Nat) : Int) == 32) = false := by simp; omega
          rw [if_neg h32] at hR
          by_cases hl : c.toNat < 32
          · have d4 : decide (((c.toNat : Nat) : Int) < 32) = true := decide_eq_true (by omega)
            rw [if_pos hl] at hR
            have HF := Lib.hid (lineIs_of _ HNE.out _ hR)
            clear hR hin hX hXL hown hil hi1 hln h32 hby hl
            go_wp2
            go_ret2
            exact ⟨_, by rw [HF.out.1]; rfl, none, 0, 0, rfl, by rw [HF.out.2]; exact Vals.nil, hb⟩
          · have d4 : decide (((c.toNat : Nat) : Int) < 32) = false := decide_eq_false (by omega)
            rw [if_neg hl] at hR
            have hsl := fun W2 => slice_byte (P := Tryz.prog) W2 9 s i c hby Tryz.underlying9
            have hadd := fun W2 => add_texts (P := Tryz.prog) w [c] (w ++ [c]) rfl (by omega) (by simp) W2
            obtain ⟨Y, hY⟩ : ∃ Y : ByteArray, ⟨[c].toArray⟩ = Y := ⟨_, rfl⟩
            obtain ⟨Z, hZ⟩ : ∃ Z : ByteArray, ⟨(w ++ [c]).toArray⟩ = Z := ⟨_, rfl⟩
            rw [hY] at hsl
            rw [hX, hY, hZ] at hadd
            have HZ := Lib.hid hZ
            have HR := Lib.hid hR
            have HO := Lib.hid (show wr.ownsRow W.heap.size 9 1 _ out.length (wsV out) ∧ Below W.heap.size W wr from ⟨hown, hb⟩)
            have HB := Lib.hid (show i < s.size ∧ w.length ≤ i ∧ out.length ≤ i ∧ i ≤ 10000 from ⟨hlt, hwi, hoi, by omega⟩)
            clear hR hin hX hXL hown hb hil hi1 hln h32 hby hl hY hZ hwi hoi
            go_wp2
            go_roundw
            case rel =>
              have hB := HB.out
              have hln := HLEN.out
              exact ⟨i + 1, out, w ++ [c], by go_num, by rw [HZ.out], by simp; omega, by omega, by omega, .inl ⟨by omega, HR.out⟩, HO.out.1, HO.out.2⟩
            case measure => simp [intOf]; have := HB.out; omega
    · have d1 : decide ((i : Int) ≤ (s.size : Int)) = false := decide_eq_false (by omega)
      have hni : ¬ (i : Int) ≤ (s.size : Int) := by omega
      have HF := Lib.hid (lineIs_of _ HNE.out _ hR)
      obtain ⟨A, c, rfl, _⟩ := own_form hown
      have HV := Lib.hid (Vals.of_own hown)
      clear hown hR hil hi1 hln
      go_wp2
      go_ret2
      exact ⟨_, by rw [HF.out.1]; rfl, A, _, c, rfl, by rw [HF.out.2]; exact HV.out, hb⟩

set_option maxRecDepth 100000 in
theorem refWords_any (s : ByteArray) (hs : s.size ≤ 10000) (W : World) :
    Calls Tryz.prog 17 #[.string s] W fun e W' => ∃ v, e = .returned (.tuple #[v, .bool (lineIs s.data.toList)]) ∧ WordsPost (lineW s.data.toList) W v W' := by
  by_cases hne : s.data.toList = []
  · have e0 : (s.toList == []) = true := by rw [ByteArray.toList_eq, hne]; rfl
    have HF : Hid (lineIs s.data.toList = true ∧ lineW s.data.toList = []) := Lib.hid (by rw [hne]; exact ⟨rfl, rfl⟩)
    clear hne
    go_enter Tryz.func17, Tryz.ntmps17
    go_wp2
    go_ret2
    exact ⟨_, by rw [HF.out.1]; rfl, none, 0, 0, rfl, by rw [HF.out.2]; exact Vals.nil, Below.refl _ _⟩
  · exact refWords_full s hs hne W

end Go.Proofs.YtpjjmnkiepdllaaGreatDoor
