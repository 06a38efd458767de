/-
  The law LineReads.
-/
import Derived.Test.YtpjjmnkiepdllaaDoorLiI
namespace Go.Proofs.YtpjjmnkiepdllaaDoor
open Go.RowKit
set_option linter.unusedVariables false
set_option linter.unusedSimpArgs false

theorem bytesL_len (l : List UInt8) : (bytesL l).length ≤ l.length := by
  unfold bytesL
  split
  · unfold unhex
    rw [outL_len]
    omega
  · simp
theorem readL_small (pat : List UInt8) : ∀ ws : List (List UInt8), (∀ w ∈ ws, w.length ≤ 10000) → ∀ f ∈ readL pat ws, f.n < 18446744073709551616 ∧ f.data.length ≤ 10000 := by
  induction pat with
  | nil => intro ws _ f hf; cases hf
  | cons c p ih =>
    intro ws hw f hf
    cases ws with
    | nil => cases hf
    | cons w ws =>
      have hf2 : f ∈ readF c w :: readL p ws := hf
      rcases List.mem_cons.1 hf2 with rfl | h
      · have h1 := numV_max w
        have h2 := bytesL_len w
        have h3 := hw w (by simp)
        unfold readF
        split
        · exact ⟨by simp, by simp⟩
        · split
          · exact ⟨by show numV w < _; omega, by simp⟩
          · exact ⟨by simp, by show (bytesL w).length ≤ _; omega⟩
      · exact ih ws (fun v hv => hw v (by simp [hv])) f h
theorem text_of (s : ByteArray) (l : List UInt8) (h : l = s.data.toList) : (⟨l.toArray⟩ : ByteArray) = s := by
  subst h
  rfl

set_option maxRecDepth 100000 in
set_option maxHeartbeats 4000000 in
theorem lineReads_law (s word pat : ByteArray) (W : World) (hs : s.size ≤ maxLen) (hw : word.size ≤ maxLen) (hp : pat.size ≤ maxLen) (hM : MV W) (hN : NV W) :
    Calls Tryd.prog 3 #[.string s, .string word, .string pat] W fun e W' => e = .returned (.bool true) ∧ Below W.heap.size W W' := by
  unfold maxLen at hs hw hp
  by_cases h300 : 300 < s.size
  · have d1 : decide ((300 : Int) < (s.size : Int)) = true := decide_eq_true (by omega)
    go_enter Tryd.func3, Tryd.ntmps3
    go_wp2_with fail
    refine (awake8_any _ hM hN).mono ?_
    rintro e W1 ⟨rfl, hb1⟩
    go_wp2_with fail
    go_ret
    exact ⟨rfl, hb1⟩
  have d1 : decide ((300 : Int) < (s.size : Int)) = false := decide_eq_false (by omega)
  by_cases h100 : 100 < word.size
  · have d2 : decide ((100 : Int) < (word.size : Int)) = true := decide_eq_true (by omega)
    go_enter Tryd.func3, Tryd.ntmps3
    go_wp2_with fail
    refine (awake8_any _ hM hN).mono ?_
    rintro e W1 ⟨rfl, hb1⟩
    go_wp2_with fail
    go_ret
    exact ⟨rfl, hb1⟩
  have d2 : decide ((100 : Int) < (word.size : Int)) = false := decide_eq_false (by omega)
  by_cases h20 : 20 < pat.size
  · have d3 : decide ((20 : Int) < (pat.size : Int)) = true := decide_eq_true (by omega)
    go_enter Tryd.func3, Tryd.ntmps3
    go_wp2_with fail
    refine (awake8_any _ hM hN).mono ?_
    rintro e W1 ⟨rfl, hb1⟩
    go_wp2_with fail
    go_ret
    exact ⟨rfl, hb1⟩
  have d3 : decide ((20 : Int) < (pat.size : Int)) = false := decide_eq_false (by omega)
  have hR := lread_any s word pat (by omega) (by omega) W hM hN
  have hC := fun w => refCheck_any s word pat (by omega) (by omega) w
  have HS : Hid (s.size ≤ 300 ∧ pat.size ≤ 20) := Lib.hid ⟨by omega, by omega⟩
  clear h300 h100 h20
  obtain ⟨x, hx⟩ : ∃ x, checkE s.data.toList word.data.toList pat.data.toList = x := ⟨_, rfl⟩
  rw [hx] at hC
  have HX := Lib.hid hx
  clear hx
  by_cases h0 : x = 0
  · subst h0
    go_enter Tryd.func3, Tryd.ntmps3
    go_wp2_with fail
    refine hR.mono ?_
    rintro e W1 ⟨A, n, c, he, _, hok, hb1⟩
    rw [HX.out] at he
    subst he
    obtain ⟨hfl, hn, _, _⟩ := hok HX.out
    have hpl : pat.data.toList.length = pat.size := by simp
    rw [hpl] at hn
    subst hn
    have HF := Lib.hid hfl
    have hM1 := hM.below hb1
    have hN1 := hN.below hb1
    clear hR hok hfl hpl hM hN
    go_wp2_with fail
    refine (hC _).mono ?_
    rintro e W2 ⟨rfl, hb2⟩
    have hM2 := hM1.below hb2
    have hN2 := hN1.below hb2
    have hb12 := bthen hb1 hb2
    have hlr := line_read _ _ _ HX.out
    have hL := refLine_any word pat A pat.size c (readL pat.data.toList (lineW s.data.toList).tail) W2 ((HF.out.below hb2).more hb2.size) rfl (by have := HS.out; omega)
      (by rw [hlr]; have := HS.out; simp; omega)
      (readL_small _ _ (fun w hw => by
        obtain ⟨h1, _⟩ := check_zero _ _ _ HX.out
        obtain ⟨_, ws, _, h5, _, h7⟩ := fits_of _ _ _ h1
        rw [h5, List.tail_cons] at hw
        have h8 := tailW_mem ws w hw
        have h9 : s.data.toList.length = word.data.toList.length + (tailW ws).length := by
          conv => lhs; rw [h7]
          rw [List.length_append]
        have h10 : s.data.toList.length = s.size := by simp
        have := HS.out
        omega))
    rw [text_of s _ hlr] at hL
    have hss : (s.toList == s.toList) = true := by simp
    clear hlr hM1 hN1 hb1 hb2 hC
    go_wp2_with fail
    refine hL.mono ?_
    rintro e W3 ⟨rfl, hb3⟩
    have hM3 := hM2.below hb3
    have hN3 := hN2.below hb3
    have hb := bthen hb12 hb3
    clear hM2 hN2 hb12 hb3 hL
    go_wp2_with fail
    refine (awake8_any _ hM3 hN3).mono ?_
    rintro e W4 ⟨rfl, hb4⟩
    go_wp2_with fail
    go_ret
    exact ⟨rfl, bthen hb hb4⟩
  · have d4 : (x != 0) = true := by simpa using h0
    have d5 : (x == x) = true := by simp
    have H0 := Lib.hid h0
    clear h0
    go_enter Tryd.func3, Tryd.ntmps3
    go_wp2_with fail
    refine hR.mono ?_
    rintro e W1 ⟨A, n, c, he, hbad, _, hb1⟩
    rw [HX.out] at he hbad
    subst he
    obtain ⟨rfl, rfl, rfl⟩ := hbad H0.out
    have hM1 := hM.below hb1
    have hN1 := hN.below hb1
    clear hR hbad hM hN
    go_wp2_with fail
    refine (hC _).mono ?_
    rintro e W2 ⟨rfl, hb2⟩
    have hM2 := hM1.below hb2
    have hN2 := hN1.below hb2
    have hb := bthen hb1 hb2
    clear hM1 hN1 hb1 hb2 hC
    go_wp2_with fail
    refine (awake8_any _ hM2 hN2).mono ?_
    rintro e W3 ⟨rfl, hb3⟩
    go_wp2_with fail
    go_ret
    exact ⟨rfl, bthen hb hb3⟩

end Go.Proofs.YtpjjmnkiepdllaaDoor
