/-
  The reference's answer: are there too many fields, or too long ones?
-/
import Derived.Test.YtpjjmnkiepdllaaGreatDoorLiN
namespace Go.Proofs.YtpjjmnkiepdllaaGreatDoor
open Go.RowKit
set_option linter.unusedVariables false
set_option linter.unusedSimpArgs false

def smallF (f : Fd) : Bool := decide (f.text.length ≤ 100) && decide (f.data.length ≤ 100)
def largeB (fs : List Fd) : Bool := !((fs.take 20).all smallF) || decide (20 < fs.length)
theorem large_false (fs : List Fd) (h : largeB fs = false) : fs.length ≤ 20 ∧ ∀ f ∈ fs, f.text.length ≤ 100 ∧ f.data.length ≤ 100 := by
  unfold largeB at h
  rw [Bool.or_eq_false_iff] at h
  obtain ⟨h1, h2⟩ := h
  have h3 : fs.length ≤ 20 := by
    have := of_decide_eq_false h2
    omega
  refine ⟨h3, fun f hf => ?_⟩
  rw [List.take_of_length_le h3] at h1
  have h4 : fs.all smallF = true := by simpa using h1
  have := List.all_eq_true.1 h4 f hf
  simpa [smallF] using this
theorem large_out (fs : List Fd) (k : Nat) (f : Fd) (hk : k < 20) (hf : fs[k]? = some f) (h : smallF f = false) : largeB fs = true := by
  unfold largeB
  have : (fs.take 20).all smallF = false := by
    rw [List.all_eq_false]
    exact ⟨f, List.mem_of_getElem? (i := k) (by rw [List.getElem?_take_of_lt hk]; exact hf), by simp [h]⟩
  rw [this]
  rfl
theorem large_end (fs : List Fd) (k : Nat) (h : (fs.take k).all smallF = true) (hk : k = fs.length ∧ k ≤ 20 ∨ k = 20) : largeB fs = decide (20 < fs.length) := by
  unfold largeB
  have : (fs.take 20).all smallF = true := by
    rcases hk with ⟨rfl, h2⟩ | rfl
    · rw [List.take_of_length_le h2]
      rw [List.take_length] at h
      exact h
    · exact h
  rw [this]
  rfl

set_option maxRecDepth 100000 in
set_option maxHeartbeats 2000000 in
theorem refLarge_any (A : Option Addr) (n c : Nat) (fs : List Fd) (W : World) (hfl : Flds W W.heap.size A n fs) (hn : n ≤ maxLen) :
    Calls Tryz.prog 4 #[.slice A n c] W fun e W' => e = .returned (.bool (largeB fs)) ∧ W' = W := by
  unfold maxLen at hn
  have hfl1 := hfl.1
  have HL : Hid (fs.length = n) := Lib.hid hfl1
  have HF := Lib.hid hfl
  clear hfl hfl1
  go_enter Tryz.func4, Tryz.ntmps4
  go_wp2
  go_loop [3] (fun i => ∃ k : Nat, k ≤ n ∧ k ≤ 20 ∧ i = .int .i64 k ∧ (fs.take k).all smallF = true) (fun i => n - (intOf i).toNat)
  case atStart => exact ⟨0, Nat.zero_le _, by omega, rfl, rfl⟩
  case round =>
    obtain ⟨k, hk, hk20, rfl, hno⟩ := hrel
    by_cases hlt : k < n
    · by_cases hlt20 : k < 20
      · have d2 : decide ((k : Int) < 20) = true := decide_eq_true (by omega)
        obtain ⟨f, hf⟩ : ∃ f, fs[k]? = some f := ⟨_, List.getElem?_eq_getElem (by have := HL.out; omega)⟩
        obtain ⟨b, o, rfl, hbB, hfa⟩ := HF.out.2 (by omega)
        obtain ⟨cs, hcl, hr, A2, n2, c2, hv, hb2, _⟩ := hfa k f hf
        obtain ⟨y0, y1, y2, rfl⟩ := one_agg3 hcl
        have hv2 : y0 = .string ⟨f.text.toArray⟩ ∧ y1 = .int .u64 ((f.n : Nat) : Int) ∧ y2 = .slice A2 n2 c2 := by simpa using hv
        obtain ⟨T, hT⟩ : ∃ T : ByteArray, ⟨f.text.toArray⟩ = T := ⟨_, rfl⟩
        have hTs : T.size = f.text.length := by rw [← hT]; show f.text.toArray.size = _; simp
        have hq0 : W.cell? ⟨b, o + k * 3, none⟩ = some (.string T) := by rw [← hT, ← hv2.1]; exact hr 0 y0 rfl
        have hq2 : W.cell? ⟨b, o + k * 3 + 2, none⟩ = some (.slice A2 n2 c2) := by rw [← hv2.2.2]; exact hr 2 y2 rfl
        have hn2 := hb2.1
        have HI := Lib.hid (And.intro hTs (And.intro hn2 (And.intro hf hno)))
        clear hv hv2 hr hfa hb2 hT hTs hn2 hf hno hcl
        by_cases h1 : 100 < T.size
        · have d3 : decide ((100 : Int) < (T.size : Int)) = true := decide_eq_true (by omega)
          have HR : Hid (largeB fs = true) := Lib.hid (large_out fs k f hlt20 HI.out.2.2.1 (by have := HI.out.1; simp [smallF]; omega))
          clear h1
          go_wp2
          go_ret
          exact ⟨by rw [HR.out]; rfl, rfl⟩
        · have d3 : decide ((100 : Int) < (T.size : Int)) = false := decide_eq_false (by omega)
          by_cases h2 : 100 < n2
          · have d4 : decide ((100 : Int) < (n2 : Int)) = true := decide_eq_true (by omega)
            have HR : Hid (largeB fs = true) := Lib.hid (large_out fs k f hlt20 HI.out.2.2.1 (by have := HI.out.2.1; simp [smallF]; omega))
            clear h1 h2
            go_wp2
            go_ret
            exact ⟨by rw [HR.out]; rfl, rfl⟩
          · have d4 : decide ((100 : Int) < (n2 : Int)) = false := decide_eq_false (by omega)
            have HR : Hid ((fs.take (k + 1)).all smallF = true) := Lib.hid (by
              obtain ⟨i1, i2, i3, i4⟩ := HI.out
              rw [List.take_add_one, i3, List.all_append, i4]
              simp [smallF]
              omega)
            clear h1 h2
            go_wp2
            go_round
            case rel => exact ⟨k + 1, by omega, by omega, by go_num, HR.out⟩
            case measure => simp [intOf]; omega
      · have d2 : decide ((k : Int) < 20) = false := decide_eq_false (by omega)
        have HR : Hid (largeB fs = decide (20 < fs.length)) := Lib.hid (large_end fs k hno (.inr (by omega)))
        have d5 : decide ((20 : Int) < (n : Int)) = decide (20 < n) := by
          by_cases h : 20 < n
          · rw [decide_eq_true h, decide_eq_true (by omega)]
          · rw [decide_eq_false h, decide_eq_false (by omega)]
        have HD := Lib.hid d5
        clear hno d5
        go_wp2
        go_ret
        exact ⟨by rw [HR.out, HL.out, ← HD.out]; rfl, rfl⟩
    · have HR : Hid (largeB fs = decide (20 < fs.length)) := Lib.hid (large_end fs k hno (.inl ⟨by have := HL.out; omega, hk20⟩))
      have d5 : decide ((20 : Int) < (n : Int)) = decide (20 < n) := by
        by_cases h : 20 < n
        · rw [decide_eq_true h, decide_eq_true (by omega)]
        · rw [decide_eq_false h, decide_eq_false (by omega)]
      have HD := Lib.hid d5
      clear hno d5
      go_wp2
      go_ret
      exact ⟨by rw [HR.out, HL.out, ← HD.out]; rfl, rfl⟩

end Go.Proofs.YtpjjmnkiepdllaaGreatDoor
