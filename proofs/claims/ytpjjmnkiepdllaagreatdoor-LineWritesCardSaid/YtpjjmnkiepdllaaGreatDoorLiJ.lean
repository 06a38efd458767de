/-
  The law LineReads.
-/
import Derived.Test.YtpjjmnkiepdllaaGreatDoorLiI
namespace Go.Proofs.YtpjjmnkiepdllaaGreatDoor
open Go.RowKit
set_option linter.unusedVariables false
set_option linter.unusedSimpArgs false

theorem bytesL_len (l : List UInt8) : (bytesL l).length ≤ l.length := by
  unfold bytesL
  split
  · unfold unhex
    rw [outL_len]
    omega
  · simp
theorem readL_small (pat : List UInt8) : ∀ ws : List (List UInt8), (∀ w ∈ ws, w.length ≤ 10000) → ∀ f ∈ readL pat ws, f.n < 18446744073709551616 ∧ f.data.length ≤ 10000 := by
  induction pat with
  | nil => intro ws _ f hf; cases hf
  | cons c p ih =>
    intro ws hw f hf
    cases ws with
    | nil => cases hf
    | cons w ws =>
      have hf2 : f ∈ readF c w :: readL p ws := hf
      rcases List.mem_cons.1 hf2 with rfl | h
      · have h1 := numV_max w
        have h2 := bytesL_len w
        have h3 := hw w (by simp)
        unfold readF
        split
        · exact ⟨by simp, by simp⟩
        · split
          · exact ⟨by show numV w < _; omega, by simp⟩
          · exact ⟨by simp, by show (bytesL w).length ≤ _; omega⟩
      · exact ih ws (fun v hv => hw v (by simp [hv])) f h
theorem text_of (s : ByteArray) (l : List UInt8) (h : l = s.data.toList) : (⟨l.toArray⟩ : ByteArray) = s := by
  subst h
  rfl

end Go.Proofs.YtpjjmnkiepdllaaGreatDoor
