/-
  The walk of the law CrcSeals.
-/
import Derived.Test.YtgococpbhbcpmaaDoorCrcB
namespace Go.Proofs.YtgococpbhbcpmaaDoor
open Go.RowKit
set_option linter.unusedVariables false
set_option linter.unusedSimpArgs false

theorem num_inj (l : List UInt8) : ∀ (m : List UInt8), l.length = m.length → num l = num m → l = m := by
  induction l with
  | nil => intro m h _; exact (List.eq_nil_of_length_eq_zero h.symm).symm
  | cons b l ih =>
    intro m h e
    rcases m with _ | ⟨c, m⟩
    · simp at h
    · have hb := b.toNat_lt
      have hc := c.toNat_lt
      have e' : b.toNat + 256 * num l = c.toNat + 256 * num m := e
      have h1 : b = c := UInt8.toNat_inj.1 (by omega)
      rw [h1, ih m (by simpa using h) (by omega)]
theorem sealC_len (l : List UInt8) : (sealC l).length = l.length + 4 := by unfold sealC; rw [List.length_append, le_len]
theorem num_le4 (x : Nat) (h : x ≤ 4294967295) : num (le 4 x) = x := by rw [num_le, show (256 : Nat) ^ 4 = 4294967296 by decide]; omega
theorem sealC_take (l : List UInt8) : (sealC l).take l.length = l := by unfold sealC; simp
theorem sealC_drop (l : List UInt8) : (sealC l).drop l.length = le 4 (crcSum l) := by unfold sealC; simp
theorem isSeal_sealC (l : List UInt8) : isSeal (sealC l) = true := by
  unfold isSeal
  rw [sealC_len, show l.length + 4 - 4 = l.length by omega, sealC_take, sealC_drop, num_le4 _ (crcSum_le l)]
  simp
theorem openB_sealC (l : List UInt8) : openB (sealC l) = l := by
  unfold openB
  rw [isSeal_sealC, if_pos rfl, sealC_len, show l.length + 4 - 4 = l.length by omega, sealC_take]
theorem isSeal_eq (l : List UInt8) (m : Nat) (h : l.length = m + 4) : decide (sealC (l.take m) = l) = isSeal l := by
  have hd : (l.drop m).length = 4 := by rw [List.length_drop, h]; omega
  have hs := crcSum_le (l.take m)
  unfold isSeal
  rw [h, show m + 4 - 4 = m by omega]
  rw [Bool.eq_iff_iff]
  simp only [decide_eq_true_eq, Bool.and_eq_true]
  constructor
  · intro e
    refine ⟨by omega, ?_⟩
    have h1 : (sealC (l.take m)).drop m = l.drop m := by rw [e]
    have h2 := sealC_drop (l.take m)
    rw [List.length_take, h, Nat.min_eq_left (by omega), h1] at h2
    rw [h2, num_le4 _ hs]
  · rintro ⟨_, e⟩
    have h1 : l.drop m = le 4 (crcSum (l.take m)) := num_inj _ _ (by rw [hd, le_len]) (by rw [e, num_le4 _ hs])
    unfold sealC
    rw [← h1, List.take_append_drop]
theorem isSeal_short (l : List UInt8) (h : l.length < 4) : isSeal l = false := by unfold isSeal; simp; omega
theorem openB_not (l : List UInt8) (h : isSeal l = false) : openB l = [] := by unfold openB; rw [h]; rfl
theorem openB_is (l : List UInt8) (m : Nat) (hm : l.length = m + 4) (h : isSeal l = true) : openB l = l.take m := by unfold openB; rw [h, hm]; rfl

end Go.Proofs.YtgococpbhbcpmaaDoor
