/-
  Lists of texts in memory; the reference's answer: are two lists of texts the same?
-/
import Derived.Test.YtnjkilmhphcocaaVals
import Derived.BigCall
import Derived.BigGuard
namespace Go.Proofs.Ytnjkilmhphcocaa
open Go.RowKit
set_option linter.unusedVariables false
set_option linter.unusedSimpArgs false

/-- Texts as values. -/
def wsV (L : List (List UInt8)) : List Value := L.map fun w => .string ⟨w.toArray⟩

set_option maxRecDepth 100000 in
set_option maxHeartbeats 2000000 in
theorem texts_any (A1 A2 : Option Addr) (n1 c1 n2 c2 : Nat) (L : List (List UInt8)) (B : Nat) (W : World) (h1 : Vals W B A1 n1 (wsV L)) (h2 : Vals W B A2 n2 (wsV L)) (hn : n1 ≤ 10000) :
    Calls Try.prog 20 #[.slice A1 n1 c1, .slice A2 n2 c2] W fun e W' => e = .returned (.bool true) ∧ ∃ q, W' = W.drewN q := by
  obtain rfl : n2 = n1 := h2.1.symm.trans h1.1
  go_enter Try.func20, Try.ntmps20
  go_wp2
  go_loopw [5] (fun iv wr => ∃ k : Nat, k ≤ n2 ∧ iv = .int .i64 (k : Int) ∧ ∃ q, wr = W.drewN q) (fun iv _ => n2 - (intOf iv).toNat)
  case atStart => exact ⟨0, Nat.zero_le _, rfl, 0, rfl⟩
  case round =>
    obtain ⟨k, hk, rfl, q, hw⟩ := hrel
    by_cases hlt : k < n2
    · obtain ⟨b1, o1, x1, rfl, hb1, hx1, hc1⟩ := h1.at_ hlt
      obtain ⟨b2, o2, x2, rfl, hb2, hx2, hc2⟩ := h2.at_ hlt
      obtain rfl : x1 = x2 := Option.some.inj (hx1.symm.trans hx2)
      obtain ⟨X, rfl⟩ : ∃ X : ByteArray, x1 = .string X := by
        unfold wsV at hx1
        rw [List.getElem?_map] at hx1
        cases hl : L[k]? with
        | none => rw [hl] at hx1; cases hx1
        | some w => rw [hl] at hx1; exact ⟨_, (Option.some.inj hx1).symm⟩
      have hd1 : wr.cell? ⟨b1, o1 + k, none⟩ = some (.string X) := by rw [hw]; exact hc1
      have hd2 : wr.cell? ⟨b2, o2 + k, none⟩ = some (.string X) := by rw [hw]; exact hc2
      have hXX : (X.toList == X.toList) = true := by simp
      have HW := Lib.hid hw
      have HH := Lib.hid h1
      have HG := Lib.hid h2
      clear hw hx1 hx2 hc1 hc2 h1 h2
      go_wp2_with fail
      go_quiet (fail)
      have HN : Hid (wr.drewN nq = W.drewN (q + nq)) := Lib.hid (by rw [HW.out]; simp [World.drewN]; omega)
      revert HN
      generalize wr.drewN nq = w5
      intro HN
      go_wp2
      go_roundw
      case rel => exact ⟨k + 1, by omega, by go_num, q + nq, HN.out⟩
      case measure => simp [intOf]; omega
    · have HW := Lib.hid hw
      clear hw
      go_wp2
      go_ret
      exact ⟨rfl, q, HW.out⟩

end Go.Proofs.Ytnjkilmhphcocaa
