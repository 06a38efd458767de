/-
  The first error of two (cmp.Or).
-/
import Derived.Test.YtnmibfncgoemfaaBase
namespace Go.Proofs.Ytnmibfncgoemfaa
open Go.RowKit
set_option linter.unusedVariables false
set_option linter.unusedSimpArgs false

/-- The first error of two. -/
def orE (a b : Int) : Int := if a ≠ 0 then a else b

set_option maxRecDepth 100000 in
theorem or_any (a b : Int) (g c : Nat) (W : World) (h0 : W.cell? ⟨g, 0, none⟩ = some (.int .i64 a)) (h1 : W.cell? ⟨g, 1, none⟩ = some (.int .i64 b)) :
    Calls Try.prog 32 #[.slice (some ⟨g, 0, none⟩) 2 c] W fun e W' => e = .returned (.int .i64 (orE a b)) ∧ W' = W := by
  go_enter Try.func32, Try.ntmps32
  go_wp2
  go_loop [5, 8] (fun v i => ∃ k : Nat, k ≤ 2 ∧ i = .int .i64 k ∧ (0 < k → a = 0) ∧ (1 < k → b = 0)) (fun _ i => 2 - (intOf i).toNat)
  case atStart => exact ⟨0, by omega, rfl, by omega, by omega⟩
  case round =>
    obtain ⟨k, hk, rfl, ha, hb⟩ := hrel
    have hcases : k = 0 ∨ k = 1 ∨ k = 2 := by omega
    rcases hcases with rfl | rfl | rfl
    · by_cases h : a = 0
      · subst h
        clear ha hb
        go_wp2
        go_round
        case rel => exact ⟨1, by omega, rfl, by simp, by omega⟩
        case measure => simp [intOf]
      · have e : orE a b = a := by unfold orE; rw [if_pos h]
        have HE := Lib.hid e
        have hq : (a != 0) = true := by simpa using h
        clear ha hb e h
        go_wp2
        go_ret
        exact ⟨by rw [HE.out]; rfl, rfl⟩
    · have e0 : a = 0 := ha (by omega)
      subst e0
      by_cases h : b = 0
      · subst h
        clear ha hb
        go_wp2
        go_round
        case rel => exact ⟨2, by omega, rfl, by simp, by simp⟩
        case measure => simp [intOf]
      · have e : orE 0 b = b := rfl
        have HE := Lib.hid e
        have hq : (b != 0) = true := by simpa using h
        clear ha hb e h
        go_wp2
        go_ret
        exact ⟨by rw [HE.out]; rfl, rfl⟩
    · have e0 : a = 0 := ha (by omega)
      have e1 : b = 0 := hb (by omega)
      subst e0 e1
      clear ha hb
      go_wp2
      go_ret
      exact ⟨rfl, rfl⟩

end Go.Proofs.Ytnmibfncgoemfaa
