/-
  The walk of the law CrcSpoilt.
-/
import Derived.Test.YtnmibfncgoemfaaCrcSp
import Derived.Test.YtnmibfncgoemfaaArr4
import Derived.RegionTactic
import Derived.BigRegion
namespace Go.Proofs.Ytnmibfncgoemfaa
open Go.RowKit
set_option linter.unusedVariables false
set_option linter.unusedSimpArgs false

theorem own_le {w : World} {base : Nat} {e : TypeId} {A : Option Addr} {n c m : Nat} {xs : List Value} (h : w.ownsRow base e 1 (.slice A n c) m xs) : n ≤ c ∧ c ≤ maxLen := by
  obtain ⟨A', c', hv, _, h1, h2⟩ := own_form h
  injection hv with _ e1 e2
  subst e1; subst e2
  exact ⟨h1, h2⟩

end Go.Proofs.Ytnmibfncgoemfaa
