/-
  The reference's disk: any step; what stays good.
-/
import Derived.Test.YtnjkilmhphcocaaDkN
namespace Go.Proofs.Ytnjkilmhphcocaa
open Go.RowKit
set_option linter.unusedVariables false
set_option linter.unusedSimpArgs false

/-- Any step. -/
theorem rdo_any (S : Nat → Prop) (p : Nat) (m : Dk) (s : Sp) (A : Option Addr) (n c : Nat) (W : World) (h : RD W S p m) (hG : GoodD m) (hcl : m.calls ≤ 1000000) (hlf : m.left < 18446744073709551616) (hcap : 0 ≤ m.cap ∧ m.cap < 9223372036854775808)
    (hl : s.name.length ≤ 10000) (hl2 : s.to.length ≤ 10000) (hda : BytS W (fun k => k = p) A n s.data) (hnil : A = none → n = 0 ∧ c = 0) (hnd : n ≤ 100000) :
    Calls Try.prog 10 #[.pointer (some ⟨p, 0, none⟩), spV s A n c] W (DoPost S p (doD m s) W) := by
  cases hk : isCall s
  · exact rdo_other S p m s A n c W h hG hk
  cases hb : (beginD m).1
  · exact rdo_refused S p m s A n c W h hG hcl hlf hk hb
  cases hn : targetB s.name
  · exact rdo_name S p m s A n c W h hG hcl hlf hk hb hl hn
  have hkk : 1 ≤ s.kind ∧ s.kind ≤ 4 := by
    unfold isCall at hk
    simpa using hk
  have hc4 : s.kind = 1 ∨ s.kind = 2 ∨ s.kind = 3 ∨ s.kind = 4 := by omega
  by_cases ht : s.kind = 3 ∧ targetB s.to = false
  · exact rdo_to S p m s A n c W h hG hcl hlf hb hl hn hl2 ht.2 ht.1
  have ht2 : s.kind = 3 → targetB s.to = true := fun h3 => by
    cases hx : targetB s.to
    · exact absurd ⟨h3, hx⟩ ht
    · rfl
  rcases hlo : lookF s.name m.files with _ | f0
  · by_cases h1 : s.kind = 1
    · by_cases hf : 1024 ≤ m.files.length
      · exact rdo_room S p m s A n c W h hG hcl hlf hb hl hn h1 hlo hf
      · by_cases hfu : m.cap - sizeF m.files < (s.data.length : Int)
        · exact rdo_full S p m s A n c W h hG hcl hlf hb hl hn h1 hlo (by omega) hcap hda.1.symm hfu
        · exact rdo_app S p m s A n c W h hG hcl hlf hb hl hn h1 hlo (by omega) hcap hda hnil hnd hfu
    · exact rdo_none S p m s A n c W h hG hcl hlf hk hb hl hl2 hn ht2 h1 hlo
  · have hi : (lookF s.name m.files).isSome = true := by rw [hlo]; rfl
    rcases hc4 with h1 | h1 | h1 | h1
    · by_cases hfu : m.cap - sizeF m.files < (s.data.length : Int)
      · exact rdo_full2 S p m s A n c W h hG hcl hlf hb hl hn h1 hi hcap hda.1.symm hfu
      · exact rdo_app2 S p m s A n c W h hG hcl hlf hb hl hn h1 hi hcap hda hnil hnd hfu
    · exact rdo_sync S p m s A n c W h hG hcl hlf hb hl hn h1 f0 hlo
    · exact rdo_ren S p m s A n c W h hG hcl hlf hb hl hn hl2 (ht2 h1) h1 f0 hlo
    · exact rdo_rem S p m s A n c W h hG hcl hlf hb hl hn h1 f0 hlo

end Go.Proofs.Ytnjkilmhphcocaa
