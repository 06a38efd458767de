/-
  Arguments that are arrays of whole numbers, opened. No program stands here.
-/
import Derived.Test.YtjegnbpkmhkeoaaDoorOpen
namespace Go.Proofs.YtjegnbpkmhkeoaaDoor
open Go.RowKit
open Go.ChangeShapes Go.WideShapes Go.ChangeAt
set_option linter.unusedVariables false
set_option linter.unusedSimpArgs false

/-- Each element of an array of whole numbers. -/
theorem arr_ints {H : Type} {enc : TypeId × Value → H} {P : Program} {W : World} {base : Nat} {sp : Nat → Bool} {held : Bool} {fuel n : Nat} {t e : TypeId} {k : IntKind} {cs : List Value} {y : DataW H × List MemPlace}
    (ht : P.underlying t = some (.array n e)) (he : P.underlying e = some (.int k)) (hc : P.cellsOf e = 1) (h : DataW.trod enc P W base sp held fuel t cs = some y) :
    ∀ i, i < n → ∃ z, cs[i]? = some (.int k z) ∧ (Lit.int k z).wf = true := by
  obtain ⟨xs, m, rfl, _, _, hn, hel⟩ := DataW.trod_array ht h
  intro i hi
  have h1 := hel i hi
  rw [hc, Nat.mul_one] at h1
  cases hx : xs[i]? with
  | none =>
    have := List.getElem?_eq_none_iff.1 hx
    omega
  | some x =>
    rw [hx] at h1
    obtain ⟨z, e1, _, hw⟩ := DataW.trod_int he h1
    refine ⟨z, ?_, hw⟩
    have := congrArg (fun l => l[0]?) e1
    simp only [List.getElem?_take, List.getElem?_drop] at this
    simpa using this

/-- An array that came in: its elements. -/
theorem open_arr {H : Type} {enc : TypeId × Value → H} {P : Program} {W : World} {base : Nat} {sp : Nat → Bool} {held : Bool} {n : Nat} {t e : TypeId} {k : IntKind} {v : Value} {d : DataW H} {p : List MemPlace}
    (ht : P.underlying t = some (.array n e)) (he : P.underlying e = some (.int k)) (hc : P.cellsOf e = 1) (hn : P.cellsOf t = n)
    (hv : Value.okWide P W .any base t v) (h : DataW.Trod enc P W 0 sp held t v d p) : ∃ zs : List Int, zs.length = n ∧ v = .agg (zs.map fun z => Value.int k z).toArray ∧ ∀ z ∈ zs, (Lit.int k z).wf = true := by
  obtain ⟨cs, rfl, hsz, _⟩ : ∃ cs, v = .agg cs ∧ cs.size = P.cellsOf t ∧ Row.okWide P W .any base t cs := by
    simpa [Value.okWide, ht] using hv
  rw [hn] at hsz
  obtain ⟨fuel, hf⟩ := h
  have hl : cs.toList.length = n := by simpa using hsz
  have hel := arr_ints ht he hc hf
  have go : ∀ (l : List Value), (∀ u ∈ l, ∃ z, u = .int k z ∧ (Lit.int k z).wf = true) → ∃ zs : List Int, zs.length = l.length ∧ l = zs.map (fun z => Value.int k z) ∧ ∀ z ∈ zs, (Lit.int k z).wf = true := by
    intro l
    induction l with
    | nil => intro _; exact ⟨[], rfl, rfl, fun z h => by cases h⟩
    | cons u l ih =>
      intro hu
      obtain ⟨z, rfl, hz⟩ := hu u (List.mem_cons_self ..)
      obtain ⟨zs, e1, e2, e3⟩ := ih fun u h => hu u (List.mem_cons_of_mem _ h)
      refine ⟨z :: zs, by simp [e1], by rw [e2]; rfl, fun y hy => ?_⟩
      rcases List.mem_cons.1 hy with rfl | hy
      · exact hz
      · exact e3 y hy
  obtain ⟨zs, e1, e2, e3⟩ := go cs.toList fun u hu => by
    obtain ⟨i, hi, rfl⟩ := List.getElem_of_mem hu
    obtain ⟨z, h1, h2⟩ := hel i (by omega)
    simp only [Value.cells] at h1
    rw [List.getElem?_eq_getElem hi] at h1
    exact ⟨z, Option.some.inj h1, h2⟩
  exact ⟨zs, e1.trans hl, by rw [← e2], e3⟩

/-- Two elements. -/
theorem open_two {H : Type} {enc : TypeId × Value → H} {P : Program} {W : World} {base : Nat} {sp : Nat → Bool} {held : Bool} {t e : TypeId} {k : IntKind} {v : Value} {d : DataW H} {p : List MemPlace}
    (ht : P.underlying t = some (.array 2 e)) (he : P.underlying e = some (.int k)) (hc : P.cellsOf e = 1) (hn : P.cellsOf t = 2)
    (hv : Value.okWide P W .any base t v) (h : DataW.Trod enc P W 0 sp held t v d p) : ∃ y z : Int, v = .agg #[.int k y, .int k z] ∧ (Lit.int k y).wf = true ∧ (Lit.int k z).wf = true := by
  obtain ⟨zs, h1, h2, h3⟩ := open_arr ht he hc hn hv h
  match zs, h1 with
  | [y, z], _ => exact ⟨y, z, h2, h3 y (by simp), h3 z (by simp)⟩

end Go.Proofs.YtjegnbpkmhkeoaaDoor
