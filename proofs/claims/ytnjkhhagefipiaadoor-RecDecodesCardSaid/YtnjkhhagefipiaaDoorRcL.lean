/-
  An argument that is a record, opened; the statements as the rows hand their arguments over.
-/
import Derived.Test.YtnjkhhagefipiaaDoorRcH
import Derived.Test.YtnjkhhagefipiaaDoorPrtO
import Derived.Test.YtnjkhhagefipiaaDoorOpen
namespace Go.Proofs.YtnjkhhagefipiaaDoor
open Go.RowKit
open Go.ChangeShapes Go.WideShapes Go.ChangeAt
set_option linter.unusedVariables false
set_option linter.unusedSimpArgs false

theorem rc_of (w : World) (S : Nat → Prop) (cs : List Value) (ps : List Prt) (h : ps.map Prt.kind = [.num .u64, .num .i64, .txt, .num .u64, .num .u64, .num .u64]) (hv : PrtsV w S cs ps) (ho : ∀ p ∈ ps, p.okay) :
    ∃ (s : Nat) (k : Int) (T : ByteArray) (l n b : Nat), cs = rcCs s k T l n b ∧ (⟨s, k, T.data.toList, l, n, b⟩ : Rc).okay ∧ T.size ≤ maxLen := by
  match ps, h with
  | [.num k0 z0, .num k1 z1, .txt t, .num k3 z3, .num k4 z4, .num k5 z5], h =>
    simp only [List.map_cons, List.map_nil, Prt.kind, List.cons.injEq, PK.num.injEq, and_true, true_and] at h
    obtain ⟨rfl, rfl, rfl, rfl, rfl⟩ := h
    obtain ⟨v0, r0, rfl, e0, v1, r1, rfl, e1, v2, r2, rfl, e2, v3, r3, rfl, e3, v4, r4, rfl, e4, v5, r5, rfl, e5, e6⟩ := hv
    have e0 : v0 = .int .u64 z0 := e0
    have e1 : v1 = .int .i64 z1 := e1
    have e2 : v2 = .string ⟨t.toArray⟩ := e2
    have e3 : v3 = .int .u64 z3 := e3
    have e4 : v4 = .int .u64 z4 := e4
    have e5 : v5 = .int .u64 z5 := e5
    have e6 : r5 = [] := e6
    subst e0 e1 e2 e3 e4 e5 e6
    have b0 := bounds_u64 (ho (.num .u64 z0) (by simp))
    have b1 := bounds_i64 (ho (.num .i64 z1) (by simp))
    have b2 : t.length ≤ maxLen := ho (.txt t) (by simp)
    have b3 := bounds_u64 (ho (.num .u64 z3) (by simp))
    have b4 := bounds_u64 (ho (.num .u64 z4) (by simp))
    have b5 := bounds_u64 (ho (.num .u64 z5) (by simp))
    obtain ⟨s, rfl⟩ := Int.eq_ofNat_of_zero_le b0.1
    obtain ⟨l, rfl⟩ := Int.eq_ofNat_of_zero_le b3.1
    obtain ⟨n, rfl⟩ := Int.eq_ofNat_of_zero_le b4.1
    obtain ⟨b, rfl⟩ := Int.eq_ofNat_of_zero_le b5.1
    refine ⟨s, z1, ⟨t.toArray⟩, l, n, b, rfl, ⟨?_, ?_, ?_, ?_, ?_, ?_⟩, b2⟩ <;> (simp only; omega)

theorem open_rc {H : Type} {enc : TypeId × Value → H} {W : World} {base : Nat} {held : Bool} {v : Value} {d : DataW H} {p : List MemPlace}
    (hv : Value.okWide Tryd.prog W .any base 24 v) (h : DataW.Trod enc Tryd.prog W 0 (fun _ => true) held 24 v d p) :
    ∃ (s : Nat) (k : Int) (T : ByteArray) (l n b : Nat), v = rcV s k T l n b ∧ (⟨s, k, T.data.toList, l, n, b⟩ : Rc).okay ∧ T.size ≤ maxLen := by
  have c4 : Tryd.prog.cellsOf 24 = 6 := by kernel_rfl
  obtain ⟨cs, rfl, hsz, _⟩ : ∃ cs, v = .agg cs ∧ cs.size = Tryd.prog.cellsOf 24 ∧ Row.okWide Tryd.prog W .any base 24 cs := by
    simpa [Value.okWide, Tryd.underlying24] using hv
  obtain ⟨fuel, hf⟩ := h
  obtain ⟨ps, h1, h2, h3⟩ := open_prts (pks := [.num .u64, .num .i64, .txt, .num .u64, .num .u64, .num .u64]) Tryd.underlying24 c4 ⟨rfl, fun i pk hi => by
    match i, hi with
    | 0, hi => cases hi; exact ⟨_, rfl, rfl, by kernel_rfl, Tryd.underlying22⟩
    | 1, hi => cases hi; exact ⟨_, rfl, rfl, by kernel_rfl, Tryd.underlying3⟩
    | 2, hi => cases hi; exact ⟨_, rfl, rfl, by kernel_rfl, Tryd.underlying9⟩
    | 3, hi => cases hi; exact ⟨_, rfl, rfl, by kernel_rfl, Tryd.underlying22⟩
    | 4, hi => cases hi; exact ⟨_, rfl, rfl, by kernel_rfl, Tryd.underlying22⟩
    | 5, hi => cases hi; exact ⟨_, rfl, rfl, by kernel_rfl, Tryd.underlying22⟩
    | i + 6, hi => exact absurd (List.getElem?_eq_some_iff.1 hi).1 (by simp)⟩ hf
  obtain ⟨s, k, T, l, n, b, hc, ho, hT⟩ := rc_of W _ _ ps h1 h2 h3
  refine ⟨s, k, T, l, n, b, ?_, ho, hT⟩
  have hc' : cs.toList = rcCs s k T l n b := hc
  unfold rcV
  congr 1
  apply Array.ext'
  rw [hc']
  rfl

theorem recChecks_row (s : Nat) (k : Int) (T : ByteArray) (l n b : Nat) (kind : Int) (W : World) (ho : (⟨s, k, T.data.toList, l, n, b⟩ : Rc).okay) (hT : T.size ≤ maxLen) (lo : -9223372036854775808 ≤ kind) (hi : kind ≤ 9223372036854775807) (hD : DK W) :
    Calls Tryd.prog 3 #[rcV s k T l n b, .int .i64 kind] W fun e W' => e = .returned (.bool true) ∧ Below W.heap.size W W' :=
  recChecks_law s k T l n b kind W ho.2.2.2.2.2 hT hD

end Go.Proofs.YtnjkhhagefipiaaDoor
