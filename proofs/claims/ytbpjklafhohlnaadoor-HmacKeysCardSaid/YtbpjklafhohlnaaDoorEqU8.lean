/-
  Arrays of bytes, of whatever length: whether two are equal.
-/
import Derived.Test.YtbpjklafhohlnaaDoorBase
import Derived.DeepKeys
import Derived.Laws.IdiomArrays
namespace Go.Proofs.YtbpjklafhohlnaaDoor
open Go.RowKit
set_option linter.unusedVariables false
set_option linter.unusedSimpArgs false

theorem bv_wf (x : UInt8) : (Lit.int .u8 ((x.toNat : Nat) : Int)).wf = true := by
  have := x.toNat_lt
  simp [Lit.wf, IntKind.min, IntKind.max, IntKind.signed, IntKind.bits]
  omega
theorem mapM_some {α β : Type} (f : α → Option β) (g : α → β) : ∀ (l : List α), (∀ x ∈ l, f x = some (g x)) → l.mapM f = some (l.map g)
  | [], _ => rfl
  | a :: l, h => by
    rw [List.mapM_cons, h a (by simp), mapM_some f g l (fun x hx => h x (by simp [hx]))]
    rfl
theorem flat_single {α β : Type} (h : α → β) : ∀ l : List α, (l.map fun i => [h i]).flatten = l.map h
  | [] => rfl
  | a :: l => by rw [List.map_cons, List.flatten_cons, flat_single h l]; rfl
theorem lits_u8 {P : Program} {t e : TypeId} {n d : Nat} (D : List UInt8) (hD : D.length = n) (hu : P.underlying t = some (.array n e)) (he : P.underlying e = some (.int .u8)) (hc : P.cellsOf e = 1) (ht : P.cellsOf t = n) :
    P.keyLits (d + 2) t (D.map bv) = some (D.map fun x => .int .u8 ((x.toNat : Nat) : Int)) := by
  unfold Program.keyLits
  simp only [hu, ht, hc, List.length_map, hD, if_true]
  rw [mapM_some _ (fun i => [Lit.int .u8 (((D.getD i 0).toNat : Nat) : Int)]) _ (fun i hi => ?_)]
  · simp only [Option.map_some, Option.some.injEq]
    rw [flat_single]
    apply List.ext_getElem
    · simp [hD]
    · intro j h1 h2
      have hj : j < D.length := by simpa using h2
      simp [List.getD_eq_getElem?_getD, List.getElem?_eq_getElem hj]
  · have hi' : i < D.length := by rw [hD]; exact List.mem_range.1 hi
    have e1 : ((D.map bv).drop (i * 1)).take 1 = [bv (D.getD i 0)] := by
      rw [Nat.mul_one, List.drop_eq_getElem_cons (by simpa using hi')]
      simp [List.getD_eq_getElem?_getD, List.getElem?_eq_getElem hi']
    rw [e1]
    simp [Program.keyLits, he, bv, bv_wf]
theorem lits_inj : ∀ (D E : List UInt8), (D.map fun x => Lit.int .u8 ((x.toNat : Nat) : Int)) = (E.map fun x => Lit.int .u8 ((x.toNat : Nat) : Int)) → D = E := by
  intro D E h
  refine List.map_inj_right (fun x y hxy => ?_) |>.1 h
  injection hxy with _ h2
  exact UInt8.toNat_inj.1 (by omega)

/-- Two arrays of 32 bytes. -/
theorem equal32 (D E : List UInt8) (hD : D.length = 32) (hE : E.length = 32) (w : World) : (Op.equalIn 10000 24 (.agg (D.map bv).toArray) (.agg (E.map bv).toArray)).run Tryd.prog w = .ok (decide (D = E)) w := by
  have c1 : Tryd.prog.cellsOf 5 = 1 := by kernel_rfl
  have c32 : Tryd.prog.cellsOf 24 = 32 := by kernel_rfl
  have k : ∀ F : List UInt8, F.length = 32 → Value.formed Tryd.prog 24 (.agg (F.map bv).toArray) = true := by
    intro F hF
    simp [Value.formed, Tryd.underlying24, hF, c32]
  obtain ⟨r, hr, hiff⟩ := run_equalIn_deep (P := Tryd.prog) 9998 2 24 (by kernel_rfl) w 2 2 (.agg (D.map bv).toArray) (.agg (E.map bv).toArray) _ _ (k D hD) (k E hE)
    (lits_u8 D hD Tryd.underlying24 Tryd.underlying5 c1 c32) (lits_u8 E hE Tryd.underlying24 Tryd.underlying5 c1 c32)
  have : r = decide (D = E) := by
    rw [Bool.eq_iff_iff, hiff]
    simp only [decide_eq_true_eq]
    exact ⟨lits_inj D E, fun h => by rw [h]⟩
  rw [← this]
  exact hr

end Go.Proofs.YtbpjklafhohlnaaDoor
