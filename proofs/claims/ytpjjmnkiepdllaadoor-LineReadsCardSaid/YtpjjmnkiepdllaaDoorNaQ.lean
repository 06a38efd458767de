/-
  Package name: a number's digits, by the library; which variables of the library are read.
-/
import Derived.Test.YtpjjmnkiepdllaaDoorNaP
import Derived.Test.YtpjjmnkiepdllaaDoorNaA
import Derived.Test.YtpjjmnkiepdllaaDoorShelf
import Derived.Lib.ItoaMem
import Derived.Lib.AtoiErrMem
import Derived.Laws.Slices
namespace Go.Proofs.YtpjjmnkiepdllaaDoor
open Go.RowKit
set_option linter.unusedVariables false
set_option linter.unusedSimpArgs false

/-- The library's variables that are read: the powers of ten, an error. -/
def NV (W : World) : Prop := Lib.TabIs Tryd.prog W "internal/strconv.uint64pow10" .u64 Lib.pow10Tab ∧ ∃ ev, W.cell? ⟨4, 0, none⟩ = some ev ∧ (ev = .nilIface ∨ ∃ te pe, ev = .iface te pe)

theorem NV.below {W W' : World} (h : NV W) (b : Below W.heap.size W W') : NV W' := by
  obtain ⟨h1, ev, h2, h3⟩ := h
  refine ⟨?_, ev, ?_, h3⟩
  · unfold Lib.TabIs World.var? at *
    cases hg : Tryd.prog.globalNamed "internal/strconv.uint64pow10" with
    | none => simp [hg] at h1
    | some g =>
      simp only [hg, Option.bind_some] at h1 ⊢
      have hlt : g < W.heap.size := by
        rcases Nat.lt_or_ge g W.heap.size with h' | h'
        · exact h'
        · rw [Array.getElem?_eq_none h'] at h1; simp at h1
      rw [b.block g hlt]
      exact h1
  · rw [b.cell (by show _ < W.heap.size; exact Lib.lt_of_cell h2)]
    exact h2

/-- A byte as the library's words have it. -/
abbrev encB : UInt8 → Value := fun b => Value.int .u8 (b.toNat : Int)

theorem holds_zero0 (w : World) (T : TypeId) (nd : Nat) (hs : nd ≤ 24) : Sort.Holds encB (w.alloc (.cells Lib.zeros24 T)) w.heap.size 0 (Array.replicate nd (0 : UInt8)) := fun j hj => by
  have hj' : j < nd := by simpa using hj
  refine ⟨?_, World.frozen?_alloc_new _ _ _ _⟩
  rw [World.cell?_alloc_new, Lib.zeros24_at _ (by omega), getElem!_pos _ j hj]
  simp

theorem below_put (w : World) (o : Obj) (dk : Array UInt8) (k : Nat) : Below w.heap.size w ((Sort.putRow encB (w.alloc o) w.heap.size 0 dk).drewN k) := by
  refine below_drewN ?_ k
  have h : Below w.heap.size w (w.alloc o) := (Below.refl _ _).alloc (Nat.le_refl _) _
  refine ⟨h.os, h.tape, h.output, ?_, fun j hj => ?_⟩
  · have := h.size
    simp only [Sort.putRow, Sort.mapBlock, Array.size_modify]
    exact this
  · rw [← h.block j hj]
    simp only [Sort.putRow, Sort.mapBlock, Array.getElem?_modify]
    rw [if_neg (by omega)]

end Go.Proofs.YtpjjmnkiepdllaaDoor
