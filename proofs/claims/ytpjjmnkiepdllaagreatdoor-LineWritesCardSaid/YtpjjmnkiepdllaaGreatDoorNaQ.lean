/-
  Package name: a number's digits, by the library; which variables of the library are read.
-/
import Derived.Test.YtpjjmnkiepdllaaGreatDoorNaP
import Derived.Test.YtpjjmnkiepdllaaGreatDoorNaA
import Derived.Test.YtpjjmnkiepdllaaGreatDoorShelf
import Derived.Lib.ItoaMem
import Derived.Lib.AtoiErrMem
import Derived.Laws.Slices
namespace Go.Proofs.YtpjjmnkiepdllaaGreatDoor
open Go.RowKit
set_option linter.unusedVariables false
set_option linter.unusedSimpArgs false

/-- The library's variables that are read: the powers of ten, an error. -/
def NV (W : World) : Prop := Lib.TabIs Tryz.prog W "internal/strconv.uint64pow10" .u64 Lib.pow10Tab ∧ ∃ ev, W.cell? ⟨5, 0, none⟩ = some ev ∧ (ev = .nilIface ∨ ∃ te pe, ev = .iface te pe)

theorem NV.below {W W' : World} (h : NV W) (b : Below W.heap.size W W') : NV W' := by
  obtain ⟨h1, ev, h2, h3⟩ := h
  refine ⟨?_, ev, ?_, h3⟩
  · unfold Lib.TabIs World.var? at *
    cases hg : Tryz.prog.globalNamed "internal/strconv.uint64pow10" with
    | none => simp [hg] at h1
    | some g =>
      simp only [hg, Option.bind_some] at h1 ⊢
      have hlt : g < W.heap.size := by
        rcases Nat.lt_or_ge g W.heap.size with h' | h'
        · exact h'
        · rw [Array.getElem?_eq_none h'] at h1; simp at h1
      rw [b.block g hlt]
      exact h1
  · rw [b.cell (by show _ < W.heap.size; exact Lib.lt_of_cell h2)]
    exact h2

/-- A byte as the library's words have it. -/
abbrev encB : UInt8 → Value := fun b => Value.int .u8 (b.toNat : Int)

theorem holds_zero0 (w : World) (T : TypeId) (nd : Nat) (hs : nd ≤ 24) : Sort.Holds encB (w.alloc (.cells Lib.zeros24 T)) w.heap.size 0 (Array.replicate nd (0 : UInt8)) := fun j hj => by
  have hj' : j < nd := by simpa using hj
  refine ⟨?_, World.frozen?_alloc_new _ _ _ _⟩
  rw [World.cell?_alloc_new, Lib.zeros24_at _ (by omega), getElem!_pos _ j hj]
  simp

theorem below_put (w : World) (o : Obj) (dk : Array UInt8) (k : Nat) : Below w.heap.size w ((Sort.putRow encB (w.alloc o) w.heap.size 0 dk).drewN k) := by
  refine below_drewN ?_ k
  have h : Below w.heap.size w (w.alloc o) := (Below.refl _ _).alloc (Nat.le_refl _) _
  refine ⟨h.os, h.tape, h.output, ?_, fun j hj => ?_⟩
  · have := h.size
    simp only [Sort.putRow, Sort.mapBlock, Array.size_modify]
    exact this
  · rw [← h.block j hj]
    simp only [Sort.putRow, Sort.mapBlock, Array.getElem?_modify]
    rw [if_neg (by omega)]

set_option maxRecDepth 100000 in
set_option maxHeartbeats 4000000 in
theorem formatUint_any (u : Nat) (hu64 : u < 18446744073709551616) (W : World) (hN : NV W) :
    Calls Tryz.prog 54 #[.int .u64 u, .int .i64 10] W fun e W' => e = .returned (.string ⟨(Lib.decDigits u).toArray⟩) ∧ Below W.heap.size W W' := by
  by_cases hs : u < 100
  · go_enter Tryz.func54, Tryz.ntmps54
    go_wp2_with fail
    refine (Tryz.internal_strconv_small u hs _).mono ?_
    rintro e w' ⟨rfl, rfl⟩
    go_wp2_with fail
    go_ret
    exact ⟨rfl, Below.refl _ _⟩
  · have hu1 : 1 ≤ u := by omega
    have hnd := fun w h => Tryz.internal_strconv_numDigits u hu1 hu64 w h
    have hnd20 := Lib.nDigits_le20 u hu64
    have hal : Tryz.prog.arrayLen 92 = 24 := by kernel_rfl
    have hH0 := holds_zero0 W 92 (Lib.nDigits u) (by omega)
    have hfmt := Tryz.internal_strconv_formatBase10 W.heap.size 0 24 u (Array.replicate (Lib.nDigits u) 0) (W.alloc (.cells Lib.zeros24 92)) hH0 (by rw [Array.size_replicate]; exact Lib.lt_pow_nDigits u) hu64 (by rw [Array.size_replicate]; omega)
    rw [Array.size_replicate] at hfmt
    have HH0 := Lib.hid hH0
    have hlen := Lib.decDigits_length u
    obtain ⟨nd, hndd⟩ : ∃ nd, Lib.nDigits u = nd := ⟨_, rfl⟩
    rw [hndd] at hnd hnd20 hfmt HH0 hlen
    have HD := Lib.hid hndd
    have HL := Lib.hid hlen
    have hsl1 : ∀ W2, (Instr.sliceAt 92 (.pointer (some ⟨W.heap.size, 0, none⟩)) none (some (.int .i64 (nd : Int))) none).run Tryz.prog W2 = .ok (.slice (some ⟨W.heap.size, 0, none⟩) nd 24) W2 := fun W2 => by
      rw [run_sliceAt_array_h W2 92 ⟨W.heap.size, 0, none⟩ (by simp [Program.arrayLen, Program.elem, Tryz.underlying92]) .i64 (nd : Int) (by omega) (by rw [hal]; omega)]
      go_simp
    clear hH0 hal hndd hlen
    go_enter Tryz.func54, Tryz.ntmps54
    go_wp2_with fail
    refine (hnd _ (Lib.tabIs_alloc hN.1 _)).mono ?_
    rintro e w' ⟨rfl, rfl⟩
    go_wp2_with fail
    refine hfmt.mono ?_
    rintro e w2 ⟨rfl, k, v', dk, hw2, hF⟩
    have hcv : (convert 34 9 (.slice (some ⟨W.heap.size, 0, none⟩) nd 24)).run Tryz.prog w2 = .ok (.string ⟨(Lib.decDigits u).toArray⟩) w2 := by
      rw [← HD.out] at hF
      have h := run_convert_bytes_back (P := Tryz.prog) w2 34 9 5 ⟨W.heap.size, 0, none⟩ 24 (Lib.decDigits u) Tryz.underlying34 Tryz.underlying5 Tryz.underlying9 (fun j hj => by
        rw [Lib.row_is_numeral hF j hj, Lib.add_plain, hw2, World.cell?_drewN]
        exact Sort.cell?_putRow encB _ W.heap.size 0 _ dk HH0.out (by rw [hF.size, Array.size_replicate, HD.out]) j (by rw [hF.size]; rw [Lib.decDigits_length] at hj; exact hj))
      rw [HL.out] at h
      exact h
    have HB : Hid (Below W.heap.size W w2) := Lib.hid (by rw [hw2]; exact below_put W _ dk k)
    clear hw2 hF hfmt hnd
    go_wp2_with fail
    go_ret
    exact ⟨rfl, HB.out⟩

theorem digits_any (u : Nat) (hu64 : u < 18446744073709551616) (W : World) (hN : NV W) :
    Calls Tryz.prog 23 #[.int .u64 u] W fun e W' => e = .returned (.string ⟨(Lib.decDigits u).toArray⟩) ∧ Below W.heap.size W W' := by
  have hF : ∀ w : World, NV w → Calls Tryz.prog 41 #[.int .u64 u, .int .i64 10] w fun e w' => e = .returned (.string ⟨(Lib.decDigits u).toArray⟩) ∧ Below w.heap.size w w' := by
    intro w hw
    go_enter Tryz.func41, Tryz.ntmps41
    go_wp2_with fail
    refine (formatUint_any u hu64 w hw).mono ?_
    rintro e w1 ⟨rfl, hb⟩
    go_wp2_with fail
    go_ret
    exact ⟨rfl, hb⟩
  go_enter Tryz.func23, Tryz.ntmps23
  go_wp2_with fail
  refine (hF W hN).mono ?_
  rintro e w1 ⟨rfl, hb⟩
  go_wp2_with fail
  go_ret
  exact ⟨rfl, hb⟩

end Go.Proofs.YtpjjmnkiepdllaaGreatDoor
