/-
  An argument that is a slice of fields, opened.
-/
import Derived.Test.YtpjjmnkiepdllaaGreatDoorLiC
import Derived.Test.YtpjjmnkiepdllaaGreatDoorOpen
import Derived.ChangeArms
namespace Go.Proofs.YtpjjmnkiepdllaaGreatDoor
open Go.RowKit
open Go.ChangeShapes Go.WideShapes Go.ChangeAt
set_option linter.unusedVariables false
set_option linter.unusedSimpArgs false

theorem list_of {α : Type} {Q : Nat → α → Prop} : ∀ (n : Nat), (∀ i, i < n → ∃ x, Q i x) → ∃ l : List α, l.length = n ∧ ∀ (i : Nat) (x : α), l[i]? = some x → Q i x := by
  intro n
  induction n with
  | zero => intro _; exact ⟨[], rfl, fun i x h => by cases h⟩
  | succ n ih =>
    intro h
    obtain ⟨l, h1, h2⟩ := ih (fun i hi => h i (by omega))
    obtain ⟨x, hx⟩ := h n (by omega)
    refine ⟨l ++ [x], by simp [h1], fun i y hy => ?_⟩
    by_cases hi : i < n
    · rw [List.getElem?_append_left (by omega)] at hy
      exact h2 i y hy
    · rw [List.getElem?_append_right (by omega)] at hy
      have hin : i - l.length = 0 := by
        have := (List.getElem?_eq_some_iff.1 hy).1
        simp at this
        omega
      rw [hin] at hy
      have hyx : x = y := by simpa using hy
      subst hyx
      have : i = n := by omega
      subst this
      exact hx

theorem bounds_w64 {z : Int} (h : (Lit.int .u64 z).wf = true) : 0 ≤ z ∧ z < 18446744073709551616 := by
  have h2 := bounds_u64 h
  exact ⟨h2.1, Int.lt_of_le_of_lt h2.2 (by decide)⟩

section
variable {H : Type} {enc : TypeId × Value → H} {w : World} {held : Bool}

set_option maxRecDepth 100000 in
theorem open_fld {fuel : Nat} {cs : List Value} {x : DataW H × List MemPlace} (h : DataW.trod enc Tryz.prog w 0 (fun _ => true) held fuel 36 cs = some x) (hl : cs.length = 3) :
    ∃ f : Fd, FdV w w.heap.size (.agg cs.toArray) f ∧ f.n < 18446744073709551616 := by
  obtain ⟨xs, n, _, _, _, hxl, hf⟩ := DataW.trod_struct Tryz.underlying36 h
  match cs, hl with
  | [y0, y1, y2], _ =>
    have c9 : Tryz.prog.cellsOf 9 = 1 := by kernel_rfl
    have c33 : Tryz.prog.cellsOf 33 = 1 := by kernel_rfl
    have c34 : Tryz.prog.cellsOf 34 = 1 := by kernel_rfl
    have h0 : DataW.trod enc Tryz.prog w 0 (fun _ => true) held n 9 (([y0, y1, y2].drop 0).take (Tryz.prog.cellsOf 9)) = xs[0]? := hf 0 _ rfl
    rw [c9] at h0
    change DataW.trod enc Tryz.prog w 0 (fun _ => true) held n 9 [y0] = xs[0]? at h0
    have h1 : DataW.trod enc Tryz.prog w 0 (fun _ => true) held n 33 (([y0, y1, y2].drop 1).take (Tryz.prog.cellsOf 33)) = xs[1]? := hf 1 _ rfl
    rw [c33] at h1
    change DataW.trod enc Tryz.prog w 0 (fun _ => true) held n 33 [y1] = xs[1]? at h1
    have h2 : DataW.trod enc Tryz.prog w 0 (fun _ => true) held n 34 (([y0, y1, y2].drop 2).take (Tryz.prog.cellsOf 34)) = xs[2]? := hf 2 _ rfl
    rw [c34] at h2
    change DataW.trod enc Tryz.prog w 0 (fun _ => true) held n 34 [y2] = xs[2]? at h2
    have hx3 : xs.length = 3 := hxl
    rw [List.getElem?_eq_getElem (by omega)] at h0 h1 h2
    obtain ⟨T, e0, _, _⟩ := DataW.trod_string Tryz.underlying9 h0
    obtain ⟨z, e1, _, hz⟩ := DataW.trod_int Tryz.underlying33 h1
    obtain ⟨A, m, c, e2⟩ : ∃ A m c, y2 = .slice A m c := by
      rcases DataW.trod_slice Tryz.underlying34 h2 with ⟨e, _⟩ | ⟨a, l, c, _, _, _, _, e, _⟩
      · exact ⟨none, 0, 0, by simpa using e⟩
      · exact ⟨some a, l, c, by simpa using e⟩
    cases e0; cases e1; subst e2
    obtain ⟨l, hb, hnil, hlc, hmx⟩ := open_byt Tryz.underlying34 Tryz.underlying5 (by kernel_rfl) ⟨n, h2⟩
    obtain ⟨z0, z1⟩ := bounds_w64 hz
    obtain ⟨u, rfl⟩ : ∃ u : Nat, z = (u : Int) := ⟨z.toNat, by omega⟩
    exact ⟨⟨T.data.toList, u, l⟩, ⟨A, m, c, rfl, hb, fun hA => ⟨by have := hnil hA; omega, hnil hA⟩, hlc, hmx⟩, by show u < _; omega⟩

set_option maxRecDepth 100000 in
theorem open_flds {a : Option Addr} {len cap : Nat} {d : DataW H} {p : List MemPlace} (h : DataW.Trod enc Tryz.prog w 0 (fun _ => true) held 22 (.slice a len cap) d p) :
    ∃ fs, Flds w w.heap.size a len fs ∧ (∀ f ∈ fs, f.n < 18446744073709551616) ∧ (a = none → cap = 0) ∧ len ≤ cap ∧ cap ≤ maxLen := by
  obtain ⟨fuel, hf⟩ := h
  have c3 : Tryz.prog.cellsOf 36 = 3 := by kernel_rfl
  rcases DataW.trod_slice Tryz.underlying22 hf with ⟨hcs, _⟩ | ⟨ad, len', cap', elems, rest, m, _, hcs, hx, hb, hl, hm, hlen, hel, _, _⟩
  · simp [Value.cells] at hcs
    obtain ⟨rfl, rfl, rfl⟩ := hcs
    exact ⟨[], Flds.nil, fun _ h => (by cases h), fun _ => rfl, Nat.le_refl _, Nat.zero_le _⟩
  · simp [Value.cells] at hcs
    obtain ⟨rfl, rfl, rfl⟩ := hcs
    have each : ∀ i, i < len → ∃ f : Fd, ∃ cs : List Value, cs.length = 3 ∧ (∀ j, j < 3 → w.cell? (ad.add (i * 3 + j)) = cs[j]?) ∧ FdV w w.heap.size (.agg cs.toArray) f ∧ f.n < 18446744073709551616 := by
      intro i hi
      have h1 := hel i hi
      rw [c3] at h1
      rw [List.getElem?_eq_getElem (by omega), Option.bind_eq_some_iff] at h1
      obtain ⟨cs, h2, h3⟩ := h1
      obtain ⟨h4, h5, h6⟩ := World.cells?_some h2
      obtain ⟨f, h7, h8⟩ := open_fld h3 h5
      exact ⟨f, cs, h5, fun j hj => by rw [← h6 j hj, Addr.add_add], h7, h8⟩
    obtain ⟨fs, hfl, hfs⟩ := list_of len each
    refine ⟨fs, ⟨hfl, fun hn => ?_⟩, fun f hf => ?_, (fun h => by cases h), hl, hm⟩
    · obtain ⟨g, o, spot⟩ := ad
      obtain ⟨f0, cs0, hl0, hc0, _⟩ := each 0 hn
      have hcell0 : w.cell? ((⟨g, o, spot⟩ : Addr).add 0) = some (cs0[0]'(by omega)) := by
        have := hc0 0 (by omega)
        rw [List.getElem?_eq_getElem (by omega)] at this
        simpa using this
      have hspot : spot = none := by simpa [Addr.add] using World.cell?_spot hcell0
      subst hspot
      refine ⟨g, o, rfl, ?_, fun j f hj => ?_⟩
      · have := World.block_lt_of_cell? w _ hcell0
        simpa [Addr.add] using this
      · obtain ⟨cs, h1, h2, h3, _⟩ := hfs j f hj
        refine ⟨cs, h1, fun i v hv => ?_, h3⟩
        have hi : i < 3 := by
          have := (List.getElem?_eq_some_iff.1 hv).1
          omega
        have := h2 i hi
        rw [Addr.add_lit, hv] at this
        rw [Nat.add_assoc]
        exact this
    · obtain ⟨i, hi⟩ := List.mem_iff_getElem?.1 hf
      obtain ⟨cs, _, _, _, h⟩ := hfs i f hi
      exact h
end

end Go.Proofs.YtpjjmnkiepdllaaGreatDoor
