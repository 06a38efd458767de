/-
  An argument that is a slice of steps, opened.
-/
import Derived.Test.YtnjkilmhphcocaaDkT
import Derived.Test.YtnjkilmhphcocaaOpenL
import Derived.ChangeArms
namespace Go.Proofs.Ytnjkilmhphcocaa
open Go.RowKit
open Go.ChangeShapes Go.WideShapes Go.ChangeAt
set_option linter.unusedVariables false
set_option linter.unusedSimpArgs false

section
variable {H : Type} {enc : TypeId × Value → H} {w : World} {held : Bool}

set_option maxRecDepth 100000 in
theorem open_sp {fuel : Nat} {cs : List Value} {x : DataW H × List MemPlace} (h : DataW.trod enc Try.prog w 0 (fun _ => true) held fuel 36 cs = some x) (hl : cs.length = 6) :
    ∃ s : Sp, SpV w (fun k => w.heap.size ≤ k) (.agg cs.toArray) s ∧ s.n < 18446744073709551616 := by
  obtain ⟨xs, n, _, _, _, hxl, hf⟩ := DataW.trod_struct Try.underlying36 h
  match cs, hl with
  | [y0, y1, y2, y3, y4, y5], _ =>
    have c3 : Try.prog.cellsOf 3 = 1 := by kernel_rfl
    have c9 : Try.prog.cellsOf 9 = 1 := by kernel_rfl
    have c33 : Try.prog.cellsOf 29 = 1 := by kernel_rfl
    have c34 : Try.prog.cellsOf 34 = 1 := by kernel_rfl
    have h0 : DataW.trod enc Try.prog w 0 (fun _ => true) held n 3 (([y0, y1, y2, y3, y4, y5].drop 0).take (Try.prog.cellsOf 3)) = xs[0]? := hf 0 _ rfl
    rw [c3] at h0
    change DataW.trod enc Try.prog w 0 (fun _ => true) held n 3 [y0] = xs[0]? at h0
    have h1 : DataW.trod enc Try.prog w 0 (fun _ => true) held n 9 (([y0, y1, y2, y3, y4, y5].drop 1).take (Try.prog.cellsOf 9)) = xs[1]? := hf 1 _ rfl
    rw [c9] at h1
    change DataW.trod enc Try.prog w 0 (fun _ => true) held n 9 [y1] = xs[1]? at h1
    have h2 : DataW.trod enc Try.prog w 0 (fun _ => true) held n 9 (([y0, y1, y2, y3, y4, y5].drop 2).take (Try.prog.cellsOf 9)) = xs[2]? := hf 2 _ rfl
    rw [c9] at h2
    change DataW.trod enc Try.prog w 0 (fun _ => true) held n 9 [y2] = xs[2]? at h2
    have h3 : DataW.trod enc Try.prog w 0 (fun _ => true) held n 34 (([y0, y1, y2, y3, y4, y5].drop 3).take (Try.prog.cellsOf 34)) = xs[3]? := hf 3 _ rfl
    rw [c34] at h3
    change DataW.trod enc Try.prog w 0 (fun _ => true) held n 34 [y3] = xs[3]? at h3
    have h4 : DataW.trod enc Try.prog w 0 (fun _ => true) held n 29 (([y0, y1, y2, y3, y4, y5].drop 4).take (Try.prog.cellsOf 29)) = xs[4]? := hf 4 _ rfl
    rw [c33] at h4
    change DataW.trod enc Try.prog w 0 (fun _ => true) held n 29 [y4] = xs[4]? at h4
    have h5 : DataW.trod enc Try.prog w 0 (fun _ => true) held n 3 (([y0, y1, y2, y3, y4, y5].drop 5).take (Try.prog.cellsOf 3)) = xs[5]? := hf 5 _ rfl
    rw [c3] at h5
    change DataW.trod enc Try.prog w 0 (fun _ => true) held n 3 [y5] = xs[5]? at h5
    have hx6 : xs.length = 6 := hxl
    rw [List.getElem?_eq_getElem (by omega)] at h0 h1 h2 h3 h4 h5
    obtain ⟨zk, e0, _, _⟩ := DataW.trod_int Try.underlying3 h0
    obtain ⟨T, e1, _, _⟩ := DataW.trod_string Try.underlying9 h1
    obtain ⟨U, e2, _, _⟩ := DataW.trod_string Try.underlying9 h2
    obtain ⟨A, m, c, e3⟩ : ∃ A m c, y3 = .slice A m c := by
      rcases DataW.trod_slice Try.underlying34 h3 with ⟨e, _⟩ | ⟨a, l, c, _, _, _, _, e, _⟩
      · exact ⟨none, 0, 0, by simpa using e⟩
      · exact ⟨some a, l, c, by simpa using e⟩
    obtain ⟨z, e4, _, hz⟩ := DataW.trod_int Try.underlying29 h4
    obtain ⟨zm, e5, _, _⟩ := DataW.trod_int Try.underlying3 h5
    cases e0; cases e1; cases e2; subst e3; cases e4; cases e5
    obtain ⟨l, hb, hnil, hlc, hmx⟩ := open_byt Try.underlying34 Try.underlying5 (by kernel_rfl) ⟨n, h3⟩
    obtain ⟨z0, z1⟩ := bounds_w64 hz
    obtain ⟨u, rfl⟩ : ∃ u : Nat, z = (u : Int) := ⟨z.toNat, by omega⟩
    exact ⟨⟨zk, T.data.toList, U.data.toList, l, u, zm⟩, ⟨A, m, c, rfl, hb.off (fun k hk => hk), fun hA => ⟨by have := hnil hA; omega, hnil hA⟩, hlc, hmx⟩, by show u < _; omega⟩

set_option maxRecDepth 100000 in
theorem open_sps {a : Option Addr} {len cap : Nat} {d : DataW H} {p : List MemPlace} (h : DataW.Trod enc Try.prog w 0 (fun _ => true) held 22 (.slice a len cap) d p) :
    ∃ ss, Sps w (fun k => w.heap.size ≤ k) a len ss ∧ (∀ s ∈ ss, s.n < 18446744073709551616) ∧ (a = none → cap = 0) ∧ len ≤ cap ∧ cap ≤ maxLen := by
  obtain ⟨fuel, hf⟩ := h
  have c6 : Try.prog.cellsOf 36 = 6 := by kernel_rfl
  rcases DataW.trod_slice Try.underlying22 hf with ⟨hcs, _⟩ | ⟨ad, len', cap', elems, rest, m, _, hcs, hx, hb, hl, hm, hlen, hel, _, _⟩
  · simp [Value.cells] at hcs
    obtain ⟨rfl, rfl, rfl⟩ := hcs
    exact ⟨[], ⟨rfl, fun h => absurd h (by omega)⟩, fun _ h => (by cases h), fun _ => rfl, Nat.le_refl _, Nat.zero_le _⟩
  · simp [Value.cells] at hcs
    obtain ⟨rfl, rfl, rfl⟩ := hcs
    have each : ∀ i, i < len → ∃ s : Sp, ∃ cs : List Value, cs.length = 6 ∧ (∀ j, j < 6 → w.cell? (ad.add (i * 6 + j)) = cs[j]?) ∧ SpV w (fun k => w.heap.size ≤ k) (.agg cs.toArray) s ∧ s.n < 18446744073709551616 := by
      intro i hi
      have h1 := hel i hi
      rw [c6] at h1
      rw [List.getElem?_eq_getElem (by omega), Option.bind_eq_some_iff] at h1
      obtain ⟨cs, h2, h3⟩ := h1
      obtain ⟨h4, h5, h6⟩ := World.cells?_some h2
      obtain ⟨s, h7, h8⟩ := open_sp h3 h5
      exact ⟨s, cs, h5, fun j hj => by rw [← h6 j hj, Addr.add_add], h7, h8⟩
    obtain ⟨ss, hsl, hss⟩ := list_of len each
    refine ⟨ss, ⟨hsl, fun hn => ?_⟩, fun s hs => ?_, (fun h => by cases h), hl, hm⟩
    · obtain ⟨g, o, spot⟩ := ad
      obtain ⟨s0, cs0, hl0, hc0, _⟩ := each 0 hn
      have hcell0 : w.cell? ((⟨g, o, spot⟩ : Addr).add 0) = some (cs0[0]'(by omega)) := by
        have := hc0 0 (by omega)
        rw [List.getElem?_eq_getElem (by omega)] at this
        simpa using this
      have hspot : spot = none := by simpa [Addr.add] using World.cell?_spot hcell0
      subst hspot
      have hgl : g < w.heap.size := by
        have := World.block_lt_of_cell? w _ hcell0
        simpa [Addr.add] using this
      refine ⟨g, o, rfl, Nat.not_le.2 hgl, fun j s hj => ?_⟩
      obtain ⟨cs, h1, h2, h3, _⟩ := hss j s hj
      have hc : ∀ i v, cs[i]? = some v → w.cell? ⟨g, o + j * 6 + i, none⟩ = some v := fun i v hv => by
        have hi : i < 6 := by
          have := (List.getElem?_eq_some_iff.1 hv).1
          omega
        have := h2 i hi
        rw [Addr.add_lit, hv] at this
        rw [Nat.add_assoc]
        exact this
      match cs, h1 with
      | [y0, y1, y2, y3, y4, y5], _ => exact ⟨y0, y1, y2, y3, y4, y5, ⟨hc 0 _ rfl, hc 1 _ rfl, hc 2 _ rfl, hc 3 _ rfl, hc 4 _ rfl, hc 5 _ rfl⟩, h3⟩
    · obtain ⟨i, hi⟩ := List.mem_iff_getElem?.1 hs
      obtain ⟨cs, _, _, _, h⟩ := hss i s hi
      exact h
end

end Go.Proofs.Ytnjkilmhphcocaa
