/-
  An argument that is a list of lists of bytes, opened.
-/
import Derived.Test.YtnmibfncgoemfaaBxB
import Derived.Test.YtnmibfncgoemfaaPrtO
import Derived.Test.YtnmibfncgoemfaaOpen
namespace Go.Proofs.Ytnmibfncgoemfaa
open Go.RowKit
open Go.ChangeShapes Go.WideShapes Go.ChangeAt
set_option linter.unusedVariables false
set_option linter.unusedSimpArgs false

theorem open_lst {H : Type} {enc : TypeId × Value → H} {w : World} {held : Bool} {a : Option Addr} {len cap : Nat} {d : DataW H} {p : List MemPlace} (h : DataW.Trod enc Try.prog w 0 (fun _ => true) held 32 (.slice a len cap) d p) :
    ∃ l, Lst w (fun k => w.heap.size ≤ k) a len l ∧ (a = none → cap = 0) ∧ len ≤ cap ∧ cap ≤ maxLen := by
  have hc : Try.prog.cellsOf 22 = 1 := by kernel_rfl
  have hfit : PK.fits Try.prog 22 .byt := ⟨_, Try.underlying22, Try.underlying5, by kernel_rfl⟩
  obtain ⟨fuel, hf⟩ := h
  rcases DataW.trod_slice Try.underlying32 hf with ⟨hcs, _⟩ | ⟨ad, len', cap', elems, rest, m, _, hcs, hx, hb, hl, hm, hlen, hel, _, _⟩
  · simp [Value.cells] at hcs
    obtain ⟨rfl, rfl, rfl⟩ := hcs
    exact ⟨[], Sls.nil, fun _ => rfl, Nat.le_refl _, Nat.zero_le _⟩
  · simp [Value.cells] at hcs
    obtain ⟨rfl, rfl, rfl⟩ := hcs
    have each : ∀ i, i < len → ∃ s : List UInt8, ∃ v, w.cell? (ad.add i) = some v ∧ PrtV w (fun k => w.heap.size ≤ k) v (.byt s) := by
      intro i hi
      have h1 := hel i hi
      rw [hc, Nat.mul_one] at h1
      rw [List.getElem?_eq_getElem (by omega), Option.bind_eq_some_iff] at h1
      obtain ⟨cs, h2, h3⟩ := h1
      obtain ⟨h4, h5, h6⟩ := World.cells?_some h2
      obtain ⟨v, rfl⟩ := List.length_eq_one_iff.1 h5
      obtain ⟨p, hp, hv, _⟩ := open_prt hfit h3
      cases p with
      | byt s => exact ⟨s, v, by have := h6 0 (by omega); rw [Addr.add_add, Nat.add_zero] at this; simpa using this, hv⟩
      | _ => cases hp
    obtain ⟨ss, hsl, hss⟩ := list_of len each
    refine ⟨ss, ⟨by rw [bts_len]; exact hsl, bts_one ss, fun hn => ?_⟩, (fun h => by cases h), hl, hm⟩
    obtain ⟨g, o, spot⟩ := ad
    obtain ⟨s0, v0, hc0, _⟩ := each 0 hn
    have hspot : spot = none := by simpa [Addr.add] using World.cell?_spot hc0
    subst hspot
    have hgl : g < w.heap.size := by
      have := World.block_lt_of_cell? w _ hc0
      simpa [Addr.add] using this
    refine ⟨g, o, rfl, Nat.not_le.2 hgl, hgl, fun j f hj => ?_⟩
    obtain ⟨s, hs, rfl⟩ : ∃ s, ss[j]? = some s ∧ [.byt s] = f := by
      unfold bts at hj
      rw [List.getElem?_map] at hj
      obtain ⟨s, hs, e⟩ := Option.map_eq_some_iff.1 hj
      exact ⟨s, hs, e⟩
    obtain ⟨v, hv, hp⟩ := hss j s hs
    refine ⟨[v], ⟨v, [], rfl, hp, rfl⟩, fun i y hy => ?_⟩
    match i, hy with
    | 0, hy =>
      simp at hy
      subst hy
      rw [Nat.mul_one, Nat.add_zero]
      rwa [Addr.add_lit] at hv

end Go.Proofs.Ytnmibfncgoemfaa
