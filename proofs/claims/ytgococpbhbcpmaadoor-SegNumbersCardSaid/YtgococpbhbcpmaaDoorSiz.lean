/-
  What the form's own reach says of texts and of bytes that lie in slices.
-/
import Derived.Test.YtgococpbhbcpmaaDoorOne
import Derived.Test.YtgococpbhbcpmaaDoorBxB
import Derived.SizedLaws
namespace Go.Proofs.YtgococpbhbcpmaaDoor
open Go.RowKit
open Go.ChangeShapes Go.WideShapes Go.ChangeAt
set_option linter.unusedVariables false
set_option linter.unusedSimpArgs false

theorem weights_all_mem {H : Type} {P : Program} {e : TypeId} : ∀ (l : List (DataW H)) (i : Nat) (d : DataW H), l[i]? = some d → ∀ n ∈ d.weights P e, n ∈ DataW.weightsAll P e l
  | [], i, d, h, n, hn => by cases h
  | x :: l, 0, d, h, n, hn => by
    cases h
    simp only [DataW.weightsAll, List.mem_append]
    exact .inl hn
  | x :: l, i + 1, d, h, n, hn => by
    simp only [DataW.weightsAll, List.mem_append]
    exact .inr (weights_all_mem l i d h n hn)
theorem weights_elem {H : Type} {P : Program} {t e : TypeId} (ht : P.underlying t = some (.slice e)) {elems spare : List (DataW H)} {i : Nat} {d : DataW H} (hd : elems[i]? = some d) : ∀ n ∈ d.weights P e, n ∈ (DataW.slice elems spare).weights P t := by
  intro n hn
  simp only [DataW.weights, ht, List.mem_cons, List.mem_append]
  exact .inr (.inl (weights_all_mem elems i d hd n hn))
/-- An element of a slice of one-cell elements: its cell, and what is read of it. -/
theorem trod_elem {P : Program} {H : Type} {enc : TypeId × Value → H} {w : World} {held : Bool} {a : Option Addr} {len cap : Nat} {d : DataW H} {p : List MemPlace} {t e : TypeId} (ht : P.underlying t = some (.slice e)) (hc : P.cellsOf e = 1)
    (h : DataW.Trod enc P w 0 (fun _ => true) held t (.slice a len cap) d p) {R : Nat} (hw : ∀ n ∈ d.weights P t, n ≤ R) (ad : Addr) (ha : a = some ad) (i : Nat) (hi : i < len) (v : Value) (hv : w.cell? (ad.add i) = some v) :
    ∃ m x, DataW.trod enc P w 0 (fun _ => true) held m e [v] = some x ∧ ∀ n ∈ x.1.weights P e, n ≤ R := by
  obtain ⟨fuel, hf⟩ := h
  rcases DataW.trod_slice ht hf with ⟨hcs, _⟩ | ⟨ad', len', cap', elems, rest, m, _, hcs, hx, hb, hl, hm, hlen, hel, _, _⟩
  · simp [Value.cells] at hcs
    obtain ⟨rfl, rfl, rfl⟩ := hcs
    cases ha
  · simp [Value.cells] at hcs
    obtain ⟨rfl, rfl, rfl⟩ := hcs
    cases ha
    have h1 := hel i hi
    rw [hc, Nat.mul_one] at h1
    obtain ⟨x, hx2⟩ : ∃ x, elems[i]? = some x := ⟨_, List.getElem?_eq_getElem (by omega)⟩
    rw [hx2, Option.bind_eq_some_iff] at h1
    obtain ⟨cs, h2, h3⟩ := h1
    obtain ⟨h4, h5, h6⟩ := World.cells?_some h2
    obtain ⟨u, rfl⟩ := List.length_eq_one_iff.1 h5
    have h7 := h6 0 (by omega)
    rw [Addr.add_add, Nat.add_zero, hv] at h7
    obtain rfl : v = u := by simpa using h7
    refine ⟨m, x, h3, fun n hn => hw n ?_⟩
    simp only [Prod.mk.injEq] at hx
    rw [hx.1]
    exact weights_elem ht (by rw [List.getElem?_map, hx2]; rfl) n hn

theorem txs_reach {P : Program} {H : Type} {enc : TypeId × Value → H} {w : World} {held : Bool} {a : Option Addr} {len cap : Nat} {d : DataW H} {p : List MemPlace} {t e : TypeId} (ht : P.underlying t = some (.slice e)) (hc : P.cellsOf e = 1) (he : P.underlying e = some .string)
    (h : DataW.Trod enc P w 0 (fun _ => true) held t (.slice a len cap) d p) {R : Nat} (hw : ∀ n ∈ d.weights P t, n ≤ R) {l : List (List UInt8)} (hl : Txs w (fun k => w.heap.size ≤ k) a len l) : ∀ s ∈ l, s.length ≤ R := by
  intro s hs
  obtain ⟨j, hj⟩ := List.mem_iff_getElem?.1 hs
  obtain ⟨g, o, ha, _, _, hcell⟩ := Txs.at_ hl hj
  have hjl : j < len := by have := (List.getElem?_eq_some_iff.1 hj).1; have := hl.len; omega
  obtain ⟨m, x, h1, h2⟩ := trod_elem ht hc h hw _ ha j hjl _ (by rw [Addr.add_lit]; exact hcell)
  obtain ⟨s', h3, rfl, _⟩ := DataW.trod_string he h1
  simp only [List.cons.injEq, Value.string.injEq, and_true] at h3
  subst h3
  have := h2 s.length (by simp [DataW.weights])
  exact this

theorem lst_reach {P : Program} {H : Type} {enc : TypeId × Value → H} {w : World} {held : Bool} {a : Option Addr} {len cap : Nat} {d : DataW H} {p : List MemPlace} {t e u : TypeId} (ht : P.underlying t = some (.slice e)) (hc : P.cellsOf e = 1) (he : P.underlying e = some (.slice u)) (hu : P.bytesOf u = 1)
    (h : DataW.Trod enc P w 0 (fun _ => true) held t (.slice a len cap) d p) {R : Nat} (hw : ∀ n ∈ d.weights P t, n ≤ R) {l : List (List UInt8)} (hl : Lst w (fun k => w.heap.size ≤ k) a len l) : ∀ s ∈ l, s.length ≤ R := by
  intro s hs
  obtain ⟨j, hj⟩ := List.mem_iff_getElem?.1 hs
  obtain ⟨g, o, A2, n2, c2, ha, _, _, hcell, hbs, _⟩ := Lst.at_ hl hj
  have hjl : j < len := by have := (List.getElem?_eq_some_iff.1 hj).1; have := hl.1; rw [bts_len] at this; omega
  obtain ⟨m, x, h1, h2⟩ := trod_elem ht hc h hw _ ha j hjl _ (by rw [Addr.add_lit]; exact hcell)
  have hn := hbs.1
  rcases DataW.trod_slice he h1 with ⟨hcs, _⟩ | ⟨ad', len', cap', elems, rest, m', _, hcs, hx, hb, hl', hm, hlen, hel, _, _⟩
  · simp at hcs
    omega
  · simp at hcs
    obtain ⟨rfl, rfl, rfl⟩ := hcs
    subst hx
    have := h2 ((elems.length + rest.length) * P.bytesOf u) (by simp [DataW.weights, he])
    rw [hu] at this
    omega

end Go.Proofs.YtgococpbhbcpmaaDoor
