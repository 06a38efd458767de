/-
  Slices whose elements are one cell each, as lists of parts; an argument that is one, opened; lists of texts, of numbers.
-/
import Derived.Test.YtgococpbhbcpmaaDoorPrtO
import Derived.Test.YtgococpbhbcpmaaDoorOpen
namespace Go.Proofs.YtgococpbhbcpmaaDoor
open Go.RowKit
open Go.ChangeShapes Go.WideShapes Go.ChangeAt
set_option linter.unusedVariables false
set_option linter.unusedSimpArgs false

def ones (ps : List Prt) : List (List Prt) := ps.map fun p => [p]
theorem ones_len (ps : List Prt) : (ones ps).length = ps.length := List.length_map ..
theorem ones_snoc (ps : List Prt) (p : Prt) : ones (ps ++ [p]) = ones ps ++ [[p]] := by unfold ones; simp
theorem ones_one (ps : List Prt) : ∀ f ∈ ones ps, f.length = 1 := by
  intro f hf
  obtain ⟨b, _, rfl⟩ := List.mem_map.1 hf
  rfl
theorem ones_flat (ps : List Prt) : (ones ps).flatten = ps := by
  induction ps with
  | nil => rfl
  | cons p ps ih => show [p] ++ (ones ps).flatten = p :: ps; rw [ih]; rfl
/-- The slice value '.slice A n c' reads as these parts. -/
def One (w : World) (S : Nat → Prop) (A : Option Addr) (n : Nat) (ps : List Prt) : Prop := Sls w S 1 A n (ones ps)
section
variable {w w' : World} {S S' : Nat → Prop} {A : Option Addr} {n : Nat} {ps : List Prt}
theorem One.len (h : One w S A n ps) : ps.length = n := by have := h.1; rwa [ones_len] at this
theorem One.at_ (h : One w S A n ps) {j : Nat} {p : Prt} (hj : ps[j]? = some p) : ∃ g o v, A = some ⟨g, o, none⟩ ∧ ¬ S g ∧ g < w.heap.size ∧ w.cell? ⟨g, o + j, none⟩ = some v ∧ PrtV w S v p := by
  have hj' : (ones ps)[j]? = some [p] := by unfold ones; rw [List.getElem?_map, hj]; rfl
  obtain ⟨g, o, ys, e, hs, hl, hp, _, hc⟩ := Sls.at_ h hj'
  obtain ⟨v, r, rfl, h2, hr⟩ := hp
  refine ⟨g, o, v, e, hs, hl, ?_, h2⟩
  have := hc 0 _ rfl
  rwa [Nat.mul_one, Nat.add_zero] at this
theorem One.nil : One w S A 0 [] := Sls.nil
theorem One.turn (h : One w S A n ps) (ht : Turn S w w') : One w' S A n ps := Sls.turn h ht
theorem One.below (h : One w S A n ps) (hb : Below w.heap.size w w') : One w' S A n ps :=
  Sls.turn h ⟨hb.os, hb.tape, hb.output, hb.size, fun k hk hn => hb.block k hk⟩
end

theorem open_one {P : Program} {H : Type} {enc : TypeId × Value → H} {w : World} {held : Bool} {a : Option Addr} {len cap : Nat} {d : DataW H} {p : List MemPlace} {t e : TypeId} {pk : PK} (ht : P.underlying t = some (.slice e)) (hc : P.cellsOf e = 1) (hfit : pk.fits P e)
    (h : DataW.Trod enc P w 0 (fun _ => true) held t (.slice a len cap) d p) :
    ∃ ps : List Prt, One w (fun k => w.heap.size ≤ k) a len ps ∧ (∀ p ∈ ps, p.kind = pk ∧ p.okay) ∧ (a = none → cap = 0) ∧ len ≤ cap ∧ cap ≤ maxLen := by
  obtain ⟨fuel, hf⟩ := h
  rcases DataW.trod_slice ht hf with ⟨hcs, _⟩ | ⟨ad, len', cap', elems, rest, m, _, hcs, hx, hb, hl, hm, hlen, hel, _, _⟩
  · simp [Value.cells] at hcs
    obtain ⟨rfl, rfl, rfl⟩ := hcs
    exact ⟨[], One.nil, fun _ h => (by cases h), fun _ => rfl, Nat.le_refl _, Nat.zero_le _⟩
  · simp [Value.cells] at hcs
    obtain ⟨rfl, rfl, rfl⟩ := hcs
    have each : ∀ i, i < len → ∃ s : Prt, ∃ v, w.cell? (ad.add i) = some v ∧ PrtV w (fun k => w.heap.size ≤ k) v s ∧ s.kind = pk ∧ s.okay := by
      intro i hi
      have h1 := hel i hi
      rw [hc, Nat.mul_one] at h1
      rw [List.getElem?_eq_getElem (by omega), Option.bind_eq_some_iff] at h1
      obtain ⟨cs, h2, h3⟩ := h1
      obtain ⟨h4, h5, h6⟩ := World.cells?_some h2
      obtain ⟨v, rfl⟩ := List.length_eq_one_iff.1 h5
      obtain ⟨p, hp, hv, ho⟩ := open_prt hfit h3
      exact ⟨p, v, by have := h6 0 (by omega); rw [Addr.add_add, Nat.add_zero] at this; simpa using this, hv, hp, ho⟩
    obtain ⟨ss, hsl, hss⟩ := list_of len each
    refine ⟨ss, ⟨by rw [ones_len]; exact hsl, ones_one ss, fun hn => ?_⟩, fun q hq => ?_, (fun h => by cases h), hl, hm⟩
    · obtain ⟨g, o, spot⟩ := ad
      obtain ⟨s0, v0, hc0, _⟩ := each 0 hn
      have hspot : spot = none := by simpa [Addr.add] using World.cell?_spot hc0
      subst hspot
      have hgl : g < w.heap.size := by
        have := World.block_lt_of_cell? w _ hc0
        simpa [Addr.add] using this
      refine ⟨g, o, rfl, Nat.not_le.2 hgl, hgl, fun j f hj => ?_⟩
      obtain ⟨s, hs, rfl⟩ : ∃ s, ss[j]? = some s ∧ [s] = f := by
        unfold ones at hj
        rw [List.getElem?_map] at hj
        obtain ⟨s, hs, e⟩ := Option.map_eq_some_iff.1 hj
        exact ⟨s, hs, e⟩
      obtain ⟨v, hv, hp, _⟩ := hss j s hs
      refine ⟨[v], ⟨v, [], rfl, hp, rfl⟩, fun i y hy => ?_⟩
      match i, hy with
      | 0, hy =>
        simp at hy
        subst hy
        rw [Nat.mul_one, Nat.add_zero]
        rwa [Addr.add_lit] at hv
    · obtain ⟨j, hj⟩ := List.mem_iff_getElem?.1 hq
      obtain ⟨v, _, _, h1, h2⟩ := hss j q hj
      exact ⟨h1, h2⟩

/-- Texts. -/
def Txs (w : World) (S : Nat → Prop) (A : Option Addr) (n : Nat) (l : List (List UInt8)) : Prop := One w S A n (l.map Prt.txt)
theorem Txs.at_ {w : World} {S : Nat → Prop} {A : Option Addr} {n : Nat} {l : List (List UInt8)} (h : Txs w S A n l) {j : Nat} {s : List UInt8} (hj : l[j]? = some s) : ∃ g o, A = some ⟨g, o, none⟩ ∧ ¬ S g ∧ g < w.heap.size ∧ w.cell? ⟨g, o + j, none⟩ = some (.string ⟨s.toArray⟩) := by
  obtain ⟨g, o, v, e, h1, h2, h3, rfl⟩ := One.at_ h (p := .txt s) (by rw [List.getElem?_map, hj]; rfl)
  exact ⟨g, o, e, h1, h2, h3⟩
theorem Txs.len {w : World} {S : Nat → Prop} {A : Option Addr} {n : Nat} {l : List (List UInt8)} (h : Txs w S A n l) : l.length = n := by have := One.len h; rwa [List.length_map] at this
theorem Txs.below {w w' : World} {S : Nat → Prop} {A : Option Addr} {n : Nat} {l : List (List UInt8)} (h : Txs w S A n l) (hb : Below w.heap.size w w') : Txs w' S A n l := One.below h hb
/-- Numbers. -/
def Nts (w : World) (S : Nat → Prop) (A : Option Addr) (n : Nat) (l : List Nat) : Prop := One w S A n (l.map fun (x : Nat) => Prt.num .u64 (x : Int))
theorem Nts.at_ {w : World} {S : Nat → Prop} {A : Option Addr} {n : Nat} {l : List Nat} (h : Nts w S A n l) {j : Nat} {x : Nat} (hj : l[j]? = some x) : ∃ g o, A = some ⟨g, o, none⟩ ∧ ¬ S g ∧ g < w.heap.size ∧ w.cell? ⟨g, o + j, none⟩ = some (.int .u64 (x : Int)) := by
  obtain ⟨g, o, v, e, h1, h2, h3, rfl⟩ := One.at_ h (p := .num .u64 (x : Int)) (by rw [List.getElem?_map, hj]; rfl)
  exact ⟨g, o, e, h1, h2, h3⟩
theorem Nts.len {w : World} {S : Nat → Prop} {A : Option Addr} {n : Nat} {l : List Nat} (h : Nts w S A n l) : l.length = n := by have := One.len h; rwa [List.length_map] at this

theorem Nts.below {w w' : World} {S : Nat → Prop} {A : Option Addr} {n : Nat} {l : List Nat} (h : Nts w S A n l) (hb : Below w.heap.size w w') : Nts w' S A n l := One.below h hb

theorem open_txs {H : Type} {enc : TypeId × Value → H} {w : World} {held : Bool} {a : Option Addr} {len cap : Nat} {d : DataW H} {p : List MemPlace} (h : DataW.Trod enc Tryd.prog w 0 (fun _ => true) held 31 (.slice a len cap) d p) :
    ∃ l, Txs w (fun k => w.heap.size ≤ k) a len l ∧ (∀ s ∈ l, s.length ≤ maxLen) ∧ (a = none → cap = 0) ∧ len ≤ cap ∧ cap ≤ maxLen := by
  have hc : Tryd.prog.cellsOf 9 = 1 := by kernel_rfl
  have hfit : PK.fits Tryd.prog 9 .txt := Tryd.underlying9
  obtain ⟨ps, h1, h2, h3⟩ := open_one Tryd.underlying31 hc hfit h
  have key : ∀ ps : List Prt, (∀ p ∈ ps, p.kind = .txt ∧ p.okay) → ∃ l : List (List UInt8), ps = l.map Prt.txt ∧ ∀ s ∈ l, s.length ≤ maxLen := by
    intro ps
    induction ps with
    | nil => intro _; exact ⟨[], rfl, fun _ h => by cases h⟩
    | cons p ps ih =>
      intro h
      obtain ⟨l, rfl, hl⟩ := ih fun q hq => h q (List.mem_cons_of_mem _ hq)
      obtain ⟨hk, ho⟩ := h p List.mem_cons_self
      cases p with
      | txt s =>
        refine ⟨s :: l, rfl, fun t ht => ?_⟩
        rcases List.mem_cons.1 ht with rfl | ht
        · exact ho
        · exact hl t ht
      | _ => cases hk
  obtain ⟨l, rfl, hl⟩ := key ps h2
  exact ⟨l, h1, hl, h3⟩

end Go.Proofs.YtgococpbhbcpmaaDoor
