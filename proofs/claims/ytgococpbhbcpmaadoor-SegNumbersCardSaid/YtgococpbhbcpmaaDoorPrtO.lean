/-
  Arguments that are structs, and slices of structs, opened by their parts. No program stands here.
-/
import Derived.Test.YtgococpbhbcpmaaDoorPrt
import Derived.Test.YtgococpbhbcpmaaDoorOpenL
import Derived.ChangeArms
namespace Go.Proofs.YtgococpbhbcpmaaDoor
open Go.RowKit
open Go.ChangeShapes Go.WideShapes Go.ChangeAt
set_option linter.unusedVariables false
set_option linter.unusedSimpArgs false

/-- What a part is. -/
inductive PK where
  | num (k : IntKind)
  | txt
  | byt
  | flag
def Prt.kind : Prt → PK
  | .num k _ => .num k
  | .txt _ => .txt
  | .byt _ => .byt
  | .flag _ => .flag
def Prt.okay : Prt → Prop
  | .num k z => (Lit.int k z).wf = true
  | .txt l => l.length ≤ maxLen
  | _ => True
/-- The type's own part. -/
def PK.fits (P : Program) (t : TypeId) : PK → Prop
  | .num k => P.underlying t = some (.int k)
  | .txt => P.underlying t = some .string
  | .byt => ∃ e, P.underlying t = some (.slice e) ∧ P.underlying e = some (.int .u8) ∧ P.cellsOf e = 1
  | .flag => P.underlying t = some .bool
/-- The fields of a struct are these parts, a cell each. -/
def Fits (P : Program) (fs : Array Field) (pks : List PK) : Prop :=
  fs.size = pks.length ∧ ∀ (i : Nat) (pk : PK), pks[i]? = some pk → ∃ f, fs[i]? = some f ∧ f.offset = i ∧ P.cellsOf f.type = 1 ∧ pk.fits P f.type

section
variable {H : Type} {enc : TypeId × Value → H} {P : Program} {w : World} {held : Bool}

theorem open_prt {fuel : Nat} {t : TypeId} {pk : PK} {v : Value} {x : DataW H × List MemPlace} (hf : pk.fits P t) (h : DataW.trod enc P w 0 (fun _ => true) held fuel t [v] = some x) :
    ∃ p : Prt, p.kind = pk ∧ PrtV w (fun k => w.heap.size ≤ k) v p ∧ p.okay := by
  cases pk with
  | num k =>
    obtain ⟨z, e, _, hz⟩ := DataW.trod_int hf h
    exact ⟨.num k z, rfl, (by simpa using e : v = .int k z), hz⟩
  | txt =>
    obtain ⟨s, e, _, hs⟩ := DataW.trod_string hf h
    refine ⟨.txt s.data.toList, rfl, ?_, (by simpa using hs : s.data.toList.length ≤ maxLen)⟩
    show v = .string ⟨s.data.toList.toArray⟩
    simpa using e
  | byt =>
    obtain ⟨e, h1, h2, h3⟩ := hf
    obtain ⟨A, m, c, rfl⟩ : ∃ A m c, v = .slice A m c := by
      rcases DataW.trod_slice h1 h with ⟨e, _⟩ | ⟨a, l, c, _, _, _, _, e, _⟩
      · exact ⟨none, 0, 0, by simpa using e⟩
      · exact ⟨some a, l, c, by simpa using e⟩
    obtain ⟨l, hb, hnil, hlc, hmx⟩ := open_byt h1 h2 h3 ⟨fuel, h⟩
    exact ⟨.byt l, rfl, ⟨A, m, c, rfl, hb.off (fun k hk => hk), fun hA => ⟨by have := hnil hA; omega, hnil hA⟩, hlc, hmx⟩, trivial⟩
  | flag =>
    obtain ⟨b, e, _⟩ := DataW.trod_bool hf h
    exact ⟨.flag b, rfl, (by simpa using e : v = .bool b), trivial⟩

theorem open_prts {fuel : Nat} {t : TypeId} {fs : Array Field} {pks : List PK} {cs : List Value} {x : DataW H × List MemPlace} (ht : P.underlying t = some (.struct fs)) (hc : P.cellsOf t = pks.length) (hF : Fits P fs pks)
    (h : DataW.trod enc P w 0 (fun _ => true) held fuel t cs = some x) : ∃ ps : List Prt, ps.map Prt.kind = pks ∧ PrtsV w (fun k => w.heap.size ≤ k) cs ps ∧ ∀ p ∈ ps, p.okay := by
  obtain ⟨xs, n, _, _, hl, hxl, hf⟩ := DataW.trod_struct ht h
  rw [hc] at hl
  have each : ∀ (j : Nat) (rest : List PK) (r : List Value), pks.drop j = rest → cs.drop j = r → ∃ ps : List Prt, ps.map Prt.kind = rest ∧ PrtsV w (fun k => w.heap.size ≤ k) r ps ∧ ∀ p ∈ ps, p.okay := by
    intro j rest
    induction rest generalizing j with
    | nil =>
      intro r h1 h2
      have : pks.length ≤ j := List.drop_eq_nil_iff.1 h1
      refine ⟨[], rfl, ?_, fun p hp => by cases hp⟩
      show r = []
      rw [← h2]
      exact List.drop_eq_nil_of_le (by omega)
    | cons pk rest ih =>
      intro r h1 h2
      have hj : j < pks.length := by
        rcases Nat.lt_or_ge j pks.length with h | h
        · exact h
        · rw [List.drop_eq_nil_of_le h] at h1; cases h1
      have hpk : pks[j]? = some pk := by
        have := congrArg List.head? h1
        simpa [List.head?_drop] using this
      have h1' : pks.drop (j + 1) = rest := by
        have := congrArg (List.drop 1) h1
        simpa [List.drop_drop, Nat.add_comm] using this
      obtain ⟨f, hfj, ho, hc1, hfit⟩ := hF.2 j pk hpk
      have hcj : cs[j]? = some (cs[j]'(by omega)) := List.getElem?_eq_getElem (by omega)
      obtain ⟨v, hv⟩ : ∃ v, cs[j]'(by omega) = v := ⟨_, rfl⟩
      rw [hv] at hcj
      have hr : r = v :: cs.drop (j + 1) := by
        rw [← h2, ← hv]
        exact List.drop_eq_getElem_cons (by omega)
      have htr := hf j f hfj
      rw [ho, hc1, List.drop_eq_getElem_cons (by omega : j < cs.length), hv] at htr
      have hxj : xs[j]? = some (xs[j]'(by have := hF.1; omega)) := List.getElem?_eq_getElem _
      rw [hxj] at htr
      obtain ⟨p, hp1, hp2, hp3⟩ := open_prt hfit (show DataW.trod enc P w 0 (fun _ => true) held n f.type [v] = _ from by simpa using htr)
      obtain ⟨ps, hq1, hq2, hq3⟩ := ih (j + 1) _ h1' rfl
      refine ⟨p :: ps, by rw [List.map_cons, hp1, hq1], ⟨v, _, hr, hp2, hq2⟩, fun q hq => ?_⟩
      rcases List.mem_cons.1 hq with rfl | hq
      · exact hp3
      · exact hq3 q hq
  obtain ⟨ps, h1, h2, h3⟩ := each 0 pks cs rfl rfl
  exact ⟨ps, h1, h2, h3⟩

theorem open_sls {t e : TypeId} {fs : Array Field} {pks : List PK} {a : Option Addr} {len cap : Nat} {d : DataW H} {p : List MemPlace} (ht : P.underlying t = some (.slice e)) (he : P.underlying e = some (.struct fs)) (hc : P.cellsOf e = pks.length) (hk : 0 < pks.length) (hF : Fits P fs pks)
    (h : DataW.Trod enc P w 0 (fun _ => true) held t (.slice a len cap) d p) :
    ∃ ss : List (List Prt), Sls w (fun k => w.heap.size ≤ k) pks.length a len ss ∧ (∀ ps ∈ ss, ps.map Prt.kind = pks ∧ ∀ p ∈ ps, p.okay) ∧ (a = none → cap = 0) ∧ len ≤ cap ∧ cap ≤ maxLen := by
  obtain ⟨fuel, hf⟩ := h
  rcases DataW.trod_slice ht hf with ⟨hcs, _⟩ | ⟨ad, len', cap', elems, rest, m, _, hcs, hx, hb, hl, hm, hlen, hel, _, _⟩
  · simp [Value.cells] at hcs
    obtain ⟨rfl, rfl, rfl⟩ := hcs
    exact ⟨[], Sls.nil, fun _ h => (by cases h), fun _ => rfl, Nat.le_refl _, Nat.zero_le _⟩
  · simp [Value.cells] at hcs
    obtain ⟨rfl, rfl, rfl⟩ := hcs
    have each : ∀ i, i < len → ∃ s : List Prt, ∃ cs : List Value, cs.length = pks.length ∧ (∀ j, j < pks.length → w.cell? (ad.add (i * pks.length + j)) = cs[j]?) ∧ s.map Prt.kind = pks ∧ PrtsV w (fun k => w.heap.size ≤ k) cs s ∧ ∀ p ∈ s, p.okay := by
      intro i hi
      have h1 := hel i hi
      rw [hc] at h1
      rw [List.getElem?_eq_getElem (by omega), Option.bind_eq_some_iff] at h1
      obtain ⟨cs, h2, h3⟩ := h1
      obtain ⟨h4, h5, h6⟩ := World.cells?_some h2
      obtain ⟨s, h7, h8, h9⟩ := open_prts he hc hF h3
      exact ⟨s, cs, h5, fun j hj => by rw [← h6 j hj, Addr.add_add], h7, h8, h9⟩
    obtain ⟨ss, hsl, hss⟩ := list_of len each
    have hmem : ∀ s ∈ ss, s.map Prt.kind = pks ∧ ∀ p ∈ s, p.okay := fun s hs => by
      obtain ⟨i, hi⟩ := List.mem_iff_getElem?.1 hs
      obtain ⟨cs, _, _, h3, _, h5⟩ := hss i s hi
      exact ⟨h3, h5⟩
    refine ⟨ss, ⟨hsl, fun s hs => by rw [← (hmem s hs).1, List.length_map], fun hn => ?_⟩, hmem, (fun h => by cases h), hl, hm⟩
    obtain ⟨g, o, spot⟩ := ad
    obtain ⟨s0, cs0, hl0, hc0, _⟩ := each 0 hn
    have hcell0 : w.cell? ((⟨g, o, spot⟩ : Addr).add 0) = some (cs0[0]'(by omega)) := by
      have := hc0 0 (by omega)
      rw [List.getElem?_eq_getElem (by omega)] at this
      simpa using this
    have hspot : spot = none := by simpa [Addr.add] using World.cell?_spot hcell0
    subst hspot
    have hgl : g < w.heap.size := by
      have := World.block_lt_of_cell? w _ hcell0
      simpa [Addr.add] using this
    refine ⟨g, o, rfl, Nat.not_le.2 hgl, hgl, fun j s hj => ?_⟩
    obtain ⟨cs, h1, h2, _, h3, _⟩ := hss j s hj
    refine ⟨cs, h3, fun i v hv => ?_⟩
    have hi : i < pks.length := by
      have := (List.getElem?_eq_some_iff.1 hv).1
      omega
    have := h2 i hi
    rw [Addr.add_lit, hv] at this
    rw [Nat.add_assoc]
    exact this
end

end Go.Proofs.YtgococpbhbcpmaaDoor
