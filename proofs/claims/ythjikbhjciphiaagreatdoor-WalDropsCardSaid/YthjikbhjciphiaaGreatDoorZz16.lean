/-
  Arguments that are structs, and slices of structs, opened by their parts. No program stands here.
-/
import Derived.Test.YthjikbhjciphiaaGreatDoorZz8
import Derived.Test.YthjikbhjciphiaaGreatDoorZz15
import Derived.ChangeArms
import Derived.Test.YthjikbhjciphiaaGreatDoorZz7
import Derived.BigQuiet
import Derived.Test.YthjikbhjciphiaaGreatDoorZz14
import Derived.SizedLaws
import Derived.Test.YthjikbhjciphiaaGreatDoorZz2
import Derived.RangeFuncNested
import Derived.RangeFuncBound
import Derived.RangeFuncCalls
import Derived.RangeFuncLeaves
namespace Go.Proofs.YthjikbhjciphiaaGreatDoor
open Go.RowKit
open Go.ChangeShapes Go.WideShapes Go.ChangeAt
set_option linter.unusedVariables false
set_option linter.unusedSimpArgs false

/-- What a part is. -/
inductive PK where
  | num (k : IntKind)
  | txt
  | byt
  | flag
def Prt.kind : Prt → PK
  | .num k _ => .num k
  | .txt _ => .txt
  | .byt _ => .byt
  | .flag _ => .flag
def Prt.okay : Prt → Prop
  | .num k z => (Lit.int k z).wf = true
  | .txt l => l.length ≤ maxLen
  | _ => True
/-- The type's own part. -/
def PK.fits (P : Program) (t : TypeId) : PK → Prop
  | .num k => P.underlying t = some (.int k)
  | .txt => P.underlying t = some .string
  | .byt => ∃ e, P.underlying t = some (.slice e) ∧ P.underlying e = some (.int .u8) ∧ P.cellsOf e = 1
  | .flag => P.underlying t = some .bool
/-- The fields of a struct are these parts, a cell each. -/
def Fits (P : Program) (fs : Array Field) (pks : List PK) : Prop :=
  fs.size = pks.length ∧ ∀ (i : Nat) (pk : PK), pks[i]? = some pk → ∃ f, fs[i]? = some f ∧ f.offset = i ∧ P.cellsOf f.type = 1 ∧ pk.fits P f.type

section
variable {H : Type} {enc : TypeId × Value → H} {P : Program} {w : World} {held : Bool}

theorem open_prt {fuel : Nat} {t : TypeId} {pk : PK} {v : Value} {x : DataW H × List MemPlace} (hf : pk.fits P t) (h : DataW.trod enc P w 0 (fun _ => true) held fuel t [v] = some x) :
    ∃ p : Prt, p.kind = pk ∧ PrtV w (fun k => w.heap.size ≤ k) v p ∧ p.okay := by
  cases pk with
  | num k =>
    obtain ⟨z, e, _, hz⟩ := DataW.trod_int hf h
    exact ⟨.num k z, rfl, (by simpa using e : v = .int k z), hz⟩
  | txt =>
    obtain ⟨s, e, _, hs⟩ := DataW.trod_string hf h
    refine ⟨.txt s.data.toList, rfl, ?_, (by simpa using hs : s.data.toList.length ≤ maxLen)⟩
    show v = .string ⟨s.data.toList.toArray⟩
    simpa using e
  | byt =>
    obtain ⟨e, h1, h2, h3⟩ := hf
    obtain ⟨A, m, c, rfl⟩ : ∃ A m c, v = .slice A m c := by
      rcases DataW.trod_slice h1 h with ⟨e, _⟩ | ⟨a, l, c, _, _, _, _, e, _⟩
      · exact ⟨none, 0, 0, by simpa using e⟩
      · exact ⟨some a, l, c, by simpa using e⟩
    obtain ⟨l, hb, hnil, hlc, hmx⟩ := open_byt h1 h2 h3 ⟨fuel, h⟩
    exact ⟨.byt l, rfl, ⟨A, m, c, rfl, hb.off (fun k hk => hk), fun hA => ⟨by have := hnil hA; omega, hnil hA⟩, hlc, hmx⟩, trivial⟩
  | flag =>
    obtain ⟨b, e, _⟩ := DataW.trod_bool hf h
    exact ⟨.flag b, rfl, (by simpa using e : v = .bool b), trivial⟩

theorem open_prts {fuel : Nat} {t : TypeId} {fs : Array Field} {pks : List PK} {cs : List Value} {x : DataW H × List MemPlace} (ht : P.underlying t = some (.struct fs)) (hc : P.cellsOf t = pks.length) (hF : Fits P fs pks)
    (h : DataW.trod enc P w 0 (fun _ => true) held fuel t cs = some x) : ∃ ps : List Prt, ps.map Prt.kind = pks ∧ PrtsV w (fun k => w.heap.size ≤ k) cs ps ∧ ∀ p ∈ ps, p.okay := by
  obtain ⟨xs, n, _, _, hl, hxl, hf⟩ := DataW.trod_struct ht h
  rw [hc] at hl
  have each : ∀ (j : Nat) (rest : List PK) (r : List Value), pks.drop j = rest → cs.drop j = r → ∃ ps : List Prt, ps.map Prt.kind = rest ∧ PrtsV w (fun k => w.heap.size ≤ k) r ps ∧ ∀ p ∈ ps, p.okay := by
    intro j rest
    induction rest generalizing j with
    | nil =>
      intro r h1 h2
      have : pks.length ≤ j := List.drop_eq_nil_iff.1 h1
      refine ⟨[], rfl, ?_, fun p hp => by cases hp⟩
      show r = []
      rw [← h2]
      exact List.drop_eq_nil_of_le (by omega)
    | cons pk rest ih =>
      intro r h1 h2
      have hj : j < pks.length := by
        rcases Nat.lt_or_ge j pks.length with h | h
        · exact h
        · rw [List.drop_eq_nil_of_le h] at h1; cases h1
      have hpk : pks[j]? = some pk := by
        have := congrArg List.head? h1
        simpa [List.head?_drop] using this
      have h1' : pks.drop (j + 1) = rest := by
        have := congrArg (List.drop 1) h1
        simpa [List.drop_drop, Nat.add_comm] using this
      obtain ⟨f, hfj, ho, hc1, hfit⟩ := hF.2 j pk hpk
      have hcj : cs[j]? = some (cs[j]'(by omega)) := List.getElem?_eq_getElem (by omega)
      obtain ⟨v, hv⟩ : ∃ v, cs[j]'(by omega) = v := ⟨_, rfl⟩
      rw [hv] at hcj
      have hr : r = v :: cs.drop (j + 1) := by
        rw [← h2, ← hv]
        exact List.drop_eq_getElem_cons (by omega)
      have htr := hf j f hfj
      rw [ho, hc1, List.drop_eq_getElem_cons (by omega : j < cs.length), hv] at htr
      have hxj : xs[j]? = some (xs[j]'(by have := hF.1; omega)) := List.getElem?_eq_getElem _
      rw [hxj] at htr
      obtain ⟨p, hp1, hp2, hp3⟩ := open_prt hfit (show DataW.trod enc P w 0 (fun _ => true) held n f.type [v] = _ from by simpa using htr)
      obtain ⟨ps, hq1, hq2, hq3⟩ := ih (j + 1) _ h1' rfl
      refine ⟨p :: ps, by rw [List.map_cons, hp1, hq1], ⟨v, _, hr, hp2, hq2⟩, fun q hq => ?_⟩
      rcases List.mem_cons.1 hq with rfl | hq
      · exact hp3
      · exact hq3 q hq
  obtain ⟨ps, h1, h2, h3⟩ := each 0 pks cs rfl rfl
  exact ⟨ps, h1, h2, h3⟩

theorem open_sls {t e : TypeId} {fs : Array Field} {pks : List PK} {a : Option Addr} {len cap : Nat} {d : DataW H} {p : List MemPlace} (ht : P.underlying t = some (.slice e)) (he : P.underlying e = some (.struct fs)) (hc : P.cellsOf e = pks.length) (hk : 0 < pks.length) (hF : Fits P fs pks)
    (h : DataW.Trod enc P w 0 (fun _ => true) held t (.slice a len cap) d p) :
    ∃ ss : List (List Prt), Sls w (fun k => w.heap.size ≤ k) pks.length a len ss ∧ (∀ ps ∈ ss, ps.map Prt.kind = pks ∧ ∀ p ∈ ps, p.okay) ∧ (a = none → cap = 0) ∧ len ≤ cap ∧ cap ≤ maxLen := by
  obtain ⟨fuel, hf⟩ := h
  rcases DataW.trod_slice ht hf with ⟨hcs, _⟩ | ⟨ad, len', cap', elems, rest, m, _, hcs, hx, hb, hl, hm, hlen, hel, _, _⟩
  · simp [Value.cells] at hcs
    obtain ⟨rfl, rfl, rfl⟩ := hcs
    exact ⟨[], Sls.nil, fun _ h => (by cases h), fun _ => rfl, Nat.le_refl _, Nat.zero_le _⟩
  · simp [Value.cells] at hcs
    obtain ⟨rfl, rfl, rfl⟩ := hcs
    have each : ∀ i, i < len → ∃ s : List Prt, ∃ cs : List Value, cs.length = pks.length ∧ (∀ j, j < pks.length → w.cell? (ad.add (i * pks.length + j)) = cs[j]?) ∧ s.map Prt.kind = pks ∧ PrtsV w (fun k => w.heap.size ≤ k) cs s ∧ ∀ p ∈ s, p.okay := by
      intro i hi
      have h1 := hel i hi
      rw [hc] at h1
      rw [List.getElem?_eq_getElem (by omega), Option.bind_eq_some_iff] at h1
      obtain ⟨cs, h2, h3⟩ := h1
      obtain ⟨h4, h5, h6⟩ := World.cells?_some h2
      obtain ⟨s, h7, h8, h9⟩ := open_prts he hc hF h3
      exact ⟨s, cs, h5, fun j hj => by rw [← h6 j hj, Addr.add_add], h7, h8, h9⟩
    obtain ⟨ss, hsl, hss⟩ := list_of len each
    have hmem : ∀ s ∈ ss, s.map Prt.kind = pks ∧ ∀ p ∈ s, p.okay := fun s hs => by
      obtain ⟨i, hi⟩ := List.mem_iff_getElem?.1 hs
      obtain ⟨cs, _, _, h3, _, h5⟩ := hss i s hi
      exact ⟨h3, h5⟩
    refine ⟨ss, ⟨hsl, fun s hs => by rw [← (hmem s hs).1, List.length_map], fun hn => ?_⟩, hmem, (fun h => by cases h), hl, hm⟩
    obtain ⟨g, o, spot⟩ := ad
    obtain ⟨s0, cs0, hl0, hc0, _⟩ := each 0 hn
    have hcell0 : w.cell? ((⟨g, o, spot⟩ : Addr).add 0) = some (cs0[0]'(by omega)) := by
      have := hc0 0 (by omega)
      rw [List.getElem?_eq_getElem (by omega)] at this
      simpa using this
    have hspot : spot = none := by simpa [Addr.add] using World.cell?_spot hcell0
    subst hspot
    have hgl : g < w.heap.size := by
      have := World.block_lt_of_cell? w _ hcell0
      simpa [Addr.add] using this
    refine ⟨g, o, rfl, Nat.not_le.2 hgl, hgl, fun j s hj => ?_⟩
    obtain ⟨cs, h1, h2, _, h3, _⟩ := hss j s hj
    refine ⟨cs, h3, fun i v hv => ?_⟩
    have hi : i < pks.length := by
      have := (List.getElem?_eq_some_iff.1 hv).1
      omega
    have := h2 i hi
    rw [Addr.add_lit, hv] at this
    rw [Nat.add_assoc]
    exact this
end

end Go.Proofs.YthjikbhjciphiaaGreatDoor

/-
  Slices whose elements are one cell each, as lists of parts; an argument that is one, opened; lists of texts, of numbers.
-/
namespace Go.Proofs.YthjikbhjciphiaaGreatDoor
open Go.RowKit
open Go.ChangeShapes Go.WideShapes Go.ChangeAt
set_option linter.unusedVariables false
set_option linter.unusedSimpArgs false

def ones (ps : List Prt) : List (List Prt) := ps.map fun p => [p]
theorem ones_len (ps : List Prt) : (ones ps).length = ps.length := List.length_map ..
theorem ones_snoc (ps : List Prt) (p : Prt) : ones (ps ++ [p]) = ones ps ++ [[p]] := by unfold ones; simp
theorem ones_one (ps : List Prt) : ∀ f ∈ ones ps, f.length = 1 := by
  intro f hf
  obtain ⟨b, _, rfl⟩ := List.mem_map.1 hf
  rfl
theorem ones_flat (ps : List Prt) : (ones ps).flatten = ps := by
  induction ps with
  | nil => rfl
  | cons p ps ih => show [p] ++ (ones ps).flatten = p :: ps; rw [ih]; rfl
/-- The slice value '.slice A n c' reads as these parts. -/
def One (w : World) (S : Nat → Prop) (A : Option Addr) (n : Nat) (ps : List Prt) : Prop := Sls w S 1 A n (ones ps)
section
variable {w w' : World} {S S' : Nat → Prop} {A : Option Addr} {n : Nat} {ps : List Prt}
theorem One.len (h : One w S A n ps) : ps.length = n := by have := h.1; rwa [ones_len] at this
theorem One.at_ (h : One w S A n ps) {j : Nat} {p : Prt} (hj : ps[j]? = some p) : ∃ g o v, A = some ⟨g, o, none⟩ ∧ ¬ S g ∧ g < w.heap.size ∧ w.cell? ⟨g, o + j, none⟩ = some v ∧ PrtV w S v p := by
  have hj' : (ones ps)[j]? = some [p] := by unfold ones; rw [List.getElem?_map, hj]; rfl
  obtain ⟨g, o, ys, e, hs, hl, hp, _, hc⟩ := Sls.at_ h hj'
  obtain ⟨v, r, rfl, h2, hr⟩ := hp
  refine ⟨g, o, v, e, hs, hl, ?_, h2⟩
  have := hc 0 _ rfl
  rwa [Nat.mul_one, Nat.add_zero] at this
theorem One.nil : One w S A 0 [] := Sls.nil
theorem One.turn (h : One w S A n ps) (ht : Turn S w w') : One w' S A n ps := Sls.turn h ht
theorem One.below (h : One w S A n ps) (hb : Below w.heap.size w w') : One w' S A n ps :=
  Sls.turn h ⟨hb.os, hb.tape, hb.output, hb.size, fun k hk hn => hb.block k hk⟩
end

theorem open_one {P : Program} {H : Type} {enc : TypeId × Value → H} {w : World} {held : Bool} {a : Option Addr} {len cap : Nat} {d : DataW H} {p : List MemPlace} {t e : TypeId} {pk : PK} (ht : P.underlying t = some (.slice e)) (hc : P.cellsOf e = 1) (hfit : pk.fits P e)
    (h : DataW.Trod enc P w 0 (fun _ => true) held t (.slice a len cap) d p) :
    ∃ ps : List Prt, One w (fun k => w.heap.size ≤ k) a len ps ∧ (∀ p ∈ ps, p.kind = pk ∧ p.okay) ∧ (a = none → cap = 0) ∧ len ≤ cap ∧ cap ≤ maxLen := by
  obtain ⟨fuel, hf⟩ := h
  rcases DataW.trod_slice ht hf with ⟨hcs, _⟩ | ⟨ad, len', cap', elems, rest, m, _, hcs, hx, hb, hl, hm, hlen, hel, _, _⟩
  · simp [Value.cells] at hcs
    obtain ⟨rfl, rfl, rfl⟩ := hcs
    exact ⟨[], One.nil, fun _ h => (by cases h), fun _ => rfl, Nat.le_refl _, Nat.zero_le _⟩
  · simp [Value.cells] at hcs
    obtain ⟨rfl, rfl, rfl⟩ := hcs
    have each : ∀ i, i < len → ∃ s : Prt, ∃ v, w.cell? (ad.add i) = some v ∧ PrtV w (fun k => w.heap.size ≤ k) v s ∧ s.kind = pk ∧ s.okay := by
      intro i hi
      have h1 := hel i hi
      rw [hc, Nat.mul_one] at h1
      rw [List.getElem?_eq_getElem (by omega), Option.bind_eq_some_iff] at h1
      obtain ⟨cs, h2, h3⟩ := h1
      obtain ⟨h4, h5, h6⟩ := World.cells?_some h2
      obtain ⟨v, rfl⟩ := List.length_eq_one_iff.1 h5
      obtain ⟨p, hp, hv, ho⟩ := open_prt hfit h3
      exact ⟨p, v, by have := h6 0 (by omega); rw [Addr.add_add, Nat.add_zero] at this; simpa using this, hv, hp, ho⟩
    obtain ⟨ss, hsl, hss⟩ := list_of len each
    refine ⟨ss, ⟨by rw [ones_len]; exact hsl, ones_one ss, fun hn => ?_⟩, fun q hq => ?_, (fun h => by cases h), hl, hm⟩
    · obtain ⟨g, o, spot⟩ := ad
      obtain ⟨s0, v0, hc0, _⟩ := each 0 hn
      have hspot : spot = none := by simpa [Addr.add] using World.cell?_spot hc0
      subst hspot
      have hgl : g < w.heap.size := by
        have := World.block_lt_of_cell? w _ hc0
        simpa [Addr.add] using this
      refine ⟨g, o, rfl, Nat.not_le.2 hgl, hgl, fun j f hj => ?_⟩
      obtain ⟨s, hs, rfl⟩ : ∃ s, ss[j]? = some s ∧ [s] = f := by
        unfold ones at hj
        rw [List.getElem?_map] at hj
        obtain ⟨s, hs, e⟩ := Option.map_eq_some_iff.1 hj
        exact ⟨s, hs, e⟩
      obtain ⟨v, hv, hp, _⟩ := hss j s hs
      refine ⟨[v], ⟨v, [], rfl, hp, rfl⟩, fun i y hy => ?_⟩
      match i, hy with
      | 0, hy =>
        simp at hy
        subst hy
        rw [Nat.mul_one, Nat.add_zero]
        rwa [Addr.add_lit] at hv
    · obtain ⟨j, hj⟩ := List.mem_iff_getElem?.1 hq
      obtain ⟨v, _, _, h1, h2⟩ := hss j q hj
      exact ⟨h1, h2⟩

/-- Texts. -/
def Txs (w : World) (S : Nat → Prop) (A : Option Addr) (n : Nat) (l : List (List UInt8)) : Prop := One w S A n (l.map Prt.txt)
theorem Txs.at_ {w : World} {S : Nat → Prop} {A : Option Addr} {n : Nat} {l : List (List UInt8)} (h : Txs w S A n l) {j : Nat} {s : List UInt8} (hj : l[j]? = some s) : ∃ g o, A = some ⟨g, o, none⟩ ∧ ¬ S g ∧ g < w.heap.size ∧ w.cell? ⟨g, o + j, none⟩ = some (.string ⟨s.toArray⟩) := by
  obtain ⟨g, o, v, e, h1, h2, h3, rfl⟩ := One.at_ h (p := .txt s) (by rw [List.getElem?_map, hj]; rfl)
  exact ⟨g, o, e, h1, h2, h3⟩
theorem Txs.len {w : World} {S : Nat → Prop} {A : Option Addr} {n : Nat} {l : List (List UInt8)} (h : Txs w S A n l) : l.length = n := by have := One.len h; rwa [List.length_map] at this
theorem Txs.below {w w' : World} {S : Nat → Prop} {A : Option Addr} {n : Nat} {l : List (List UInt8)} (h : Txs w S A n l) (hb : Below w.heap.size w w') : Txs w' S A n l := One.below h hb
/-- Numbers. -/
def Nts (w : World) (S : Nat → Prop) (A : Option Addr) (n : Nat) (l : List Nat) : Prop := One w S A n (l.map fun (x : Nat) => Prt.num .u64 (x : Int))
theorem Nts.at_ {w : World} {S : Nat → Prop} {A : Option Addr} {n : Nat} {l : List Nat} (h : Nts w S A n l) {j : Nat} {x : Nat} (hj : l[j]? = some x) : ∃ g o, A = some ⟨g, o, none⟩ ∧ ¬ S g ∧ g < w.heap.size ∧ w.cell? ⟨g, o + j, none⟩ = some (.int .u64 (x : Int)) := by
  obtain ⟨g, o, v, e, h1, h2, h3, rfl⟩ := One.at_ h (p := .num .u64 (x : Int)) (by rw [List.getElem?_map, hj]; rfl)
  exact ⟨g, o, e, h1, h2, h3⟩
theorem Nts.len {w : World} {S : Nat → Prop} {A : Option Addr} {n : Nat} {l : List Nat} (h : Nts w S A n l) : l.length = n := by have := One.len h; rwa [List.length_map] at this

theorem Nts.below {w w' : World} {S : Nat → Prop} {A : Option Addr} {n : Nat} {l : List Nat} (h : Nts w S A n l) (hb : Below w.heap.size w w') : Nts w' S A n l := One.below h hb

theorem open_txs {H : Type} {enc : TypeId × Value → H} {w : World} {held : Bool} {a : Option Addr} {len cap : Nat} {d : DataW H} {p : List MemPlace} (h : DataW.Trod enc Tryz.prog w 0 (fun _ => true) held 60 (.slice a len cap) d p) :
    ∃ l, Txs w (fun k => w.heap.size ≤ k) a len l ∧ (∀ s ∈ l, s.length ≤ maxLen) ∧ (a = none → cap = 0) ∧ len ≤ cap ∧ cap ≤ maxLen := by
  have hc : Tryz.prog.cellsOf 9 = 1 := by kernel_rfl
  have hfit : PK.fits Tryz.prog 9 .txt := Tryz.underlying9
  obtain ⟨ps, h1, h2, h3⟩ := open_one Tryz.underlying60 hc hfit h
  have key : ∀ ps : List Prt, (∀ p ∈ ps, p.kind = .txt ∧ p.okay) → ∃ l : List (List UInt8), ps = l.map Prt.txt ∧ ∀ s ∈ l, s.length ≤ maxLen := by
    intro ps
    induction ps with
    | nil => intro _; exact ⟨[], rfl, fun _ h => by cases h⟩
    | cons p ps ih =>
      intro h
      obtain ⟨l, rfl, hl⟩ := ih fun q hq => h q (List.mem_cons_of_mem _ hq)
      obtain ⟨hk, ho⟩ := h p List.mem_cons_self
      cases p with
      | txt s =>
        refine ⟨s :: l, rfl, fun t ht => ?_⟩
        rcases List.mem_cons.1 ht with rfl | ht
        · exact ho
        · exact hl t ht
      | _ => cases hk
  obtain ⟨l, rfl, hl⟩ := key ps h2
  exact ⟨l, h1, hl, h3⟩

end Go.Proofs.YthjikbhjciphiaaGreatDoor

/-
  The statements of segments by the program's contracts: awake, SegNames.
-/
namespace Go.Proofs.YthjikbhjciphiaaGreatDoor
open Go.RowKit
set_option linter.unusedVariables false
set_option linter.unusedSimpArgs false

/-- What Number tells of a name. -/
def segN (s : List UInt8) : Nat × Int := if (numC s).2 then ((numC s).1, 0) else (0, 2)
/-- The program's names; I: what it asks of the world. -/
structure SegN (I : World → Prop) : Prop where
  keep : ∀ {w w' : World}, I w → Below w.heap.size w w' → I w'
  name : ∀ (n : Nat) (W : World), n < 18446744073709551616 → I W → Calls Tryz.prog 41 #[.int .u64 (n : Nat)] W fun e W' => e = .returned (.string ⟨(nameL n).toArray⟩) ∧ Below W.heap.size W W'
  number : ∀ (s : ByteArray) (W : World), s.size ≤ 281474976710656 → I W → Calls Tryz.prog 42 #[.string s] W fun e W' => e = .returned (.tuple #[.int .u64 ((segN s.data.toList).1 : Nat), .int .i64 (segN s.data.toList).2]) ∧ Below W.heap.size W W'

def w255 : List UInt8 := [119, 48, 48, 48, 48, 48, 48, 48, 48, 48, 48, 48, 48, 48, 48, 102, 102]
theorem name255 : nameL 255 = w255 := by decide +kernel
theorem segN_name (n : Nat) (h : n < 18446744073709551616) : segN (nameL n) = (n, 0) := by unfold segN; rw [num_name n h]; rfl

end Go.Proofs.YthjikbhjciphiaaGreatDoor

/-
  The statement SegNumbers by the program's contracts.
-/
namespace Go.Proofs.YthjikbhjciphiaaGreatDoor
open Go.RowKit
set_option linter.unusedVariables false
set_option linter.unusedSimpArgs false

/-- What Numbers tells. -/
def NumsQ (L : List (List UInt8)) (R : List Nat) : Prop :=
  (∀ x, x ∈ R ↔ ∃ s ∈ L, numC s = (x, true)) ∧ (∀ i x y, R[i]? = some x → R[i + 1]? = some y → x < y) ∧ R.length ≤ L.length
structure SegS (I : World → Prop) : Prop extends SegN I where
  numbers : ∀ (A : Option Addr) (n c : Nat) (L : List (List UInt8)) (W : World), I W → Txs W (fun k => W.heap.size ≤ k) A n L → (∀ s ∈ L, s.length ≤ 281474976710656) → (A = none → c = 0) → n ≤ c → c ≤ maxLen → n ≤ 60 →
    Calls Tryz.prog 28 #[.slice A n c] W fun e W' => ∃ A' k c' R, e = .returned (.slice A' k c') ∧ Nts W' (fun j => W'.heap.size ≤ j) A' k R ∧ Below W.heap.size W W' ∧ NumsQ L R

/-- Is the number among the first k? -/
def among (R : List Nat) (x k : Nat) : Bool := (R.take k).any (· == x)
theorem among_succ (R : List Nat) (x k y : Nat) (h : R[k]? = some y) : among R x (k + 1) = (among R x k || (y == x)) := by
  unfold among
  rw [List.take_add_one, h, List.any_append]
  simp
def amongT (L : List (List UInt8)) (s : List UInt8) (k : Nat) : Bool := (L.take k).any (· == s)
theorem amongT_succ (L : List (List UInt8)) (s : List UInt8) (k : Nat) (y : List UInt8) (h : L[k]? = some y) : amongT L s (k + 1) = (amongT L s k || (y == s)) := by
  unfold amongT
  rw [List.take_add_one, h, List.any_append]
  simp

end Go.Proofs.YthjikbhjciphiaaGreatDoor

/-
  What the form's own reach says of texts and of bytes that lie in slices.
-/
namespace Go.Proofs.YthjikbhjciphiaaGreatDoor
open Go.RowKit
open Go.ChangeShapes Go.WideShapes Go.ChangeAt
set_option linter.unusedVariables false
set_option linter.unusedSimpArgs false

theorem weights_all_mem {H : Type} {P : Program} {e : TypeId} : ∀ (l : List (DataW H)) (i : Nat) (d : DataW H), l[i]? = some d → ∀ n ∈ d.weights P e, n ∈ DataW.weightsAll P e l
  | [], i, d, h, n, hn => by cases h
  | x :: l, 0, d, h, n, hn => by
    cases h
    simp only [DataW.weightsAll, List.mem_append]
    exact .inl hn
  | x :: l, i + 1, d, h, n, hn => by
    simp only [DataW.weightsAll, List.mem_append]
    exact .inr (weights_all_mem l i d h n hn)
theorem weights_elem {H : Type} {P : Program} {t e : TypeId} (ht : P.underlying t = some (.slice e)) {elems spare : List (DataW H)} {i : Nat} {d : DataW H} (hd : elems[i]? = some d) : ∀ n ∈ d.weights P e, n ∈ (DataW.slice elems spare).weights P t := by
  intro n hn
  simp only [DataW.weights, ht, List.mem_cons, List.mem_append]
  exact .inr (.inl (weights_all_mem elems i d hd n hn))
/-- An element of a slice of one-cell elements: its cell, and what is read of it. -/
theorem trod_elem {P : Program} {H : Type} {enc : TypeId × Value → H} {w : World} {held : Bool} {a : Option Addr} {len cap : Nat} {d : DataW H} {p : List MemPlace} {t e : TypeId} (ht : P.underlying t = some (.slice e)) (hc : P.cellsOf e = 1)
    (h : DataW.Trod enc P w 0 (fun _ => true) held t (.slice a len cap) d p) {R : Nat} (hw : ∀ n ∈ d.weights P t, n ≤ R) (ad : Addr) (ha : a = some ad) (i : Nat) (hi : i < len) (v : Value) (hv : w.cell? (ad.add i) = some v) :
    ∃ m x, DataW.trod enc P w 0 (fun _ => true) held m e [v] = some x ∧ ∀ n ∈ x.1.weights P e, n ≤ R := by
  obtain ⟨fuel, hf⟩ := h
  rcases DataW.trod_slice ht hf with ⟨hcs, _⟩ | ⟨ad', len', cap', elems, rest, m, _, hcs, hx, hb, hl, hm, hlen, hel, _, _⟩
  · simp [Value.cells] at hcs
    obtain ⟨rfl, rfl, rfl⟩ := hcs
    cases ha
  · simp [Value.cells] at hcs
    obtain ⟨rfl, rfl, rfl⟩ := hcs
    cases ha
    have h1 := hel i hi
    rw [hc, Nat.mul_one] at h1
    obtain ⟨x, hx2⟩ : ∃ x, elems[i]? = some x := ⟨_, List.getElem?_eq_getElem (by omega)⟩
    rw [hx2, Option.bind_eq_some_iff] at h1
    obtain ⟨cs, h2, h3⟩ := h1
    obtain ⟨h4, h5, h6⟩ := World.cells?_some h2
    obtain ⟨u, rfl⟩ := List.length_eq_one_iff.1 h5
    have h7 := h6 0 (by omega)
    rw [Addr.add_add, Nat.add_zero, hv] at h7
    obtain rfl : v = u := by simpa using h7
    refine ⟨m, x, h3, fun n hn => hw n ?_⟩
    simp only [Prod.mk.injEq] at hx
    rw [hx.1]
    exact weights_elem ht (by rw [List.getElem?_map, hx2]; rfl) n hn

theorem txs_reach {P : Program} {H : Type} {enc : TypeId × Value → H} {w : World} {held : Bool} {a : Option Addr} {len cap : Nat} {d : DataW H} {p : List MemPlace} {t e : TypeId} (ht : P.underlying t = some (.slice e)) (hc : P.cellsOf e = 1) (he : P.underlying e = some .string)
    (h : DataW.Trod enc P w 0 (fun _ => true) held t (.slice a len cap) d p) {R : Nat} (hw : ∀ n ∈ d.weights P t, n ≤ R) {l : List (List UInt8)} (hl : Txs w (fun k => w.heap.size ≤ k) a len l) : ∀ s ∈ l, s.length ≤ R := by
  intro s hs
  obtain ⟨j, hj⟩ := List.mem_iff_getElem?.1 hs
  obtain ⟨g, o, ha, _, _, hcell⟩ := Txs.at_ hl hj
  have hjl : j < len := by have := (List.getElem?_eq_some_iff.1 hj).1; have := hl.len; omega
  obtain ⟨m, x, h1, h2⟩ := trod_elem ht hc h hw _ ha j hjl _ (by rw [Addr.add_lit]; exact hcell)
  obtain ⟨s', h3, rfl, _⟩ := DataW.trod_string he h1
  simp only [List.cons.injEq, Value.string.injEq, and_true] at h3
  subst h3
  have := h2 s.length (by simp [DataW.weights])
  exact this

theorem lst_reach {P : Program} {H : Type} {enc : TypeId × Value → H} {w : World} {held : Bool} {a : Option Addr} {len cap : Nat} {d : DataW H} {p : List MemPlace} {t e u : TypeId} (ht : P.underlying t = some (.slice e)) (hc : P.cellsOf e = 1) (he : P.underlying e = some (.slice u)) (hu : P.bytesOf u = 1)
    (h : DataW.Trod enc P w 0 (fun _ => true) held t (.slice a len cap) d p) {R : Nat} (hw : ∀ n ∈ d.weights P t, n ≤ R) {l : List (List UInt8)} (hl : Lst w (fun k => w.heap.size ≤ k) a len l) : ∀ s ∈ l, s.length ≤ R := by
  intro s hs
  obtain ⟨j, hj⟩ := List.mem_iff_getElem?.1 hs
  obtain ⟨g, o, A2, n2, c2, ha, _, _, hcell, hbs, _⟩ := Lst.at_ hl hj
  have hjl : j < len := by have := (List.getElem?_eq_some_iff.1 hj).1; have := hl.1; rw [bts_len] at this; omega
  obtain ⟨m, x, h1, h2⟩ := trod_elem ht hc h hw _ ha j hjl _ (by rw [Addr.add_lit]; exact hcell)
  have hn := hbs.1
  rcases DataW.trod_slice he h1 with ⟨hcs, _⟩ | ⟨ad', len', cap', elems, rest, m', _, hcs, hx, hb, hl', hm, hlen, hel, _, _⟩
  · simp at hcs
    omega
  · simp at hcs
    obtain ⟨rfl, rfl, rfl⟩ := hcs
    subst hx
    have := h2 ((elems.length + rest.length) * P.bytesOf u) (by simp [DataW.weights, he])
    rw [hu] at this
    omega

end Go.Proofs.YthjikbhjciphiaaGreatDoor

/-
  A range over a function whose iterator hands out what it has made: its contract tells the round, and the caller behind it, what stands in memory of the elements. No program stands here.
-/
namespace Go.Proofs.YthjikbhjciphiaaGreatDoor
open Go.RowKit
set_option linter.unusedVariables false
set_option linter.unusedSimpArgs false

section
variable {F : Fence} {n : Nat} {P : Program} {α : Type}

/-- The iterator g: at each round T tells of the element, at the end S of all, Sp of those up to a round that has said 'no more'; Kp: what a round keeps. -/
def SeqT (F : Fence) (n : Nat) (P : Program) (g : Nat) (lb : Array Value) (encs : α → Array Value) (Kp : World → World → Prop) (T : List α → α → World → Prop) (S Sp : List α → World → Prop) (w : World) : Prop :=
  ∀ (l : Nat) (J Jx : List α → World → Prop) (W : World), Below w.heap.size w W → AbidesFrom W.heap.size J → AbidesFrom W.heap.size Jx →
    (∀ pre x W1, J pre W1 → T pre x W1 → YieldAt F (n - 1) P l (encs x) W1 fun e W' => Kp W1 W' ∧ ((e = .returned (.bool true) ∧ J (pre ++ [x]) W') ∨ (e = .returned (.bool false) ∧ Jx (pre ++ [x]) W'))) →
    J [] W →
    CallsIn F n P g (#[.func (.yield l) #[] #[]] ++ lb) W fun e W' => (∃ v, e = .returned v) ∧ ((∃ xs, S xs W' ∧ J xs W') ∨ (∃ pre, Sp pre W' ∧ Jx pre W'))

/-- The jump by which a round's body is left. -/
def jumpOf : Exit → Option (Option Code)
  | .normal => some none
  | .ret => some (some .ret)
  | .exit id => some (some (.exit id))
  | .goto t => some (some (.goto t))
  | .panic _ => none
  | .outgrown => none
/-- How a round may be left. -/
def toldPost (B : Nat) (Kp : World → World → Prop) (I : List α → World → Prop) (Ix : Code → List α → World → Prop) (xs : List α) (W : World) (e : Exit) (a : Act) (W' : World) : Prop :=
  match jumpOf e with
  | some none => KeepsFrom B W W' ∧ Kp W W' ∧ I xs W'
  | some (some c) => KeepsFrom B W W' ∧ Kp W W' ∧ Ix c xs W'
  | none => False
theorem round_of_jump {l : Nat} {R : Ending → World → Prop} {e : Exit} {a : Act} {w : World} {j : Option Code} (hj : jumpOf e = some j) (h : ∃ v w', (Instr.endRound l j).run P w = .ok v w' ∧ R (.returned v) w') : roundPost P l R e a w := by
  cases e <;> simp [jumpOf] at hj <;> subst hj <;> exact h

theorem range_told {g : Operand} {ps : Array Tmp} {assign body : Code} {Q : Exit → Act → World → Prop} {a : Act} {w : World}
    (hro : F.round = none) (h1 : 1 ≤ n) {gf : Nat} {lb : Array Value} (hg : a.eval g = .func (.func gf) #[] lb) (hFg : F.fn gf) (eg : ∀ args w, (callFunc gf args).run P w = .ok (.enter gf args) w)
    {encs : α → Array Value} {Kp : World → World → Prop} {T : List α → α → World → Prop} {S Sp : List α → World → Prop} {w0 : World} (hseq : SeqT F (n - 1) P gf lb encs Kp T S Sp w0)
    (hKt : ∀ {A B C : World}, Kp A B → Kp B C → Kp A C) (hKb : ∀ (W : World) (l : Nat) (o o' : Obj), w.heap.size ≤ l → W.heap[l]? = some o → o.isCells = false → o.isWalk = false → Kp W (W.putObj l o'))
    (hT : OwnFrom w.heap.size fun (s : List α × α) W => T s.1 s.2 W) (hS : OwnFrom w.heap.size S) (hSp : OwnFrom w.heap.size Sp)
    (hb0 : Below w0.heap.size w0 w) (hps : ∀ x, (encs x).size = ps.size)
    (I : List α → World → Prop) (Ix : Code → List α → World → Prop) (hI : OwnFrom w.heap.size I) (hIx : ∀ c, OwnFrom w.heap.size (Ix c)) (h0 : I [] w) (a₁ : α → Act)
    (hassign : ∀ (l : Nat) (x : α) (W : World) (K : Act → World → Prop), K (a₁ x) W →
      assign.wpIn (F.inRound l) (n - 1 - 1) P (Exit.then K (fun _ _ _ => False)) { tmps := (ps.zip (encs x)).foldl (fun t (p, v) => t.setIfInBounds p v) a.tmps, defers := [] } W)
    (hbody : ∀ (l : Nat) (pre : List α) (x : α) (W : World), I pre W → T pre x W → body.wpIn (F.inRound l) (n - 1 - 1) P (toldPost w.heap.size Kp I Ix (pre ++ [x]) W) (a₁ x) W)
    (hdone : ∀ (D : Nat) (xs : List α) (W : World), w.heap.size ≤ D → S xs W → I xs W → W.heap[D]? = some (.deferred (some [])) → Q .normal { a with defers := { target := .collected D, args := #[] } :: a.defers } W)
    (hstop : ∀ (D : Nat) (c : Code) (pre : List α) (W : World), w.heap.size ≤ D → Sp pre W → Ix c pre W → W.heap[D]? = some (.deferred (some [])) → c.wpIn F n P Q { a with defers := { target := .collected D, args := #[] } :: a.defers } W) :
    (Code.rangeFunc g ps assign body).wpIn F n P Q a w := by
  refine wpIn_rangeFunc fun fn hfn => ?_
  rw [hro]
  -- the loop's record in its states; the world in which the iterator is called
  let lp (s : LoopState) (j : Option Code) : Obj := .loop { state := s, pending := j, fn, tmps := a.tmps, params := ps, assign, body, defers := w.heap.size }
  let D := w.heap.size
  let L := w.heap.size + 1
  let Ready (W : World) : Prop := W.heap[L]? = some (lp .ready none) ∧ W.heap[D]? = some (.deferred (some []))
  let Over (c : Code) (W : World) : Prop := W.heap[L]? = some (lp .done (some c)) ∧ W.heap[D]? = some (.deferred (some []))
  have hw1 : Ready ((w.alloc (.deferred (some []))).alloc (lp .ready none)) := by
    refine ⟨?_, (Below.heap_alloc _ _ _ (by simp [D])).trans (World.alloc_heap_new w _)⟩
    have := World.alloc_heap_new (w.alloc (.deferred (some []))) (lp .ready none)
    rwa [World.size_alloc] at this
  have hbel : Below w0.heap.size w0 ((w.alloc (.deferred (some []))).alloc (lp .ready none)) :=
    hb0.trans ((((Below.refl _ w).alloc (Nat.le_refl _) _).alloc (by simp) _).mono hb0.size)
  have hI1 := hI.alloc (lp .ready none) (hI.alloc (.deferred (some [])) h0)
  have hsz1 : w.heap.size ≤ ((w.alloc (.deferred (some []))).alloc (lp .ready none)).heap.size := by simp; omega
  have hen : (Instr.enterLoop fn a.tmps ps assign body none).run P w = .ok (L, [{ target := .collected D, args := #[] }]) ((w.alloc (.deferred (some []))).alloc (lp .ready none)) :=
    run_enterLoop_outer fn a.tmps ps assign body
  generalize ((w.alloc (.deferred (some []))).alloc (lp .ready none)) = W1 at hw1 hbel hI1 hsz1 hen
  refine ⟨L, [{ target := .collected D, args := #[] }], W1, { target := .fn (.func gf) lb, args := #[.func (.yield L) #[] #[]] }, W1, gf, #[.func (.yield L) #[] #[]] ++ lb, W1, hen, ?_, ?_, ?_, fun _ => h1, ?_⟩
  · simp only [resolve, hg]
    simp [go_sem]
  · rintro f' h'
    simp [Target.leads] at h'
    exact h' ▸ hFg
  · simp [invoke, go_sem, eg]
  have other : ∀ {A B : World} {row : Option Nat} {k : Nat} {o : Obj}, A.grownBy B row → (∀ r, row = some r → W1.heap.size ≤ r ∧ ∃ o : Obj, A.heap[r]? = some o ∧ o.isWalk = true) → A.heap[k]? = some o → o.isWalk = false → B.heap[k]? = some o :=
    fun hgr hr hk ho => (grownBy_keeps hgr (fun r e => (hr r e).2) hk ho).trans hk
  have plain : ∀ {A : World} {row : Option Nat}, (∀ r, row = some r → W1.heap.size ≤ r ∧ ∃ o : Obj, A.heap[r]? = some o ∧ o.isWalk = true) → ∀ r, row = some r → w.heap.size ≤ r ∧ ∃ o : Obj, A.heap[r]? = some o ∧ o.isCells = false :=
    fun hr r e => let ⟨hB, o, ho, hwk⟩ := hr r e; ⟨Nat.le_trans hsz1 hB, o, ho, Obj.not_cells_of_walk hwk⟩
  have hDL : D ≠ L := by simp [D, L]
  have hBD : w.heap.size ≤ D := Nat.le_refl _
  have hBL : w.heap.size ≤ L := Nat.le_succ _
  refine (hseq L (fun pre W => I pre W ∧ Ready W) (fun pre W => ∃ c, Ix c pre W ∧ Over c W) W1 hbel
    (fun s A B row hs hgr hr => ⟨hI s A B row hs.1 hgr (plain hr), other hgr hr hs.2.1 rfl, other hgr hr hs.2.2 rfl⟩)
    (fun s A B row ⟨c, hc, hl, hk⟩ hgr hr => ⟨c, hIx c s A B row hc hgr (plain hr), other hgr hr hl rfl, other hgr hr hk rfl⟩) ?_ ⟨hI1, hw1⟩).mono ?_
  · -- a round
    rintro pre x W ⟨hi, hl, hk⟩ ht
    have hlt : L < W.heap.size := (Array.getElem?_eq_some_iff.1 hl).1
    refine ⟨fn, _, assign, body, run_yield hl (hps x), roundIn_of_wpIn hfn (hassign L x W _ ⟨_, run_beginRound hl rfl, ?_⟩)⟩
    change body.wpIn _ _ _ _ _ (W.putObj L (lp .busy none))
    have hl2 : (W.putObj L (lp .busy none)).heap[L]? = some (lp .busy none) := World.putObj_heap_same hlt
    have hk2 : (W.putObj L (lp .busy none)).heap[D]? = some (.deferred (some [])) := (World.putObj_heap_other hDL).trans hk
    have hkp := hKb W L _ (lp .busy none) hBL hl rfl rfl
    have hi2 := hI.putObj (lp .busy none) hi hBL hl rfl
    have ht2 := hT.putObj (s := (pre, x)) (lp .busy none) ht hBL hl rfl
    generalize W.putObj L (lp .busy none) = W2 at hl2 hk2 hkp hi2 ht2 ⊢
    refine wpIn_mono (hbody L pre x W2 hi2 ht2) fun e a3 W3 hp => ?_
    unfold toldPost at hp
    -- what a jump leaves
    have fin : ∀ j : Option Code, KeepsFrom w.heap.size W2 W3 → Kp W2 W3 → ∃ W4 : World, (Instr.endRound L j).run P W3 = .ok (.bool j.isNone) W4 ∧ W4 = W3.putObj L (lp (if j.isNone then .ready else .done) j) ∧
        W3.heap[L]? = some (lp .busy none) ∧ W4.heap[L]? = some (lp (if j.isNone then .ready else .done) j) ∧ W4.heap[D]? = some (.deferred (some [])) ∧ Kp W W4 := fun j hk3 hp3 => by
      have hl3 := hk3.same _ _ hBL hl2 rfl
      exact ⟨_, run_endRound j hl3, rfl, hl3, World.putObj_heap_same (Array.getElem?_eq_some_iff.1 hl3).1, (World.putObj_heap_other hDL).trans (hk3.same _ _ hBD hk2 rfl), hKt (hKt hkp hp3) (hKb _ _ _ _ hBL hl3 rfl rfl)⟩
    rcases hj : jumpOf e with _ | j
    · rw [hj] at hp; exact hp.elim
    · rw [hj] at hp
      refine round_of_jump hj ?_
      cases j with
      | none =>
        obtain ⟨h3, h4, h5⟩ := hp
        obtain ⟨W4, hr, rfl, hl3, hl4, hk4, hK4⟩ := fin none h3 h4
        exact ⟨_, _, hr, hK4, .inl ⟨rfl, hI.putObj _ h5 hBL hl3 rfl, hl4, hk4⟩⟩
      | some c =>
        obtain ⟨h3, h4, h5⟩ := hp
        obtain ⟨W4, hr, rfl, hl3, hl4, hk4, hK4⟩ := fin (some c) h3 h4
        exact ⟨_, _, hr, hK4, .inr ⟨rfl, c, (hIx c).putObj _ h5 hBL hl3 rfl, hl4, hk4⟩⟩
  · -- behind the iterator
    rintro e W2 ⟨⟨v, rfl⟩, (⟨xs, hs, hi, hl, hk⟩ | ⟨pre, hs, c, hi, hl, hk⟩)⟩
    · exact ⟨none, _, run_endLoop hl (by simp), hdone D xs _ hBD (hS.putObj _ hs hBL hl rfl) (hI.putObj _ hi hBL hl rfl) ((World.putObj_heap_other hDL).trans hk)⟩
    · exact ⟨some c, _, run_endLoop hl (by simp), hstop D c pre _ hBD (hSp.putObj _ hs hBL hl rfl) ((hIx c).putObj _ hi hBL hl rfl) ((World.putObj_heap_other hDL).trans hk)⟩
end
end Go.Proofs.YthjikbhjciphiaaGreatDoor
