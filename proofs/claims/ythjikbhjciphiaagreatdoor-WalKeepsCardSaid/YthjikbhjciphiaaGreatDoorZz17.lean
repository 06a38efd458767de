/-
  Arguments that are structs, and slices of structs, opened by their parts. No program stands here.
-/
import Derived.Test.YthjikbhjciphiaaGreatDoorZz9
import Derived.Test.YthjikbhjciphiaaGreatDoorZz16
import Derived.ChangeArms
import Derived.Test.YthjikbhjciphiaaGreatDoorZz8
import Derived.BigQuiet
import Derived.Test.YthjikbhjciphiaaGreatDoorZz15
import Derived.SizedLaws
namespace Go.Proofs.YthjikbhjciphiaaGreatDoor
open Go.RowKit
open Go.ChangeShapes Go.WideShapes Go.ChangeAt
set_option linter.unusedVariables false
set_option linter.unusedSimpArgs false

/-- What a part is. -/
inductive PK where
  | num (k : IntKind)
  | txt
  | byt
  | flag
def Prt.kind : Prt → PK
  | .num k _ => .num k
  | .txt _ => .txt
  | .byt _ => .byt
  | .flag _ => .flag
def Prt.okay : Prt → Prop
  | .num k z => (Lit.int k z).wf = true
  | .txt l => l.length ≤ maxLen
  | _ => True
/-- The type's own part. -/
def PK.fits (P : Program) (t : TypeId) : PK → Prop
  | .num k => P.underlying t = some (.int k)
  | .txt => P.underlying t = some .string
  | .byt => ∃ e, P.underlying t = some (.slice e) ∧ P.underlying e = some (.int .u8) ∧ P.cellsOf e = 1
  | .flag => P.underlying t = some .bool
/-- The fields of a struct are these parts, a cell each. -/
def Fits (P : Program) (fs : Array Field) (pks : List PK) : Prop :=
  fs.size = pks.length ∧ ∀ (i : Nat) (pk : PK), pks[i]? = some pk → ∃ f, fs[i]? = some f ∧ f.offset = i ∧ P.cellsOf f.type = 1 ∧ pk.fits P f.type

section
variable {H : Type} {enc : TypeId × Value → H} {P : Program} {w : World} {held : Bool}

theorem open_prt {fuel : Nat} {t : TypeId} {pk : PK} {v : Value} {x : DataW H × List MemPlace} (hf : pk.fits P t) (h : DataW.trod enc P w 0 (fun _ => true) held fuel t [v] = some x) :
    ∃ p : Prt, p.kind = pk ∧ PrtV w (fun k => w.heap.size ≤ k) v p ∧ p.okay := by
  cases pk with
  | num k =>
    obtain ⟨z, e, _, hz⟩ := DataW.trod_int hf h
    exact ⟨.num k z, rfl, (by simpa using e : v = .int k z), hz⟩
  | txt =>
    obtain ⟨s, e, _, hs⟩ := DataW.trod_string hf h
    refine ⟨.txt s.data.toList, rfl, ?_, (by simpa using hs : s.data.toList.length ≤ maxLen)⟩
    show v = .string ⟨s.data.toList.toArray⟩
    simpa using e
  | byt =>
    obtain ⟨e, h1, h2, h3⟩ := hf
    obtain ⟨A, m, c, rfl⟩ : ∃ A m c, v = .slice A m c := by
      rcases DataW.trod_slice h1 h with ⟨e, _⟩ | ⟨a, l, c, _, _, _, _, e, _⟩
      · exact ⟨none, 0, 0, by simpa using e⟩
      · exact ⟨some a, l, c, by simpa using e⟩
    obtain ⟨l, hb, hnil, hlc, hmx⟩ := open_byt h1 h2 h3 ⟨fuel, h⟩
    exact ⟨.byt l, rfl, ⟨A, m, c, rfl, hb.off (fun k hk => hk), fun hA => ⟨by have := hnil hA; omega, hnil hA⟩, hlc, hmx⟩, trivial⟩
  | flag =>
    obtain ⟨b, e, _⟩ := DataW.trod_bool hf h
    exact ⟨.flag b, rfl, (by simpa using e : v = .bool b), trivial⟩

theorem open_prts {fuel : Nat} {t : TypeId} {fs : Array Field} {pks : List PK} {cs : List Value} {x : DataW H × List MemPlace} (ht : P.underlying t = some (.struct fs)) (hc : P.cellsOf t = pks.length) (hF : Fits P fs pks)
    (h : DataW.trod enc P w 0 (fun _ => true) held fuel t cs = some x) : ∃ ps : List Prt, ps.map Prt.kind = pks ∧ PrtsV w (fun k => w.heap.size ≤ k) cs ps ∧ ∀ p ∈ ps, p.okay := by
  obtain ⟨xs, n, _, _, hl, hxl, hf⟩ := DataW.trod_struct ht h
  rw [hc] at hl
  have each : ∀ (j : Nat) (rest : List PK) (r : List Value), pks.drop j = rest → cs.drop j = r → ∃ ps : List Prt, ps.map Prt.kind = rest ∧ PrtsV w (fun k => w.heap.size ≤ k) r ps ∧ ∀ p ∈ ps, p.okay := by
    intro j rest
    induction rest generalizing j with
    | nil =>
      intro r h1 h2
      have : pks.length ≤ j := List.drop_eq_nil_iff.1 h1
      refine ⟨[], rfl, ?_, fun p hp => by cases hp⟩
      show r = []
      rw [← h2]
      exact List.drop_eq_nil_of_le (by omega)
    | cons pk rest ih =>
      intro r h1 h2
      have hj : j < pks.length := by
        rcases Nat.lt_or_ge j pks.length with h | h
        · exact h
        · rw [List.drop_eq_nil_of_le h] at h1; cases h1
      have hpk : pks[j]? = some pk := by
        have := congrArg List.head? h1
        simpa [List.head?_drop] using this
      have h1' : pks.drop (j + 1) = rest := by
        have := congrArg (List.drop 1) h1
        simpa [List.drop_drop, Nat.add_comm] using this
      obtain ⟨f, hfj, ho, hc1, hfit⟩ := hF.2 j pk hpk
      have hcj : cs[j]? = some (cs[j]'(by omega)) := List.getElem?_eq_getElem (by omega)
      obtain ⟨v, hv⟩ : ∃ v, cs[j]'(by omega) = v := ⟨_, rfl⟩
      rw [hv] at hcj
      have hr : r = v :: cs.drop (j + 1) := by
        rw [← h2, ← hv]
        exact List.drop_eq_getElem_cons (by omega)
      have htr := hf j f hfj
      rw [ho, hc1, List.drop_eq_getElem_cons (by omega : j < cs.length), hv] at htr
      have hxj : xs[j]? = some (xs[j]'(by have := hF.1; omega)) := List.getElem?_eq_getElem _
      rw [hxj] at htr
      obtain ⟨p, hp1, hp2, hp3⟩ := open_prt hfit (show DataW.trod enc P w 0 (fun _ => true) held n f.type [v] = _ from by simpa using htr)
      obtain ⟨ps, hq1, hq2, hq3⟩ := ih (j + 1) _ h1' rfl
      refine ⟨p :: ps, by rw [List.map_cons, hp1, hq1], ⟨v, _, hr, hp2, hq2⟩, fun q hq => ?_⟩
      rcases List.mem_cons.1 hq with rfl | hq
      · exact hp3
      · exact hq3 q hq
  obtain ⟨ps, h1, h2, h3⟩ := each 0 pks cs rfl rfl
  exact ⟨ps, h1, h2, h3⟩

theorem open_sls {t e : TypeId} {fs : Array Field} {pks : List PK} {a : Option Addr} {len cap : Nat} {d : DataW H} {p : List MemPlace} (ht : P.underlying t = some (.slice e)) (he : P.underlying e = some (.struct fs)) (hc : P.cellsOf e = pks.length) (hk : 0 < pks.length) (hF : Fits P fs pks)
    (h : DataW.Trod enc P w 0 (fun _ => true) held t (.slice a len cap) d p) :
    ∃ ss : List (List Prt), Sls w (fun k => w.heap.size ≤ k) pks.length a len ss ∧ (∀ ps ∈ ss, ps.map Prt.kind = pks ∧ ∀ p ∈ ps, p.okay) ∧ (a = none → cap = 0) ∧ len ≤ cap ∧ cap ≤ maxLen := by
  obtain ⟨fuel, hf⟩ := h
  rcases DataW.trod_slice ht hf with ⟨hcs, _⟩ | ⟨ad, len', cap', elems, rest, m, _, hcs, hx, hb, hl, hm, hlen, hel, _, _⟩
  · simp [Value.cells] at hcs
    obtain ⟨rfl, rfl, rfl⟩ := hcs
    exact ⟨[], Sls.nil, fun _ h => (by cases h), fun _ => rfl, Nat.le_refl _, Nat.zero_le _⟩
  · simp [Value.cells] at hcs
    obtain ⟨rfl, rfl, rfl⟩ := hcs
    have each : ∀ i, i < len → ∃ s : List Prt, ∃ cs : List Value, cs.length = pks.length ∧ (∀ j, j < pks.length → w.cell? (ad.add (i * pks.length + j)) = cs[j]?) ∧ s.map Prt.kind = pks ∧ PrtsV w (fun k => w.heap.size ≤ k) cs s ∧ ∀ p ∈ s, p.okay := by
      intro i hi
      have h1 := hel i hi
      rw [hc] at h1
      rw [List.getElem?_eq_getElem (by omega), Option.bind_eq_some_iff] at h1
      obtain ⟨cs, h2, h3⟩ := h1
      obtain ⟨h4, h5, h6⟩ := World.cells?_some h2
      obtain ⟨s, h7, h8, h9⟩ := open_prts he hc hF h3
      exact ⟨s, cs, h5, fun j hj => by rw [← h6 j hj, Addr.add_add], h7, h8, h9⟩
    obtain ⟨ss, hsl, hss⟩ := list_of len each
    have hmem : ∀ s ∈ ss, s.map Prt.kind = pks ∧ ∀ p ∈ s, p.okay := fun s hs => by
      obtain ⟨i, hi⟩ := List.mem_iff_getElem?.1 hs
      obtain ⟨cs, _, _, h3, _, h5⟩ := hss i s hi
      exact ⟨h3, h5⟩
    refine ⟨ss, ⟨hsl, fun s hs => by rw [← (hmem s hs).1, List.length_map], fun hn => ?_⟩, hmem, (fun h => by cases h), hl, hm⟩
    obtain ⟨g, o, spot⟩ := ad
    obtain ⟨s0, cs0, hl0, hc0, _⟩ := each 0 hn
    have hcell0 : w.cell? ((⟨g, o, spot⟩ : Addr).add 0) = some (cs0[0]'(by omega)) := by
      have := hc0 0 (by omega)
      rw [List.getElem?_eq_getElem (by omega)] at this
      simpa using this
    have hspot : spot = none := by simpa [Addr.add] using World.cell?_spot hcell0
    subst hspot
    have hgl : g < w.heap.size := by
      have := World.block_lt_of_cell? w _ hcell0
      simpa [Addr.add] using this
    refine ⟨g, o, rfl, Nat.not_le.2 hgl, hgl, fun j s hj => ?_⟩
    obtain ⟨cs, h1, h2, _, h3, _⟩ := hss j s hj
    refine ⟨cs, h3, fun i v hv => ?_⟩
    have hi : i < pks.length := by
      have := (List.getElem?_eq_some_iff.1 hv).1
      omega
    have := h2 i hi
    rw [Addr.add_lit, hv] at this
    rw [Nat.add_assoc]
    exact this
end

end Go.Proofs.YthjikbhjciphiaaGreatDoor

/-
  Slices whose elements are one cell each, as lists of parts; an argument that is one, opened; lists of texts, of numbers.
-/
namespace Go.Proofs.YthjikbhjciphiaaGreatDoor
open Go.RowKit
open Go.ChangeShapes Go.WideShapes Go.ChangeAt
set_option linter.unusedVariables false
set_option linter.unusedSimpArgs false

def ones (ps : List Prt) : List (List Prt) := ps.map fun p => [p]
theorem ones_len (ps : List Prt) : (ones ps).length = ps.length := List.length_map ..
theorem ones_snoc (ps : List Prt) (p : Prt) : ones (ps ++ [p]) = ones ps ++ [[p]] := by unfold ones; simp
theorem ones_one (ps : List Prt) : ∀ f ∈ ones ps, f.length = 1 := by
  intro f hf
  obtain ⟨b, _, rfl⟩ := List.mem_map.1 hf
  rfl
theorem ones_flat (ps : List Prt) : (ones ps).flatten = ps := by
  induction ps with
  | nil => rfl
  | cons p ps ih => show [p] ++ (ones ps).flatten = p :: ps; rw [ih]; rfl
/-- The slice value '.slice A n c' reads as these parts. -/
def One (w : World) (S : Nat → Prop) (A : Option Addr) (n : Nat) (ps : List Prt) : Prop := Sls w S 1 A n (ones ps)
section
variable {w w' : World} {S S' : Nat → Prop} {A : Option Addr} {n : Nat} {ps : List Prt}
theorem One.len (h : One w S A n ps) : ps.length = n := by have := h.1; rwa [ones_len] at this
theorem One.at_ (h : One w S A n ps) {j : Nat} {p : Prt} (hj : ps[j]? = some p) : ∃ g o v, A = some ⟨g, o, none⟩ ∧ ¬ S g ∧ g < w.heap.size ∧ w.cell? ⟨g, o + j, none⟩ = some v ∧ PrtV w S v p := by
  have hj' : (ones ps)[j]? = some [p] := by unfold ones; rw [List.getElem?_map, hj]; rfl
  obtain ⟨g, o, ys, e, hs, hl, hp, _, hc⟩ := Sls.at_ h hj'
  obtain ⟨v, r, rfl, h2, hr⟩ := hp
  refine ⟨g, o, v, e, hs, hl, ?_, h2⟩
  have := hc 0 _ rfl
  rwa [Nat.mul_one, Nat.add_zero] at this
theorem One.nil : One w S A 0 [] := Sls.nil
theorem One.turn (h : One w S A n ps) (ht : Turn S w w') : One w' S A n ps := Sls.turn h ht
theorem One.below (h : One w S A n ps) (hb : Below w.heap.size w w') : One w' S A n ps :=
  Sls.turn h ⟨hb.os, hb.tape, hb.output, hb.size, fun k hk hn => hb.block k hk⟩
end

theorem open_one {P : Program} {H : Type} {enc : TypeId × Value → H} {w : World} {held : Bool} {a : Option Addr} {len cap : Nat} {d : DataW H} {p : List MemPlace} {t e : TypeId} {pk : PK} (ht : P.underlying t = some (.slice e)) (hc : P.cellsOf e = 1) (hfit : pk.fits P e)
    (h : DataW.Trod enc P w 0 (fun _ => true) held t (.slice a len cap) d p) :
    ∃ ps : List Prt, One w (fun k => w.heap.size ≤ k) a len ps ∧ (∀ p ∈ ps, p.kind = pk ∧ p.okay) ∧ (a = none → cap = 0) ∧ len ≤ cap ∧ cap ≤ maxLen := by
  obtain ⟨fuel, hf⟩ := h
  rcases DataW.trod_slice ht hf with ⟨hcs, _⟩ | ⟨ad, len', cap', elems, rest, m, _, hcs, hx, hb, hl, hm, hlen, hel, _, _⟩
  · simp [Value.cells] at hcs
    obtain ⟨rfl, rfl, rfl⟩ := hcs
    exact ⟨[], One.nil, fun _ h => (by cases h), fun _ => rfl, Nat.le_refl _, Nat.zero_le _⟩
  · simp [Value.cells] at hcs
    obtain ⟨rfl, rfl, rfl⟩ := hcs
    have each : ∀ i, i < len → ∃ s : Prt, ∃ v, w.cell? (ad.add i) = some v ∧ PrtV w (fun k => w.heap.size ≤ k) v s ∧ s.kind = pk ∧ s.okay := by
      intro i hi
      have h1 := hel i hi
      rw [hc, Nat.mul_one] at h1
      rw [List.getElem?_eq_getElem (by omega), Option.bind_eq_some_iff] at h1
      obtain ⟨cs, h2, h3⟩ := h1
      obtain ⟨h4, h5, h6⟩ := World.cells?_some h2
      obtain ⟨v, rfl⟩ := List.length_eq_one_iff.1 h5
      obtain ⟨p, hp, hv, ho⟩ := open_prt hfit h3
      exact ⟨p, v, by have := h6 0 (by omega); rw [Addr.add_add, Nat.add_zero] at this; simpa using this, hv, hp, ho⟩
    obtain ⟨ss, hsl, hss⟩ := list_of len each
    refine ⟨ss, ⟨by rw [ones_len]; exact hsl, ones_one ss, fun hn => ?_⟩, fun q hq => ?_, (fun h => by cases h), hl, hm⟩
    · obtain ⟨g, o, spot⟩ := ad
      obtain ⟨s0, v0, hc0, _⟩ := each 0 hn
      have hspot : spot = none := by simpa [Addr.add] using World.cell?_spot hc0
      subst hspot
      have hgl : g < w.heap.size := by
        have := World.block_lt_of_cell? w _ hc0
        simpa [Addr.add] using this
      refine ⟨g, o, rfl, Nat.not_le.2 hgl, hgl, fun j f hj => ?_⟩
      obtain ⟨s, hs, rfl⟩ : ∃ s, ss[j]? = some s ∧ [s] = f := by
        unfold ones at hj
        rw [List.getElem?_map] at hj
        obtain ⟨s, hs, e⟩ := Option.map_eq_some_iff.1 hj
        exact ⟨s, hs, e⟩
      obtain ⟨v, hv, hp, _⟩ := hss j s hs
      refine ⟨[v], ⟨v, [], rfl, hp, rfl⟩, fun i y hy => ?_⟩
      match i, hy with
      | 0, hy =>
        simp at hy
        subst hy
        rw [Nat.mul_one, Nat.add_zero]
        rwa [Addr.add_lit] at hv
    · obtain ⟨j, hj⟩ := List.mem_iff_getElem?.1 hq
      obtain ⟨v, _, _, h1, h2⟩ := hss j q hj
      exact ⟨h1, h2⟩

/-- Texts. -/
def Txs (w : World) (S : Nat → Prop) (A : Option Addr) (n : Nat) (l : List (List UInt8)) : Prop := One w S A n (l.map Prt.txt)
theorem Txs.at_ {w : World} {S : Nat → Prop} {A : Option Addr} {n : Nat} {l : List (List UInt8)} (h : Txs w S A n l) {j : Nat} {s : List UInt8} (hj : l[j]? = some s) : ∃ g o, A = some ⟨g, o, none⟩ ∧ ¬ S g ∧ g < w.heap.size ∧ w.cell? ⟨g, o + j, none⟩ = some (.string ⟨s.toArray⟩) := by
  obtain ⟨g, o, v, e, h1, h2, h3, rfl⟩ := One.at_ h (p := .txt s) (by rw [List.getElem?_map, hj]; rfl)
  exact ⟨g, o, e, h1, h2, h3⟩
theorem Txs.len {w : World} {S : Nat → Prop} {A : Option Addr} {n : Nat} {l : List (List UInt8)} (h : Txs w S A n l) : l.length = n := by have := One.len h; rwa [List.length_map] at this
theorem Txs.below {w w' : World} {S : Nat → Prop} {A : Option Addr} {n : Nat} {l : List (List UInt8)} (h : Txs w S A n l) (hb : Below w.heap.size w w') : Txs w' S A n l := One.below h hb
/-- Numbers. -/
def Nts (w : World) (S : Nat → Prop) (A : Option Addr) (n : Nat) (l : List Nat) : Prop := One w S A n (l.map fun (x : Nat) => Prt.num .u64 (x : Int))
theorem Nts.at_ {w : World} {S : Nat → Prop} {A : Option Addr} {n : Nat} {l : List Nat} (h : Nts w S A n l) {j : Nat} {x : Nat} (hj : l[j]? = some x) : ∃ g o, A = some ⟨g, o, none⟩ ∧ ¬ S g ∧ g < w.heap.size ∧ w.cell? ⟨g, o + j, none⟩ = some (.int .u64 (x : Int)) := by
  obtain ⟨g, o, v, e, h1, h2, h3, rfl⟩ := One.at_ h (p := .num .u64 (x : Int)) (by rw [List.getElem?_map, hj]; rfl)
  exact ⟨g, o, e, h1, h2, h3⟩
theorem Nts.len {w : World} {S : Nat → Prop} {A : Option Addr} {n : Nat} {l : List Nat} (h : Nts w S A n l) : l.length = n := by have := One.len h; rwa [List.length_map] at this

theorem Nts.below {w w' : World} {S : Nat → Prop} {A : Option Addr} {n : Nat} {l : List Nat} (h : Nts w S A n l) (hb : Below w.heap.size w w') : Nts w' S A n l := One.below h hb

theorem open_txs {H : Type} {enc : TypeId × Value → H} {w : World} {held : Bool} {a : Option Addr} {len cap : Nat} {d : DataW H} {p : List MemPlace} (h : DataW.Trod enc Tryz.prog w 0 (fun _ => true) held 60 (.slice a len cap) d p) :
    ∃ l, Txs w (fun k => w.heap.size ≤ k) a len l ∧ (∀ s ∈ l, s.length ≤ maxLen) ∧ (a = none → cap = 0) ∧ len ≤ cap ∧ cap ≤ maxLen := by
  have hc : Tryz.prog.cellsOf 9 = 1 := by kernel_rfl
  have hfit : PK.fits Tryz.prog 9 .txt := Tryz.underlying9
  obtain ⟨ps, h1, h2, h3⟩ := open_one Tryz.underlying60 hc hfit h
  have key : ∀ ps : List Prt, (∀ p ∈ ps, p.kind = .txt ∧ p.okay) → ∃ l : List (List UInt8), ps = l.map Prt.txt ∧ ∀ s ∈ l, s.length ≤ maxLen := by
    intro ps
    induction ps with
    | nil => intro _; exact ⟨[], rfl, fun _ h => by cases h⟩
    | cons p ps ih =>
      intro h
      obtain ⟨l, rfl, hl⟩ := ih fun q hq => h q (List.mem_cons_of_mem _ hq)
      obtain ⟨hk, ho⟩ := h p List.mem_cons_self
      cases p with
      | txt s =>
        refine ⟨s :: l, rfl, fun t ht => ?_⟩
        rcases List.mem_cons.1 ht with rfl | ht
        · exact ho
        · exact hl t ht
      | _ => cases hk
  obtain ⟨l, rfl, hl⟩ := key ps h2
  exact ⟨l, h1, hl, h3⟩

end Go.Proofs.YthjikbhjciphiaaGreatDoor

/-
  The statements of segments by the program's contracts: awake, SegNames.
-/
namespace Go.Proofs.YthjikbhjciphiaaGreatDoor
open Go.RowKit
set_option linter.unusedVariables false
set_option linter.unusedSimpArgs false

/-- What Number tells of a name. -/
def segN (s : List UInt8) : Nat × Int := if (numC s).2 then ((numC s).1, 0) else (0, 2)
/-- The program's names; I: what it asks of the world. -/
structure SegN (I : World → Prop) : Prop where
  keep : ∀ {w w' : World}, I w → Below w.heap.size w w' → I w'
  name : ∀ (n : Nat) (W : World), n < 18446744073709551616 → I W → Calls Tryz.prog 41 #[.int .u64 (n : Nat)] W fun e W' => e = .returned (.string ⟨(nameL n).toArray⟩) ∧ Below W.heap.size W W'
  number : ∀ (s : ByteArray) (W : World), s.size ≤ 281474976710656 → I W → Calls Tryz.prog 42 #[.string s] W fun e W' => e = .returned (.tuple #[.int .u64 ((segN s.data.toList).1 : Nat), .int .i64 (segN s.data.toList).2]) ∧ Below W.heap.size W W'

def w255 : List UInt8 := [119, 48, 48, 48, 48, 48, 48, 48, 48, 48, 48, 48, 48, 48, 48, 102, 102]
theorem name255 : nameL 255 = w255 := by decide +kernel
theorem segN_name (n : Nat) (h : n < 18446744073709551616) : segN (nameL n) = (n, 0) := by unfold segN; rw [num_name n h]; rfl

end Go.Proofs.YthjikbhjciphiaaGreatDoor

/-
  The statement SegNumbers by the program's contracts.
-/
namespace Go.Proofs.YthjikbhjciphiaaGreatDoor
open Go.RowKit
set_option linter.unusedVariables false
set_option linter.unusedSimpArgs false

/-- What Numbers tells. -/
def NumsQ (L : List (List UInt8)) (R : List Nat) : Prop :=
  (∀ x, x ∈ R ↔ ∃ s ∈ L, numC s = (x, true)) ∧ (∀ i x y, R[i]? = some x → R[i + 1]? = some y → x < y) ∧ R.length ≤ L.length
structure SegS (I : World → Prop) : Prop extends SegN I where
  numbers : ∀ (A : Option Addr) (n c : Nat) (L : List (List UInt8)) (W : World), I W → Txs W (fun k => W.heap.size ≤ k) A n L → (∀ s ∈ L, s.length ≤ 281474976710656) → (A = none → c = 0) → n ≤ c → c ≤ maxLen → n ≤ 60 →
    Calls Tryz.prog 28 #[.slice A n c] W fun e W' => ∃ A' k c' R, e = .returned (.slice A' k c') ∧ Nts W' (fun j => W'.heap.size ≤ j) A' k R ∧ Below W.heap.size W W' ∧ NumsQ L R

/-- Is the number among the first k? -/
def among (R : List Nat) (x k : Nat) : Bool := (R.take k).any (· == x)
theorem among_succ (R : List Nat) (x k y : Nat) (h : R[k]? = some y) : among R x (k + 1) = (among R x k || (y == x)) := by
  unfold among
  rw [List.take_add_one, h, List.any_append]
  simp
def amongT (L : List (List UInt8)) (s : List UInt8) (k : Nat) : Bool := (L.take k).any (· == s)
theorem amongT_succ (L : List (List UInt8)) (s : List UInt8) (k : Nat) (y : List UInt8) (h : L[k]? = some y) : amongT L s (k + 1) = (amongT L s k || (y == s)) := by
  unfold amongT
  rw [List.take_add_one, h, List.any_append]
  simp

end Go.Proofs.YthjikbhjciphiaaGreatDoor

/-
  Arguments that are slices of structs with structs inside them, opened by their parts. No program stands here.
-/
namespace Go.Proofs.YthjikbhjciphiaaGreatDoor
open Go.RowKit
open Go.ChangeShapes Go.WideShapes Go.ChangeAt
set_option linter.unusedVariables false
set_option linter.unusedSimpArgs false

/-- Whatever reads as this type is these parts. -/
def Opens {H : Type} (enc : TypeId × Value → H) (P : Program) (w : World) (held : Bool) (t : TypeId) (pks : List PK) : Prop :=
  ∀ (fuel : Nat) (cs : List Value) (x : DataW H × List MemPlace), cs.length = pks.length → DataW.trod enc P w 0 (fun _ => true) held fuel t cs = some x → ∃ ps : List Prt, ps.map Prt.kind = pks ∧ PrtsV w (fun k => w.heap.size ≤ k) cs ps ∧ ∀ p ∈ ps, p.okay

section
variable {H : Type} {enc : TypeId × Value → H} {P : Program} {w : World} {held : Bool}
theorem opens_prt {t : TypeId} {pk : PK} (hf : pk.fits P t) : Opens enc P w held t [pk] := by
  intro fuel cs x hl h
  obtain ⟨v, rfl⟩ := List.length_eq_one_iff.1 hl
  obtain ⟨p, h1, h2, h3⟩ := open_prt hf h
  refine ⟨[p], by rw [List.map_cons, h1]; rfl, ⟨v, [], rfl, h2, rfl⟩, fun q hq => ?_⟩
  rw [List.mem_singleton.1 hq]
  exact h3
/-- A struct, field by field. -/
theorem opens_struct {t : TypeId} {fs : Array Field} (gs : List (List PK)) (ht : P.underlying t = some (.struct fs)) (hc : P.cellsOf t = gs.flatten.length) (hn : fs.size = gs.length)
    (hF : ∀ (i : Nat) (pks : List PK), gs[i]? = some pks → ∃ f, fs[i]? = some f ∧ f.offset = (gs.take i).flatten.length ∧ P.cellsOf f.type = pks.length ∧ Opens enc P w held f.type pks) : Opens enc P w held t gs.flatten := by
  intro fuel cs x hlen h
  obtain ⟨xs, n, _, _, hl, hxl, hf⟩ := DataW.trod_struct ht h
  have each : ∀ (rest : List (List PK)) (j : Nat) (r : List Value), gs.drop j = rest → cs.drop (gs.take j).flatten.length = r → ∃ ps : List Prt, ps.map Prt.kind = rest.flatten ∧ PrtsV w (fun k => w.heap.size ≤ k) r ps ∧ ∀ p ∈ ps, p.okay := by
    intro rest
    induction rest with
    | nil =>
      intro j r h1 h2
      have : gs.length ≤ j := List.drop_eq_nil_iff.1 h1
      refine ⟨[], rfl, ?_, fun p hp => by cases hp⟩
      show r = []
      rw [← h2, List.take_of_length_le this]
      exact List.drop_eq_nil_of_le (by omega)
    | cons pks rest ih =>
      intro j r h1 h2
      have hpk : gs[j]? = some pks := by
        have := congrArg List.head? h1
        simpa [List.head?_drop] using this
      have hj := (List.getElem?_eq_some_iff.1 hpk).1
      have h1' : gs.drop (j + 1) = rest := by
        have := congrArg (List.drop 1) h1
        simpa [List.drop_drop, Nat.add_comm] using this
      have hsum : gs.flatten.length = (gs.take j).flatten.length + (pks.length + rest.flatten.length) := by
        have h3 : gs.flatten = (gs.take j).flatten ++ (gs.drop j).flatten := by rw [← List.flatten_append, List.take_append_drop]
        rw [h3, h1, List.length_append, List.flatten_cons, List.length_append]
      have hnext : (gs.take (j + 1)).flatten.length = (gs.take j).flatten.length + pks.length := by
        rw [List.take_add_one, hpk, List.flatten_append, List.length_append]
        simp
      obtain ⟨f, hfj, ho, hc1, hO⟩ := hF j pks hpk
      have htr := hf j f hfj
      rw [ho, hc1, h2] at htr
      have hxj : xs[j]? = some (xs[j]'(by omega)) := List.getElem?_eq_getElem _
      rw [hxj] at htr
      have hrl : r.length = pks.length + rest.flatten.length := by rw [← h2, List.length_drop]; omega
      obtain ⟨ps, hp1, hp2, hp3⟩ := hO n _ _ (by rw [List.length_take]; omega) htr
      obtain ⟨qs, hq1, hq2, hq3⟩ := ih (j + 1) _ h1' rfl
      rw [hnext, ← List.drop_drop, h2] at hq2
      refine ⟨ps ++ qs, by rw [List.map_append, hp1, hq1, List.flatten_cons], ?_, fun q hq => ?_⟩
      · have := PrtsV.append _ _ _ _ hp2 hq2
        rwa [List.take_append_drop] at this
      · rcases List.mem_append.1 hq with hq | hq
        · exact hp3 q hq
        · exact hq3 q hq
  obtain ⟨ps, h1, h2, h3⟩ := each gs 0 cs rfl rfl
  exact ⟨ps, h1, h2, h3⟩

theorem open_slsG {t e : TypeId} {pks : List PK} {a : Option Addr} {len cap : Nat} {d : DataW H} {p : List MemPlace} (ht : P.underlying t = some (.slice e)) (hc : P.cellsOf e = pks.length) (hk : 0 < pks.length) (hE : Opens enc P w held e pks)
    (h : DataW.Trod enc P w 0 (fun _ => true) held t (.slice a len cap) d p) :
    ∃ ss : List (List Prt), Sls w (fun k => w.heap.size ≤ k) pks.length a len ss ∧ (∀ ps ∈ ss, ps.map Prt.kind = pks ∧ ∀ p ∈ ps, p.okay) ∧ (a = none → cap = 0) ∧ len ≤ cap ∧ cap ≤ maxLen := by
  obtain ⟨fuel, hf⟩ := h
  rcases DataW.trod_slice ht hf with ⟨hcs, _⟩ | ⟨ad, len', cap', elems, rest, m, _, hcs, hx, hb, hl, hm, hlen, hel, _, _⟩
  · simp [Value.cells] at hcs
    obtain ⟨rfl, rfl, rfl⟩ := hcs
    exact ⟨[], Sls.nil, fun _ h => (by cases h), fun _ => rfl, Nat.le_refl _, Nat.zero_le _⟩
  · simp [Value.cells] at hcs
    obtain ⟨rfl, rfl, rfl⟩ := hcs
    have each : ∀ i, i < len → ∃ s : List Prt, ∃ cs : List Value, cs.length = pks.length ∧ (∀ j, j < pks.length → w.cell? (ad.add (i * pks.length + j)) = cs[j]?) ∧ s.map Prt.kind = pks ∧ PrtsV w (fun k => w.heap.size ≤ k) cs s ∧ ∀ p ∈ s, p.okay := by
      intro i hi
      have h1 := hel i hi
      rw [hc] at h1
      rw [List.getElem?_eq_getElem (by omega), Option.bind_eq_some_iff] at h1
      obtain ⟨cs, h2, h3⟩ := h1
      obtain ⟨h4, h5, h6⟩ := World.cells?_some h2
      obtain ⟨s, h7, h8, h9⟩ := hE _ cs _ h5 h3
      exact ⟨s, cs, h5, fun j hj => by rw [← h6 j hj, Addr.add_add], h7, h8, h9⟩
    obtain ⟨ss, hsl, hss⟩ := list_of len each
    have hmem : ∀ s ∈ ss, s.map Prt.kind = pks ∧ ∀ p ∈ s, p.okay := fun s hs => by
      obtain ⟨i, hi⟩ := List.mem_iff_getElem?.1 hs
      obtain ⟨cs, _, _, h3, _, h5⟩ := hss i s hi
      exact ⟨h3, h5⟩
    refine ⟨ss, ⟨hsl, fun s hs => by rw [← (hmem s hs).1, List.length_map], fun hn => ?_⟩, hmem, (fun h => by cases h), hl, hm⟩
    obtain ⟨g, o, spot⟩ := ad
    obtain ⟨s0, cs0, hl0, hc0, _⟩ := each 0 hn
    have hcell0 : w.cell? ((⟨g, o, spot⟩ : Addr).add 0) = some (cs0[0]'(by omega)) := by
      have := hc0 0 (by omega)
      rw [List.getElem?_eq_getElem (by omega)] at this
      simpa using this
    have hspot : spot = none := by simpa [Addr.add] using World.cell?_spot hcell0
    subst hspot
    have hgl : g < w.heap.size := by
      have := World.block_lt_of_cell? w _ hcell0
      simpa [Addr.add] using this
    refine ⟨g, o, rfl, Nat.not_le.2 hgl, hgl, fun j s hj => ?_⟩
    obtain ⟨cs, h1, h2, _, h3, _⟩ := hss j s hj
    refine ⟨cs, h3, fun i v hv => ?_⟩
    have hi : i < pks.length := by
      have := (List.getElem?_eq_some_iff.1 hv).1
      omega
    have := h2 i hi
    rw [Addr.add_lit, hv] at this
    rw [Nat.add_assoc]
    exact this
end

end Go.Proofs.YthjikbhjciphiaaGreatDoor

/-
  What the form's own reach says of texts and of bytes that lie in slices.
-/
namespace Go.Proofs.YthjikbhjciphiaaGreatDoor
open Go.RowKit
open Go.ChangeShapes Go.WideShapes Go.ChangeAt
set_option linter.unusedVariables false
set_option linter.unusedSimpArgs false

theorem weights_all_mem {H : Type} {P : Program} {e : TypeId} : ∀ (l : List (DataW H)) (i : Nat) (d : DataW H), l[i]? = some d → ∀ n ∈ d.weights P e, n ∈ DataW.weightsAll P e l
  | [], i, d, h, n, hn => by cases h
  | x :: l, 0, d, h, n, hn => by
    cases h
    simp only [DataW.weightsAll, List.mem_append]
    exact .inl hn
  | x :: l, i + 1, d, h, n, hn => by
    simp only [DataW.weightsAll, List.mem_append]
    exact .inr (weights_all_mem l i d h n hn)
theorem weights_elem {H : Type} {P : Program} {t e : TypeId} (ht : P.underlying t = some (.slice e)) {elems spare : List (DataW H)} {i : Nat} {d : DataW H} (hd : elems[i]? = some d) : ∀ n ∈ d.weights P e, n ∈ (DataW.slice elems spare).weights P t := by
  intro n hn
  simp only [DataW.weights, ht, List.mem_cons, List.mem_append]
  exact .inr (.inl (weights_all_mem elems i d hd n hn))
/-- An element of a slice of one-cell elements: its cell, and what is read of it. -/
theorem trod_elem {P : Program} {H : Type} {enc : TypeId × Value → H} {w : World} {held : Bool} {a : Option Addr} {len cap : Nat} {d : DataW H} {p : List MemPlace} {t e : TypeId} (ht : P.underlying t = some (.slice e)) (hc : P.cellsOf e = 1)
    (h : DataW.Trod enc P w 0 (fun _ => true) held t (.slice a len cap) d p) {R : Nat} (hw : ∀ n ∈ d.weights P t, n ≤ R) (ad : Addr) (ha : a = some ad) (i : Nat) (hi : i < len) (v : Value) (hv : w.cell? (ad.add i) = some v) :
    ∃ m x, DataW.trod enc P w 0 (fun _ => true) held m e [v] = some x ∧ ∀ n ∈ x.1.weights P e, n ≤ R := by
  obtain ⟨fuel, hf⟩ := h
  rcases DataW.trod_slice ht hf with ⟨hcs, _⟩ | ⟨ad', len', cap', elems, rest, m, _, hcs, hx, hb, hl, hm, hlen, hel, _, _⟩
  · simp [Value.cells] at hcs
    obtain ⟨rfl, rfl, rfl⟩ := hcs
    cases ha
  · simp [Value.cells] at hcs
    obtain ⟨rfl, rfl, rfl⟩ := hcs
    cases ha
    have h1 := hel i hi
    rw [hc, Nat.mul_one] at h1
    obtain ⟨x, hx2⟩ : ∃ x, elems[i]? = some x := ⟨_, List.getElem?_eq_getElem (by omega)⟩
    rw [hx2, Option.bind_eq_some_iff] at h1
    obtain ⟨cs, h2, h3⟩ := h1
    obtain ⟨h4, h5, h6⟩ := World.cells?_some h2
    obtain ⟨u, rfl⟩ := List.length_eq_one_iff.1 h5
    have h7 := h6 0 (by omega)
    rw [Addr.add_add, Nat.add_zero, hv] at h7
    obtain rfl : v = u := by simpa using h7
    refine ⟨m, x, h3, fun n hn => hw n ?_⟩
    simp only [Prod.mk.injEq] at hx
    rw [hx.1]
    exact weights_elem ht (by rw [List.getElem?_map, hx2]; rfl) n hn

theorem txs_reach {P : Program} {H : Type} {enc : TypeId × Value → H} {w : World} {held : Bool} {a : Option Addr} {len cap : Nat} {d : DataW H} {p : List MemPlace} {t e : TypeId} (ht : P.underlying t = some (.slice e)) (hc : P.cellsOf e = 1) (he : P.underlying e = some .string)
    (h : DataW.Trod enc P w 0 (fun _ => true) held t (.slice a len cap) d p) {R : Nat} (hw : ∀ n ∈ d.weights P t, n ≤ R) {l : List (List UInt8)} (hl : Txs w (fun k => w.heap.size ≤ k) a len l) : ∀ s ∈ l, s.length ≤ R := by
  intro s hs
  obtain ⟨j, hj⟩ := List.mem_iff_getElem?.1 hs
  obtain ⟨g, o, ha, _, _, hcell⟩ := Txs.at_ hl hj
  have hjl : j < len := by have := (List.getElem?_eq_some_iff.1 hj).1; have := hl.len; omega
  obtain ⟨m, x, h1, h2⟩ := trod_elem ht hc h hw _ ha j hjl _ (by rw [Addr.add_lit]; exact hcell)
  obtain ⟨s', h3, rfl, _⟩ := DataW.trod_string he h1
  simp only [List.cons.injEq, Value.string.injEq, and_true] at h3
  subst h3
  have := h2 s.length (by simp [DataW.weights])
  exact this

theorem lst_reach {P : Program} {H : Type} {enc : TypeId × Value → H} {w : World} {held : Bool} {a : Option Addr} {len cap : Nat} {d : DataW H} {p : List MemPlace} {t e u : TypeId} (ht : P.underlying t = some (.slice e)) (hc : P.cellsOf e = 1) (he : P.underlying e = some (.slice u)) (hu : P.bytesOf u = 1)
    (h : DataW.Trod enc P w 0 (fun _ => true) held t (.slice a len cap) d p) {R : Nat} (hw : ∀ n ∈ d.weights P t, n ≤ R) {l : List (List UInt8)} (hl : Lst w (fun k => w.heap.size ≤ k) a len l) : ∀ s ∈ l, s.length ≤ R := by
  intro s hs
  obtain ⟨j, hj⟩ := List.mem_iff_getElem?.1 hs
  obtain ⟨g, o, A2, n2, c2, ha, _, _, hcell, hbs, _⟩ := Lst.at_ hl hj
  have hjl : j < len := by have := (List.getElem?_eq_some_iff.1 hj).1; have := hl.1; rw [bts_len] at this; omega
  obtain ⟨m, x, h1, h2⟩ := trod_elem ht hc h hw _ ha j hjl _ (by rw [Addr.add_lit]; exact hcell)
  have hn := hbs.1
  rcases DataW.trod_slice he h1 with ⟨hcs, _⟩ | ⟨ad', len', cap', elems, rest, m', _, hcs, hx, hb, hl', hm, hlen, hel, _, _⟩
  · simp at hcs
    omega
  · simp at hcs
    obtain ⟨rfl, rfl, rfl⟩ := hcs
    subst hx
    have := h2 ((elems.length + rest.length) * P.bytesOf u) (by simp [DataW.weights, he])
    rw [hu] at this
    omega

end Go.Proofs.YthjikbhjciphiaaGreatDoor
