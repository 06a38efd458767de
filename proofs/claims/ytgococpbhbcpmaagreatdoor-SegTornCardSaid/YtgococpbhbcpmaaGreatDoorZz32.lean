/-
  SegTorn for any arguments; an argument that is a list of records, opened.
-/
import Derived.Test.YtgococpbhbcpmaaGreatDoorZz31
import Derived.Test.YtgococpbhbcpmaaGreatDoorZz20
import Derived.Test.YtgococpbhbcpmaaGreatDoorZz30
import Derived.Test.YtgococpbhbcpmaaGreatDoorZz23
import Derived.LaidMore
import Derived.Stop.Joined
import Derived.Stop.LaidErr
import Derived.Lib.LaidTab
import Derived.Test.YtgococpbhbcpmaaGreatDoorZz21
import Derived.Test.YtgococpbhbcpmaaGreatDoorZz6
import Derived.SizedLaws
import Derived.Test.YtgococpbhbcpmaaGreatDoorZz19
import Derived.Laws.StructEq
namespace Go.Proofs.YtgococpbhbcpmaaGreatDoor
open Go.RowKit
open Go.ChangeShapes Go.WideShapes Go.ChangeAt
set_option linter.unusedVariables false
set_option linter.unusedSimpArgs false

theorem segTorn_law {I : World → Prop} (C : SegR I) (A : Option Addr) (n c : Nat) (l : List Rc) (A1 : Option Addr) (n1 c1 : Nat) (lc : List UInt8) (m : Int) (W : World) (hI : I W) (hR : Rcs W (fun k => W.heap.size ≤ k) A n l) (hf : Fine l) (hnil : A = none → c = 0) (hnc : n ≤ c) (hcm : c ≤ maxLen)
    (hC : Byt W W.heap.size A1 n1 lc) (hn1 : n1 ≤ maxLen) (hm1 : m ≤ 9223372036854775807) :
    Calls Tryz.prog 4 #[.slice A n c, .slice A1 n1 c1, .int .i64 m] W fun e W' => e = .returned (.bool true) ∧ Below W.heap.size W W' := by
  by_cases h : largeR l = true ∨ 60 < n1 ∨ m < 0
  · exact segTorn_big C A n c l A1 n1 c1 m W hI hR hf (Nat.le_trans hnc hcm) hn1 h
  · obtain ⟨M, rfl⟩ := Int.eq_ofNat_of_zero_le (show 0 ≤ m by omega)
    have hl : largeR l = false := by
      cases h' : largeR l with
      | false => rfl
      | true => exact absurd (.inl h') h
    exact segTorn_small C A n c l A1 n1 c1 lc M W hI hR hf hnil hnc hcm hC hl (by omega) (by omega)

theorem rcp_of (ps : List Prt) (h : ps.map Prt.kind = [.num .u64, .num .i64, .txt, .num .u64, .num .u64, .num .u64]) (ho : ∀ p ∈ ps, p.okay) : ∃ r : Rc, ps = rcP r ∧ r.okay ∧ r.ten.length ≤ maxLen := by
  match ps, h with
  | [.num k0 z0, .num k1 z1, .txt t, .num k3 z3, .num k4 z4, .num k5 z5], h =>
    simp only [List.map_cons, List.map_nil, Prt.kind, List.cons.injEq, PK.num.injEq, and_true, true_and] at h
    obtain ⟨rfl, rfl, rfl, rfl, rfl⟩ := h
    have b0 := bounds_u64 (ho (.num .u64 z0) (by simp))
    have b1 := bounds_i64 (ho (.num .i64 z1) (by simp))
    have b2 : t.length ≤ maxLen := ho (.txt t) (by simp)
    have b3 := bounds_u64 (ho (.num .u64 z3) (by simp))
    have b4 := bounds_u64 (ho (.num .u64 z4) (by simp))
    have b5 := bounds_u64 (ho (.num .u64 z5) (by simp))
    obtain ⟨s, rfl⟩ := Int.eq_ofNat_of_zero_le b0.1
    obtain ⟨l, rfl⟩ := Int.eq_ofNat_of_zero_le b3.1
    obtain ⟨n, rfl⟩ := Int.eq_ofNat_of_zero_le b4.1
    obtain ⟨b, rfl⟩ := Int.eq_ofNat_of_zero_le b5.1
    refine ⟨⟨s, z1, t, l, n, b⟩, rfl, ⟨?_, ?_, ?_, ?_, ?_, ?_⟩, b2⟩ <;> (simp only; omega)
theorem rcps_of (ss : List (List Prt)) (h : ∀ ps ∈ ss, ps.map Prt.kind = [.num .u64, .num .i64, .txt, .num .u64, .num .u64, .num .u64] ∧ ∀ p ∈ ps, p.okay) : ∃ l : List Rc, ss = rcPs l ∧ Fine l := by
  induction ss with
  | nil => exact ⟨[], rfl, fun r hr => by cases hr⟩
  | cons p t ih =>
    obtain ⟨hk, ho⟩ := h p List.mem_cons_self
    obtain ⟨r, hr, hf⟩ := rcp_of p hk ho
    obtain ⟨l, hl, hfl⟩ := ih fun x hx => h x (List.mem_cons_of_mem _ hx)
    refine ⟨r :: l, by rw [hr, hl]; rfl, fun q hq => ?_⟩
    rcases List.mem_cons.1 hq with rfl | hq
    · exact hf
    · exact hfl q hq
theorem open_rcs {H : Type} {enc : TypeId × Value → H} {w : World} {held : Bool} {a : Option Addr} {len cap : Nat} {d : DataW H} {p : List MemPlace} (h : DataW.Trod enc Tryz.prog w 0 (fun _ => true) held 35 (.slice a len cap) d p) :
    ∃ l, Rcs w (fun k => w.heap.size ≤ k) a len l ∧ Fine l ∧ (a = none → cap = 0) ∧ len ≤ cap ∧ cap ≤ maxLen := by
  obtain ⟨ss, h1, h2, h3⟩ := open_sls (pks := [.num .u64, .num .i64, .txt, .num .u64, .num .u64, .num .u64]) Tryz.underlying35 Tryz.underlying25 (by kernel_rfl) (by decide) ⟨rfl, fun i pk hi => by
    match i, hi with
    | 0, hi => cases hi; exact ⟨_, rfl, rfl, by kernel_rfl, Tryz.underlying23⟩
    | 1, hi => cases hi; exact ⟨_, rfl, rfl, by kernel_rfl, Tryz.underlying3⟩
    | 2, hi => cases hi; exact ⟨_, rfl, rfl, by kernel_rfl, Tryz.underlying9⟩
    | 3, hi => cases hi; exact ⟨_, rfl, rfl, by kernel_rfl, Tryz.underlying23⟩
    | 4, hi => cases hi; exact ⟨_, rfl, rfl, by kernel_rfl, Tryz.underlying23⟩
    | 5, hi => cases hi; exact ⟨_, rfl, rfl, by kernel_rfl, Tryz.underlying23⟩
    | i + 6, hi => exact absurd (List.getElem?_eq_some_iff.1 hi).1 (by simp)⟩ h
  obtain ⟨l, rfl, hf⟩ := rcps_of ss h2
  exact ⟨l, h1, hf, h3⟩

end Go.Proofs.YtgococpbhbcpmaaGreatDoor

/-
  SegTorn's row.
-/
namespace Go.Proofs.YtgococpbhbcpmaaGreatDoor
open Go.RowKit
set_option linter.unusedVariables false
set_option linter.unusedSimpArgs false

theorem segTorn_row (A : Option Addr) (n c : Nat) (l : List Rc) (A1 : Option Addr) (n1 c1 : Nat) (lc : List UInt8) (m : Int) (W : World) (hR : Rcs W (fun k => W.heap.size ≤ k) A n l) (hf : Fine l) (hnil : A = none → c = 0) (hnc : n ≤ c) (hcm : c ≤ maxLen)
    (hC : Byt W W.heap.size A1 n1 lc) (hnil1 : A1 = none → c1 = 0) (hnc1 : n1 ≤ c1) (hcm1 : c1 ≤ maxLen) (hm0 : -9223372036854775808 ≤ m) (hm1 : m ≤ 9223372036854775807) (hS : SV W) :
    Calls Tryz.prog 4 #[.slice A n c, .slice A1 n1 c1, .int .i64 m] W fun e W' => e = .returned (.bool true) ∧ Below W.heap.size W W' :=
  segTorn_law segR_all A n c l A1 n1 c1 lc m W hS hR hf hnil hnc hcm hC (Nat.le_trans hnc1 hcm1) hm1

end Go.Proofs.YtgococpbhbcpmaaGreatDoor

/-
  What the conditions on the library's five listed variables give the walks of segments.
-/
namespace Go.Proofs.YtgococpbhbcpmaaGreatDoor
open Go.ChangeShapes Go.WideShapes Go.ChangeAt Go.WideMaps Go.WideElems Go.RowKit
set_option linter.unusedVariables false
set_option linter.unusedSimpArgs false

theorem gSyn : Tryz.prog.globalNamed "strconv.ErrSyntax" = some 0 := by kernel_rfl
theorem tSyn : (Tryz.prog.globals[0]?).map (·.type) = some 54 := by kernel_rfl
theorem gRng13 : Tryz.prog.globalNamed "strconv.ErrRange" = some 1 := by kernel_rfl
theorem tRng13 : (Tryz.prog.globals[1]?).map (·.type) = some 54 := by kernel_rfl
theorem gBru : Tryz.prog.globalNamed "math/bits.deBruijn64tab" = some 5 := by kernel_rfl
theorem tBru : (Tryz.prog.globals[5]?).map (·.type) = some 161 := by kernel_rfl
theorem starE13 : "*" ++ "errors.errorString" = "*errors.errorString" := by decide
theorem rowE13 (u : TypeId) (h : Tryz.prog.typeName? 3 u = some "*errors.errorString") : u = 151 :=
  typeName_ptr_named (nm := "errors.errorString") (by rw [starE13]; kernel_rfl) (by kernel_rfl) (by decide) u (by rw [starE13]; exact h)
abbrev laidK : List (String × DataW Unit) := [("math/bits.deBruijn32tab", Rows.laid_math_bits_deBruijn32tab), ("math/bits.deBruijn64tab", Rows.laid_math_bits_deBruijn64tab), ("internal/strconv.uint64pow10", Rows.laid_internal_strconv_uint64pow10), ("strconv.ErrRange", Rows.laid_strconv_ErrRange), ("strconv.ErrSyntax", Rows.laid_strconv_ErrSyntax)]

/-- The door's own heap meets the condition. -/
theorem door_met (os : Os) (args : Array Value) : laidMetH Tryz.prog laidK ((World.doorLaid Tryz.prog 400 os).forCall (fun _ _ => 0) ⟨#[], args, []⟩).memory :=
  laidMetH_of_parts3 (fuel := 8) (laidMet_of_run' 8 (by kernel_rfl) (by kernel_rfl)) (by kernel_rfl) (by kernel_rfl)

/-- What the walks ask of the library's variables. -/
theorem of_laid {W : World} (h : laidMetH Tryz.prog laidK W) : SV W := by
  rw [MakeChecks.laidMetH_plain _ _ _ (by kernel_rfl)] at h
  have h3 := h.tail.tail.tail
  obtain ⟨a, s, hv, _⟩ := laid_sentinel h3 gRng13 tRng13 Tryz.underlying54 rowE13 Tryz.underlying151 Tryz.underlying153 rfl rfl Tryz.underlying9 (by kernel_rfl) (by kernel_rfl)
  obtain ⟨a2, s2, hv2, _⟩ := laid_sentinel h3.tail gSyn tSyn Tryz.underlying54 rowE13 Tryz.underlying151 Tryz.underlying153 rfl rfl Tryz.underlying9 (by kernel_rfl) (by kernel_rfl)
  have hT := Lib.tabIs_of_head (P := Tryz.prog) (k := .u8) (zs := Lib.deBruijn64tab.map fun (n : Nat) => (n : Int)) (n := 64) gBru tBru Tryz.underlying161 Tryz.underlying5 (by kernel_rfl) (by kernel_rfl) h.tail
  refine ⟨?_, ⟨_, by simpa using World.var?_cell gSyn hv2 0, .inr ⟨_, _, rfl⟩⟩, ⟨_, by simpa using World.var?_cell gRng13 hv 0, .inr ⟨_, _, rfl⟩⟩⟩
  intro k hk
  have hkl : k < (Lib.deBruijn64tab.map fun (n : Nat) => (n : Int)).length := by rw [List.length_map]; exact hk
  rw [hT.cell gBru k hkl, List.getD_eq_getElem?_getD, List.getD_eq_getElem?_getD, List.getElem?_map]
  rw [List.length_map] at hkl
  rw [List.getElem?_eq_getElem hkl]
  rfl

end Go.Proofs.YtgococpbhbcpmaaGreatDoor

/-
  What the form's own reach says of texts and of bytes that lie in slices.
-/
namespace Go.Proofs.YtgococpbhbcpmaaGreatDoor
open Go.RowKit
open Go.ChangeShapes Go.WideShapes Go.ChangeAt
set_option linter.unusedVariables false
set_option linter.unusedSimpArgs false

theorem weights_all_mem {H : Type} {P : Program} {e : TypeId} : ∀ (l : List (DataW H)) (i : Nat) (d : DataW H), l[i]? = some d → ∀ n ∈ d.weights P e, n ∈ DataW.weightsAll P e l
  | [], i, d, h, n, hn => by cases h
  | x :: l, 0, d, h, n, hn => by
    cases h
    simp only [DataW.weightsAll, List.mem_append]
    exact .inl hn
  | x :: l, i + 1, d, h, n, hn => by
    simp only [DataW.weightsAll, List.mem_append]
    exact .inr (weights_all_mem l i d h n hn)
theorem weights_elem {H : Type} {P : Program} {t e : TypeId} (ht : P.underlying t = some (.slice e)) {elems spare : List (DataW H)} {i : Nat} {d : DataW H} (hd : elems[i]? = some d) : ∀ n ∈ d.weights P e, n ∈ (DataW.slice elems spare).weights P t := by
  intro n hn
  simp only [DataW.weights, ht, List.mem_cons, List.mem_append]
  exact .inr (.inl (weights_all_mem elems i d hd n hn))
/-- An element of a slice of one-cell elements: its cell, and what is read of it. -/
theorem trod_elem {P : Program} {H : Type} {enc : TypeId × Value → H} {w : World} {held : Bool} {a : Option Addr} {len cap : Nat} {d : DataW H} {p : List MemPlace} {t e : TypeId} (ht : P.underlying t = some (.slice e)) (hc : P.cellsOf e = 1)
    (h : DataW.Trod enc P w 0 (fun _ => true) held t (.slice a len cap) d p) {R : Nat} (hw : ∀ n ∈ d.weights P t, n ≤ R) (ad : Addr) (ha : a = some ad) (i : Nat) (hi : i < len) (v : Value) (hv : w.cell? (ad.add i) = some v) :
    ∃ m x, DataW.trod enc P w 0 (fun _ => true) held m e [v] = some x ∧ ∀ n ∈ x.1.weights P e, n ≤ R := by
  obtain ⟨fuel, hf⟩ := h
  rcases DataW.trod_slice ht hf with ⟨hcs, _⟩ | ⟨ad', len', cap', elems, rest, m, _, hcs, hx, hb, hl, hm, hlen, hel, _, _⟩
  · simp [Value.cells] at hcs
    obtain ⟨rfl, rfl, rfl⟩ := hcs
    cases ha
  · simp [Value.cells] at hcs
    obtain ⟨rfl, rfl, rfl⟩ := hcs
    cases ha
    have h1 := hel i hi
    rw [hc, Nat.mul_one] at h1
    obtain ⟨x, hx2⟩ : ∃ x, elems[i]? = some x := ⟨_, List.getElem?_eq_getElem (by omega)⟩
    rw [hx2, Option.bind_eq_some_iff] at h1
    obtain ⟨cs, h2, h3⟩ := h1
    obtain ⟨h4, h5, h6⟩ := World.cells?_some h2
    obtain ⟨u, rfl⟩ := List.length_eq_one_iff.1 h5
    have h7 := h6 0 (by omega)
    rw [Addr.add_add, Nat.add_zero, hv] at h7
    obtain rfl : v = u := by simpa using h7
    refine ⟨m, x, h3, fun n hn => hw n ?_⟩
    simp only [Prod.mk.injEq] at hx
    rw [hx.1]
    exact weights_elem ht (by rw [List.getElem?_map, hx2]; rfl) n hn

theorem txs_reach {P : Program} {H : Type} {enc : TypeId × Value → H} {w : World} {held : Bool} {a : Option Addr} {len cap : Nat} {d : DataW H} {p : List MemPlace} {t e : TypeId} (ht : P.underlying t = some (.slice e)) (hc : P.cellsOf e = 1) (he : P.underlying e = some .string)
    (h : DataW.Trod enc P w 0 (fun _ => true) held t (.slice a len cap) d p) {R : Nat} (hw : ∀ n ∈ d.weights P t, n ≤ R) {l : List (List UInt8)} (hl : Txs w (fun k => w.heap.size ≤ k) a len l) : ∀ s ∈ l, s.length ≤ R := by
  intro s hs
  obtain ⟨j, hj⟩ := List.mem_iff_getElem?.1 hs
  obtain ⟨g, o, ha, _, _, hcell⟩ := Txs.at_ hl hj
  have hjl : j < len := by have := (List.getElem?_eq_some_iff.1 hj).1; have := hl.len; omega
  obtain ⟨m, x, h1, h2⟩ := trod_elem ht hc h hw _ ha j hjl _ (by rw [Addr.add_lit]; exact hcell)
  obtain ⟨s', h3, rfl, _⟩ := DataW.trod_string he h1
  simp only [List.cons.injEq, Value.string.injEq, and_true] at h3
  subst h3
  have := h2 s.length (by simp [DataW.weights])
  exact this

theorem lst_reach {P : Program} {H : Type} {enc : TypeId × Value → H} {w : World} {held : Bool} {a : Option Addr} {len cap : Nat} {d : DataW H} {p : List MemPlace} {t e u : TypeId} (ht : P.underlying t = some (.slice e)) (hc : P.cellsOf e = 1) (he : P.underlying e = some (.slice u)) (hu : P.bytesOf u = 1)
    (h : DataW.Trod enc P w 0 (fun _ => true) held t (.slice a len cap) d p) {R : Nat} (hw : ∀ n ∈ d.weights P t, n ≤ R) {l : List (List UInt8)} (hl : Lst w (fun k => w.heap.size ≤ k) a len l) : ∀ s ∈ l, s.length ≤ R := by
  intro s hs
  obtain ⟨j, hj⟩ := List.mem_iff_getElem?.1 hs
  obtain ⟨g, o, A2, n2, c2, ha, _, _, hcell, hbs, _⟩ := Lst.at_ hl hj
  have hjl : j < len := by have := (List.getElem?_eq_some_iff.1 hj).1; have := hl.1; rw [bts_len] at this; omega
  obtain ⟨m, x, h1, h2⟩ := trod_elem ht hc h hw _ ha j hjl _ (by rw [Addr.add_lit]; exact hcell)
  have hn := hbs.1
  rcases DataW.trod_slice he h1 with ⟨hcs, _⟩ | ⟨ad', len', cap', elems, rest, m', _, hcs, hx, hb, hl', hm, hlen, hel, _, _⟩
  · simp at hcs
    omega
  · simp at hcs
    obtain ⟨rfl, rfl, rfl⟩ := hcs
    subst hx
    have := h2 ((elems.length + rest.length) * P.bytesOf u) (by simp [DataW.weights, he])
    rw [hu] at this
    omega

end Go.Proofs.YtgococpbhbcpmaaGreatDoor

/-
  An argument that is a list of lists of bytes, opened.
-/
namespace Go.Proofs.YtgococpbhbcpmaaGreatDoor
open Go.RowKit
open Go.ChangeShapes Go.WideShapes Go.ChangeAt
set_option linter.unusedVariables false
set_option linter.unusedSimpArgs false

theorem open_lst {H : Type} {enc : TypeId × Value → H} {w : World} {held : Bool} {a : Option Addr} {len cap : Nat} {d : DataW H} {p : List MemPlace} (h : DataW.Trod enc Tryz.prog w 0 (fun _ => true) held 22 (.slice a len cap) d p) :
    ∃ l, Lst w (fun k => w.heap.size ≤ k) a len l ∧ (a = none → cap = 0) ∧ len ≤ cap ∧ cap ≤ maxLen := by
  have hc : Tryz.prog.cellsOf 26 = 1 := by kernel_rfl
  have hfit : PK.fits Tryz.prog 26 .byt := ⟨_, Tryz.underlying26, Tryz.underlying5, by kernel_rfl⟩
  obtain ⟨fuel, hf⟩ := h
  rcases DataW.trod_slice Tryz.underlying22 hf with ⟨hcs, _⟩ | ⟨ad, len', cap', elems, rest, m, _, hcs, hx, hb, hl, hm, hlen, hel, _, _⟩
  · simp [Value.cells] at hcs
    obtain ⟨rfl, rfl, rfl⟩ := hcs
    exact ⟨[], Sls.nil, fun _ => rfl, Nat.le_refl _, Nat.zero_le _⟩
  · simp [Value.cells] at hcs
    obtain ⟨rfl, rfl, rfl⟩ := hcs
    have each : ∀ i, i < len → ∃ s : List UInt8, ∃ v, w.cell? (ad.add i) = some v ∧ PrtV w (fun k => w.heap.size ≤ k) v (.byt s) := by
      intro i hi
      have h1 := hel i hi
      rw [hc, Nat.mul_one] at h1
      rw [List.getElem?_eq_getElem (by omega), Option.bind_eq_some_iff] at h1
      obtain ⟨cs, h2, h3⟩ := h1
      obtain ⟨h4, h5, h6⟩ := World.cells?_some h2
      obtain ⟨v, rfl⟩ := List.length_eq_one_iff.1 h5
      obtain ⟨p, hp, hv, _⟩ := open_prt hfit h3
      cases p with
      | byt s => exact ⟨s, v, by have := h6 0 (by omega); rw [Addr.add_add, Nat.add_zero] at this; simpa using this, hv⟩
      | _ => cases hp
    obtain ⟨ss, hsl, hss⟩ := list_of len each
    refine ⟨ss, ⟨by rw [bts_len]; exact hsl, bts_one ss, fun hn => ?_⟩, (fun h => by cases h), hl, hm⟩
    obtain ⟨g, o, spot⟩ := ad
    obtain ⟨s0, v0, hc0, _⟩ := each 0 hn
    have hspot : spot = none := by simpa [Addr.add] using World.cell?_spot hc0
    subst hspot
    have hgl : g < w.heap.size := by
      have := World.block_lt_of_cell? w _ hc0
      simpa [Addr.add] using this
    refine ⟨g, o, rfl, Nat.not_le.2 hgl, hgl, fun j f hj => ?_⟩
    obtain ⟨s, hs, rfl⟩ : ∃ s, ss[j]? = some s ∧ [.byt s] = f := by
      unfold bts at hj
      rw [List.getElem?_map] at hj
      obtain ⟨s, hs, e⟩ := Option.map_eq_some_iff.1 hj
      exact ⟨s, hs, e⟩
    obtain ⟨v, hv, hp⟩ := hss j s hs
    refine ⟨[v], ⟨v, [], rfl, hp, rfl⟩, fun i y hy => ?_⟩
    match i, hy with
    | 0, hy =>
      simp at hy
      subst hy
      rw [Nat.mul_one, Nat.add_zero]
      rwa [Addr.add_lit] at hv

end Go.Proofs.YtgococpbhbcpmaaGreatDoor

/-
  The statements of records' bytes.
-/
namespace Go.Proofs.YtgococpbhbcpmaaGreatDoor
open Go.RowKit
set_option linter.unusedVariables false
set_option linter.unusedSimpArgs false

end Go.Proofs.YtgococpbhbcpmaaGreatDoor

/-
  An argument that is a record, opened; the statements as the rows hand their arguments over.
-/
namespace Go.Proofs.YtgococpbhbcpmaaGreatDoor
open Go.RowKit
open Go.ChangeShapes Go.WideShapes Go.ChangeAt
set_option linter.unusedVariables false
set_option linter.unusedSimpArgs false

theorem rc_of (w : World) (S : Nat → Prop) (cs : List Value) (ps : List Prt) (h : ps.map Prt.kind = [.num .u64, .num .i64, .txt, .num .u64, .num .u64, .num .u64]) (hv : PrtsV w S cs ps) (ho : ∀ p ∈ ps, p.okay) :
    ∃ (s : Nat) (k : Int) (T : ByteArray) (l n b : Nat), cs = rcCs s k T l n b ∧ (⟨s, k, T.data.toList, l, n, b⟩ : Rc).okay ∧ T.size ≤ maxLen := by
  match ps, h with
  | [.num k0 z0, .num k1 z1, .txt t, .num k3 z3, .num k4 z4, .num k5 z5], h =>
    simp only [List.map_cons, List.map_nil, Prt.kind, List.cons.injEq, PK.num.injEq, and_true, true_and] at h
    obtain ⟨rfl, rfl, rfl, rfl, rfl⟩ := h
    obtain ⟨v0, r0, rfl, e0, v1, r1, rfl, e1, v2, r2, rfl, e2, v3, r3, rfl, e3, v4, r4, rfl, e4, v5, r5, rfl, e5, e6⟩ := hv
    have e0 : v0 = .int .u64 z0 := e0
    have e1 : v1 = .int .i64 z1 := e1
    have e2 : v2 = .string ⟨t.toArray⟩ := e2
    have e3 : v3 = .int .u64 z3 := e3
    have e4 : v4 = .int .u64 z4 := e4
    have e5 : v5 = .int .u64 z5 := e5
    have e6 : r5 = [] := e6
    subst e0 e1 e2 e3 e4 e5 e6
    have b0 := bounds_u64 (ho (.num .u64 z0) (by simp))
    have b1 := bounds_i64 (ho (.num .i64 z1) (by simp))
    have b2 : t.length ≤ maxLen := ho (.txt t) (by simp)
    have b3 := bounds_u64 (ho (.num .u64 z3) (by simp))
    have b4 := bounds_u64 (ho (.num .u64 z4) (by simp))
    have b5 := bounds_u64 (ho (.num .u64 z5) (by simp))
    obtain ⟨s, rfl⟩ := Int.eq_ofNat_of_zero_le b0.1
    obtain ⟨l, rfl⟩ := Int.eq_ofNat_of_zero_le b3.1
    obtain ⟨n, rfl⟩ := Int.eq_ofNat_of_zero_le b4.1
    obtain ⟨b, rfl⟩ := Int.eq_ofNat_of_zero_le b5.1
    refine ⟨s, z1, ⟨t.toArray⟩, l, n, b, rfl, ⟨?_, ?_, ?_, ?_, ?_, ?_⟩, b2⟩ <;> (simp only; omega)

set_option maxRecDepth 100000 in
theorem open_rc {H : Type} {enc : TypeId × Value → H} {W : World} {base : Nat} {held : Bool} {v : Value} {d : DataW H} {p : List MemPlace}
    (hv : Value.okWide Tryz.prog W .any base 25 v) (h : DataW.Trod enc Tryz.prog W 0 (fun _ => true) held 25 v d p) :
    ∃ (s : Nat) (k : Int) (T : ByteArray) (l n b : Nat), v = rcV s k T l n b ∧ (⟨s, k, T.data.toList, l, n, b⟩ : Rc).okay ∧ T.size ≤ maxLen := by
  have c4 : Tryz.prog.cellsOf 25 = 6 := by kernel_rfl
  obtain ⟨cs, rfl, hsz, _⟩ : ∃ cs, v = .agg cs ∧ cs.size = Tryz.prog.cellsOf 25 ∧ Row.okWide Tryz.prog W .any base 25 cs := by
    simpa [Value.okWide, Tryz.underlying25] using hv
  obtain ⟨fuel, hf⟩ := h
  obtain ⟨ps, h1, h2, h3⟩ := open_prts (pks := [.num .u64, .num .i64, .txt, .num .u64, .num .u64, .num .u64]) Tryz.underlying25 c4 ⟨rfl, fun i pk hi => by
    match i, hi with
    | 0, hi => cases hi; exact ⟨_, rfl, rfl, by kernel_rfl, Tryz.underlying23⟩
    | 1, hi => cases hi; exact ⟨_, rfl, rfl, by kernel_rfl, Tryz.underlying3⟩
    | 2, hi => cases hi; exact ⟨_, rfl, rfl, by kernel_rfl, Tryz.underlying9⟩
    | 3, hi => cases hi; exact ⟨_, rfl, rfl, by kernel_rfl, Tryz.underlying23⟩
    | 4, hi => cases hi; exact ⟨_, rfl, rfl, by kernel_rfl, Tryz.underlying23⟩
    | 5, hi => cases hi; exact ⟨_, rfl, rfl, by kernel_rfl, Tryz.underlying23⟩
    | i + 6, hi => exact absurd (List.getElem?_eq_some_iff.1 hi).1 (by simp)⟩ hf
  obtain ⟨s, k, T, l, n, b, hc, ho, hT⟩ := rc_of W _ _ ps h1 h2 h3
  refine ⟨s, k, T, l, n, b, ?_, ho, hT⟩
  have hc' : cs.toList = rcCs s k T l n b := hc
  unfold rcV
  congr 1
  apply Array.ext'
  rw [hc']
  rfl

end Go.Proofs.YtgococpbhbcpmaaGreatDoor

/-
  SegRecords' row.
-/
namespace Go.Proofs.YtgococpbhbcpmaaGreatDoor
open Go.RowKit
set_option linter.unusedVariables false
set_option linter.unusedSimpArgs false

theorem segRecords_row (A : Option Addr) (n c : Nat) (L : List (List UInt8)) (s : Nat) (k : Int) (T : ByteArray) (l nn b : Nat) (W : World) (hL : Lst W (fun k => W.heap.size ≤ k) A n L) (hel : ∀ x ∈ L, x.length ≤ 140737488351232) (hnil : A = none → c = 0) (hnc : n ≤ c) (hcm : c ≤ maxLen)
    (ho : (⟨s, k, T.data.toList, l, nn, b⟩ : Rc).okay) (hT : T.size ≤ maxLen) (hS : SV W) :
    Calls Tryz.prog 3 #[.slice A n c, rcV s k T l nn b] W fun e W' => e = .returned (.bool true) ∧ Below W.heap.size W W' :=
  segRecords_law segR_all A n c L s k T l nn b W hS hL hnil hnc hcm hel ho hT

end Go.Proofs.YtgococpbhbcpmaaGreatDoor
