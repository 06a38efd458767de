/-
  Arguments opened: byte slices, slices of int8, as the walks want them.
-/
import Derived.Test.YtikghnbhbehepaaZz1
import Derived.OpenShut
import Derived.ShutString
import Derived.ChangeOld
import Derived.ChangeArms
import Derived.Test.YtikghnbhbehepaaZz10
import Derived.BigCall
import Derived.BigGuard
namespace Go.Proofs.Ytikghnbhbehepaa
open Go.RowKit
open Go.ChangeShapes Go.WideShapes Go.ChangeAt
set_option linter.unusedVariables false
set_option linter.unusedSimpArgs false

theorem Try.own : ownKnob Try.prog.godebug = none := by kernel_rfl
theorem Try.laidOut : laidOutB Try.prog = true := by kernel_rfl

section
variable {H : Type} {enc : TypeId × Value → H} {P : Program} {w : World}

theorem ofNat_toNat_u8 (z : Int) (h0 : 0 ≤ z) (h1 : z ≤ 255) : (((UInt8.ofNat z.toNat).toNat : Nat) : Int) = z := by
  simp [UInt8.toNat_ofNat']; omega

/-- A '[]byte' that came in. -/
theorem open_byt {t e : TypeId} {held : Bool} {a : Option Addr} {len cap : Nat} {d : DataW H} {p : List MemPlace} (ht : P.underlying t = some (.slice e)) (he : P.underlying e = some (.int .u8)) (hc : P.cellsOf e = 1)
    (h : DataW.Trod enc P w 0 (fun _ => true) held t (.slice a len cap) d p) : ∃ l, Byt w w.heap.size a len l ∧ (a = none → cap = 0) ∧ len ≤ cap ∧ cap ≤ maxLen := by
  obtain ⟨fuel, hf⟩ := h
  rcases open_ints ht he hc hf with ⟨hcs, _⟩ | ⟨x, l, c, zs, hcs, _, hl, hm, hz, _, hcell, hwz⟩
  · simp [Value.cells] at hcs
    obtain ⟨rfl, rfl, rfl⟩ := hcs
    exact ⟨[], Byt.nil, fun _ => rfl, Nat.le_refl _, Nat.zero_le _⟩
  · simp [Value.cells] at hcs
    obtain ⟨rfl, rfl, rfl⟩ := hcs
    simp only [if_true] at hz
    have hll : ((zs.take len).map fun z => UInt8.ofNat z.toNat).length = len := by rw [List.length_map, List.length_take, hz]; omega
    refine ⟨(zs.take len).map fun z => UInt8.ofNat z.toNat, ⟨hll, fun hn => ?_⟩, (fun h => by cases h), hl, hm⟩
    obtain ⟨b, off, spot⟩ := x
    have h0 := hcell 0 (by omega)
    have hspot : spot = none := by simpa [Addr.add] using World.cell?_spot h0
    subst hspot
    refine ⟨b, off, rfl, ?_, fun j y hy => ?_⟩
    · have := World.block_lt_of_cell? w _ h0
      simpa [Addr.add] using this
    · rw [List.getElem?_map] at hy
      obtain ⟨z, hz1, rfl⟩ := Option.map_eq_some_iff.1 hy
      rw [List.getElem?_take] at hz1
      split at hz1
      · rename_i hj
        have hcj := hcell j (by omega)
        rw [Addr.add_lit] at hcj
        have hzj : zs.getD j 0 = z := by rw [List.getD_eq_getElem?_getD, hz1]; rfl
        rw [hcj, hzj]
        obtain ⟨b0, b1⟩ := bounds_u8 (hwz z (List.mem_of_getElem? hz1))
        rw [ofNat_toNat_u8 z b0 b1]
      · cases hz1

/-- Slices of integers of whatever kind: the cells. -/
def Nums (k : IntKind) (w : World) (B : Nat) (A : Option Addr) (n : Nat) (l : List Int) : Prop :=
  l.length = n ∧ (∀ z ∈ l, (Lit.int k z).wf = true) ∧ (0 < n → ∃ b o, A = some ⟨b, o, none⟩ ∧ b < B ∧ ∀ (j : Nat) (x : Int), l[j]? = some x → w.cell? ⟨b, o + j, none⟩ = some (.int k x))

theorem open_nums {k : IntKind} {t e : TypeId} {held : Bool} {a : Option Addr} {len cap : Nat} {d : DataW H} {p : List MemPlace} (ht : P.underlying t = some (.slice e)) (he : P.underlying e = some (.int k)) (hc : P.cellsOf e = 1)
    (h : DataW.Trod enc P w 0 (fun _ => true) held t (.slice a len cap) d p) : ∃ l, Nums k w w.heap.size a len l ∧ (a = none → cap = 0) ∧ len ≤ cap ∧ cap ≤ maxLen := by
  obtain ⟨fuel, hf⟩ := h
  rcases open_ints ht he hc hf with ⟨hcs, _⟩ | ⟨x, l, c, zs, hcs, _, hl, hm, hz, _, hcell, hwz⟩
  · simp [Value.cells] at hcs
    obtain ⟨rfl, rfl, rfl⟩ := hcs
    exact ⟨[], ⟨rfl, fun _ h => (by cases h), fun h => absurd h (by omega)⟩, fun _ => rfl, Nat.le_refl _, Nat.zero_le _⟩
  · simp [Value.cells] at hcs
    obtain ⟨rfl, rfl, rfl⟩ := hcs
    simp only [if_true] at hz
    refine ⟨zs.take len, ⟨by rw [List.length_take, hz]; omega, fun z h => hwz z (List.mem_of_mem_take h), fun hn => ?_⟩, (fun h => by cases h), hl, hm⟩
    obtain ⟨b, off, spot⟩ := x
    have h0 := hcell 0 (by omega)
    have hspot : spot = none := by simpa [Addr.add] using World.cell?_spot h0
    subst hspot
    refine ⟨b, off, rfl, ?_, fun j y hy => ?_⟩
    · have := World.block_lt_of_cell? w _ h0
      simpa [Addr.add] using this
    · rw [List.getElem?_take] at hy
      split at hy
      · rename_i hj
        have hcj := hcell j (by omega)
        rw [Addr.add_lit] at hcj
        have hzj : zs.getD j 0 = y := by rw [List.getD_eq_getElem?_getD, hy]; rfl
        rw [hcj, hzj]
      · cases hy
theorem Nums.keep {k : IntKind} {w w' : World} {B n : Nat} {A : Option Addr} {l : List Int} (h : Nums k w B A n l) (hk : ∀ p : Addr, p.block < B → w'.cell? p = w.cell? p) : Nums k w' B A n l :=
  ⟨h.1, h.2.1, fun hn => by
    obtain ⟨b, o, e, hb, hc⟩ := h.2.2 hn
    exact ⟨b, o, e, hb, fun j u hu => (hk _ hb).trans (hc j u hu)⟩⟩
theorem Nums.below {k : IntKind} {w w' : World} {B n : Nat} {A : Option Addr} {l : List Int} (h : Nums k w B A n l) (hb : Below B w w') : Nums k w' B A n l := h.keep fun _ hp => hb.cell hp
theorem Nums.at_ {k : IntKind} {w : World} {B n : Nat} {A : Option Addr} {l : List Int} (h : Nums k w B A n l) {i : Nat} (hk : i < n) : ∃ b o x, A = some ⟨b, o, none⟩ ∧ b < B ∧ l[i]? = some x ∧ (Lit.int k x).wf = true ∧ w.cell? ⟨b, o + i, none⟩ = some (.int k x) := by
  obtain ⟨b, o, e, hb, hc⟩ := h.2.2 (by omega)
  have hl : i < l.length := by have := h.1; omega
  exact ⟨b, o, l[i], e, hb, List.getElem?_eq_getElem hl, h.2.1 _ (List.getElem_mem hl), hc i _ (List.getElem?_eq_getElem hl)⟩
end
end Go.Proofs.Ytikghnbhbehepaa

/-
  Arguments that are slices of structs, opened: the general words.
-/
namespace Go.Proofs.Ytikghnbhbehepaa
open Go.RowKit
open Go.ChangeShapes Go.WideShapes Go.ChangeAt
set_option linter.unusedVariables false
set_option linter.unusedSimpArgs false

theorem list_of {α : Type} {Q : Nat → α → Prop} : ∀ (n : Nat), (∀ i, i < n → ∃ x, Q i x) → ∃ l : List α, l.length = n ∧ ∀ (i : Nat) (x : α), l[i]? = some x → Q i x := by
  intro n
  induction n with
  | zero => intro _; exact ⟨[], rfl, fun i x h => by cases h⟩
  | succ n ih =>
    intro h
    obtain ⟨l, h1, h2⟩ := ih (fun i hi => h i (by omega))
    obtain ⟨x, hx⟩ := h n (by omega)
    refine ⟨l ++ [x], by simp [h1], fun i y hy => ?_⟩
    by_cases hi : i < n
    · rw [List.getElem?_append_left (by omega)] at hy
      exact h2 i y hy
    · rw [List.getElem?_append_right (by omega)] at hy
      have hin : i - l.length = 0 := by
        have := (List.getElem?_eq_some_iff.1 hy).1
        simp at this
        omega
      rw [hin] at hy
      have hyx : x = y := by simpa using hy
      subst hyx
      have : i = n := by omega
      subst this
      exact hx

theorem bounds_w64 {z : Int} (h : (Lit.int .u64 z).wf = true) : 0 ≤ z ∧ z < 18446744073709551616 := by
  have h2 := bounds_u64 h
  exact ⟨h2.1, Int.lt_of_le_of_lt h2.2 (by decide)⟩

end Go.Proofs.Ytikghnbhbehepaa

/-
  An argument that is a slice of steps, opened.
-/
namespace Go.Proofs.Ytikghnbhbehepaa
open Go.RowKit
open Go.ChangeShapes Go.WideShapes Go.ChangeAt
set_option linter.unusedVariables false
set_option linter.unusedSimpArgs false

section
variable {H : Type} {enc : TypeId × Value → H} {w : World} {held : Bool}

set_option maxRecDepth 100000 in
theorem open_sp {fuel : Nat} {cs : List Value} {x : DataW H × List MemPlace} (h : DataW.trod enc Try.prog w 0 (fun _ => true) held fuel 46 cs = some x) (hl : cs.length = 6) :
    ∃ s : Sp, SpV w (fun k => w.heap.size ≤ k) (.agg cs.toArray) s ∧ s.n < 18446744073709551616 := by
  obtain ⟨xs, n, _, _, _, hxl, hf⟩ := DataW.trod_struct Try.underlying46 h
  match cs, hl with
  | [y0, y1, y2, y3, y4, y5], _ =>
    have c3 : Try.prog.cellsOf 3 = 1 := by kernel_rfl
    have c9 : Try.prog.cellsOf 9 = 1 := by kernel_rfl
    have c33 : Try.prog.cellsOf 24 = 1 := by kernel_rfl
    have c34 : Try.prog.cellsOf 44 = 1 := by kernel_rfl
    have h0 : DataW.trod enc Try.prog w 0 (fun _ => true) held n 3 (([y0, y1, y2, y3, y4, y5].drop 0).take (Try.prog.cellsOf 3)) = xs[0]? := hf 0 _ rfl
    rw [c3] at h0
    change DataW.trod enc Try.prog w 0 (fun _ => true) held n 3 [y0] = xs[0]? at h0
    have h1 : DataW.trod enc Try.prog w 0 (fun _ => true) held n 9 (([y0, y1, y2, y3, y4, y5].drop 1).take (Try.prog.cellsOf 9)) = xs[1]? := hf 1 _ rfl
    rw [c9] at h1
    change DataW.trod enc Try.prog w 0 (fun _ => true) held n 9 [y1] = xs[1]? at h1
    have h2 : DataW.trod enc Try.prog w 0 (fun _ => true) held n 9 (([y0, y1, y2, y3, y4, y5].drop 2).take (Try.prog.cellsOf 9)) = xs[2]? := hf 2 _ rfl
    rw [c9] at h2
    change DataW.trod enc Try.prog w 0 (fun _ => true) held n 9 [y2] = xs[2]? at h2
    have h3 : DataW.trod enc Try.prog w 0 (fun _ => true) held n 44 (([y0, y1, y2, y3, y4, y5].drop 3).take (Try.prog.cellsOf 44)) = xs[3]? := hf 3 _ rfl
    rw [c34] at h3
    change DataW.trod enc Try.prog w 0 (fun _ => true) held n 44 [y3] = xs[3]? at h3
    have h4 : DataW.trod enc Try.prog w 0 (fun _ => true) held n 24 (([y0, y1, y2, y3, y4, y5].drop 4).take (Try.prog.cellsOf 24)) = xs[4]? := hf 4 _ rfl
    rw [c33] at h4
    change DataW.trod enc Try.prog w 0 (fun _ => true) held n 24 [y4] = xs[4]? at h4
    have h5 : DataW.trod enc Try.prog w 0 (fun _ => true) held n 3 (([y0, y1, y2, y3, y4, y5].drop 5).take (Try.prog.cellsOf 3)) = xs[5]? := hf 5 _ rfl
    rw [c3] at h5
    change DataW.trod enc Try.prog w 0 (fun _ => true) held n 3 [y5] = xs[5]? at h5
    have hx6 : xs.length = 6 := hxl
    rw [List.getElem?_eq_getElem (by omega)] at h0 h1 h2 h3 h4 h5
    obtain ⟨zk, e0, _, _⟩ := DataW.trod_int Try.underlying3 h0
    obtain ⟨T, e1, _, _⟩ := DataW.trod_string Try.underlying9 h1
    obtain ⟨U, e2, _, _⟩ := DataW.trod_string Try.underlying9 h2
    obtain ⟨A, m, c, e3⟩ : ∃ A m c, y3 = .slice A m c := by
      rcases DataW.trod_slice Try.underlying44 h3 with ⟨e, _⟩ | ⟨a, l, c, _, _, _, _, e, _⟩
      · exact ⟨none, 0, 0, by simpa using e⟩
      · exact ⟨some a, l, c, by simpa using e⟩
    obtain ⟨z, e4, _, hz⟩ := DataW.trod_int Try.underlying24 h4
    obtain ⟨zm, e5, _, _⟩ := DataW.trod_int Try.underlying3 h5
    cases e0; cases e1; cases e2; subst e3; cases e4; cases e5
    obtain ⟨l, hb, hnil, hlc, hmx⟩ := open_byt Try.underlying44 Try.underlying5 (by kernel_rfl) ⟨n, h3⟩
    obtain ⟨z0, z1⟩ := bounds_w64 hz
    obtain ⟨u, rfl⟩ : ∃ u : Nat, z = (u : Int) := ⟨z.toNat, by omega⟩
    exact ⟨⟨zk, T.data.toList, U.data.toList, l, u, zm⟩, ⟨A, m, c, rfl, hb.off (fun k hk => hk), fun hA => ⟨by have := hnil hA; omega, hnil hA⟩, hlc, hmx⟩, by show u < _; omega⟩

end

end Go.Proofs.Ytikghnbhbehepaa

/-
  A slice whose elements take one cell, as a list of values: reads, append, make. No program stands here.
-/
namespace Go.Proofs.Ytikghnbhbehepaa
open Go.RowKit
set_option linter.unusedVariables false
set_option linter.unusedSimpArgs false

/-- The slice value '.slice A n c' reads as the cells xs, in blocks below B. -/
def Vals (w : World) (B : Nat) (A : Option Addr) (n : Nat) (xs : List Value) : Prop :=
  xs.length = n ∧ (0 < n → ∃ b o, A = some ⟨b, o, none⟩ ∧ b < B ∧ ∀ (j : Nat) (x : Value), xs[j]? = some x → w.cell? ⟨b, o + j, none⟩ = some x)

section
variable {w w' : World} {B B' n : Nat} {A : Option Addr} {xs : List Value}
theorem Vals.nil : Vals w B A 0 [] := ⟨rfl, fun h => absurd h (by omega)⟩
theorem Vals.len (h : Vals w B A n xs) : xs.length = n := h.1
theorem Vals.keep (h : Vals w B A n xs) (hk : ∀ p : Addr, p.block < B → w'.cell? p = w.cell? p) : Vals w' B A n xs :=
  ⟨h.1, fun hn => by
    obtain ⟨b, o, e, hb, hc⟩ := h.2 hn
    exact ⟨b, o, e, hb, fun j u hu => (hk _ hb).trans (hc j u hu)⟩⟩
theorem Vals.more (h : Vals w B A n xs) (hB : B ≤ B') : Vals w B' A n xs :=
  ⟨h.1, fun hn => by
    obtain ⟨b, o, e, hb, hc⟩ := h.2 hn
    exact ⟨b, o, e, by omega, hc⟩⟩
theorem Vals.below (h : Vals w B A n xs) (hb : Below B w w') : Vals w' B A n xs := h.keep fun _ hp => hb.cell hp
theorem Vals.drew (h : Vals w B A n xs) : Vals w.drew B A n xs := h
theorem Vals.drewN (h : Vals w B A n xs) (k : Nat) : Vals (w.drewN k) B A n xs := h
theorem Vals.alloc (h : Vals w B A n xs) (hB : B ≤ w.heap.size) (o : Obj) : Vals (w.alloc o) B A n xs := h.keep fun p hp => World.cell?_alloc_lt w o p (by omega)
theorem Vals.at_ (h : Vals w B A n xs) {k : Nat} (hk : k < n) : ∃ b o x, A = some ⟨b, o, none⟩ ∧ b < B ∧ xs[k]? = some x ∧ w.cell? ⟨b, o + k, none⟩ = some x := by
  obtain ⟨b, o, e, hb, hc⟩ := h.2 (by omega)
  have hl : k < xs.length := by have := h.1; omega
  exact ⟨b, o, xs[k], e, hb, List.getElem?_eq_getElem hl, hc k _ (List.getElem?_eq_getElem hl)⟩
theorem Vals.of_own {base : Nat} {e : TypeId} {c : Nat} (h : w.ownsRow base e 1 (.slice A n c) n xs) : Vals w w.heap.size A n xs := by
  refine ⟨by have := h.1; simpa using this, fun hn => ?_⟩
  rcases h.2 with ⟨_, h0⟩ | ⟨g, cap, cur, hv, _, hh, _⟩
  · omega
  · injection hv with hA
    subst hA
    refine ⟨g, 0, rfl, (Array.getElem?_eq_some_iff.1 hh).1, fun j x hx => ?_⟩
    have := h.cells (g := g) rfl j x hx
    rw [Addr.add_lit] at this
    exact this
end

/-- 'append(out, src...)' onto a row of the call's own, the source nil, empty or not. -/
theorem run_append_vals {P : Program} (w : World) (base : Nat) (t ty e : TypeId) (i : TypeInfo) (z : Value) (bytes : Nat) (ht : P.underlying t = some (.slice e)) (hi : P.info? e = some i) (hz : i.zero = some z)
    (hsize : i.size = 1) (hby : i.bytes = bytes) (hzs : z.cells.size = 1)
    (v : Value) (n : Nat) (xs : List Value) (hown : w.ownsRow base e 1 v n xs)
    (B : Nat) (A : Option Addr) (m c : Nat) (l : List Value) (hr : Vals w B A m l) (hnil : A = none → c = 0) (h1 : ∀ u ∈ l, u.oneCell' = true)
    (h47 : (n + m) * bytes ≤ 140737488355328) (h63 : n + m ≤ 140737488355328) (hbase : base ≤ w.heap.size) :
    ∃ v' w', (Builtin.append_ #[t, t] ty #[v, .slice A m c]).run P w = .ok v' w' ∧ w'.ownsRow base e 1 v' (n + m) (xs ++ l) ∧ w.grownBy w' v.ownBlock := by
  by_cases hm : m = 0
  · subst hm
    have hl : l = [] := List.eq_nil_of_length_eq_zero hr.1
    subst hl
    rcases A with _ | ad
    · obtain rfl := hnil rfl
      exact ⟨v, w, run_append_owned_none (P := P) w base t ty e i 1 ht hi v n xs hown, by simpa using hown, World.grownBy.refl w _⟩
    · obtain ⟨v', w', hrun, h2, h3, _⟩ := run_append_own (P := P) w base t ty e i z 1 bytes ht hi hz hsize hby hzs (by decide) v n xs hown ad 0 c [] rfl (by simp) (by simp) (by unfold maxLen; omega) (by omega) hbase
      exact ⟨v', w', hrun, h2, h3⟩
  · obtain ⟨b, o, rfl, hb, hc⟩ := hr.2 (by omega)
    obtain ⟨v', w', hrun, h2, h3, _⟩ := run_append_own (P := P) w base t ty e i z 1 bytes ht hi hz hsize hby hzs (by decide) v n xs hown ⟨b, o, none⟩ m c l (by simp [hr.1])
      (by
        intro j u hu
        rw [Addr.add_lit]
        exact hc j u hu) h1 (by unfold maxLen; omega) (by omega) hbase
    exact ⟨v', w', hrun, h2, h3⟩

theorem wpList_append_vals {P : Program} (w : World) {ops : Array Oper} {rest : List Oper} {o : Oper} {a : Act} {Q : Exit → Act → World → Prop} (hgd : Region.wanted o (yielded ops a.tmps) = true) (s x : Operand) (t : TypeId)
    (ho : o.op = .call { callee := .builtin .append, args := #[s, x], argTypes := #[t, t] })
    (base : Nat) (e : TypeId) (i : TypeInfo) (z : Value) (bytes : Nat) (ht : P.underlying t = some (.slice e)) (hi : P.info? e = some i) (hz : i.zero = some z)
    (hsize : i.size = 1) (hby : i.bytes = bytes) (hzs : z.cells.size = 1)
    (v : Value) (n : Nat) (xs : List Value) (hs : a.eval s = v) (hown : w.ownsRow base e 1 v n xs)
    (B : Nat) (A : Option Addr) (m c : Nat) (l : List Value) (hx : a.eval x = .slice A m c) (hr : Vals w B A m l) (hnil : A = none → c = 0) (h1 : ∀ u ∈ l, u.oneCell' = true)
    (h47 : (n + m) * bytes ≤ 140737488355328) (h63 : n + m ≤ 140737488355328) (hbase : base ≤ w.heap.size)
    (h : ∀ v' w', w'.ownsRow base e 1 v' (n + m) (xs ++ l) → w.grownBy w' v.ownBlock → wpList P ops Q rest (a.put o.dst v') w') : wpList P ops Q (o :: rest) a w := by
  refine BigFrame.wpList_want hgd fun K hK => ?_
  obtain ⟨v', w', hr, h2, h3⟩ := run_append_vals (P := P) w base t o.type e i z bytes ht hi hz hsize hby hzs v n xs hown B A m c l hr hnil h1 h47 h63 hbase
  unfold Oper.wp execOp
  simp only [ho, resolve, invoke, builtin, Sem.run_bind, Sem.run_pure, Result.andThen_ok, List.map_toArray, List.map_cons, List.map_nil, hs, hx, hr]
  exact hK _ _ (h v' w' h2 h3)

/-- One value appended: the walk has just laid it in a block of its own. -/
theorem Vals.one (w : World) (x y : Value) (hx : y = x) (e : TypeId) : Vals (w.alloc (.cells #[y] e)) (w.heap.size + 1) (some ⟨w.heap.size, 0, none⟩) 1 [x] := by
  subst hx
  refine ⟨rfl, fun _ => ⟨_, _, rfl, by omega, fun j z hz => ?_⟩⟩
  match j, hz with
  | 0, hz => simp at hz; subst hz; simp [World.cell?_alloc_at]

/-- 'make([]T, n, m)' of elements of one cell. -/
theorem wpList_make_vals {P : Program} (w : World) {ops : Array Oper} {rest : List Oper} {o : Oper} {a : Act} {Q : Exit → Act → World → Prop}
    (hg : o.guard = none) (l c : Operand) (t : TypeId) (hop : o.op = Op.makeSlice t l c)
    (base : Nat) (e : TypeId) (i : TypeInfo) (z : Value) (bytes : Nat) (h1 : P.underlying t = some (.slice e)) (h2 : P.info? e = some i) (h3 : i.zero = some z) (hz1 : z.oneCell' = true) (hzc : z.cells = #[z]) (h4 : i.size = 1) (h5 : i.bytes = bytes)
    (kl kc : IntKind) (N C : Int) (n m : Nat) (hl : a.eval l = .int kl N) (hc : a.eval c = .int kc C) (hN : N = (n : Int)) (hC : C = (m : Int)) (hnm : n ≤ m) (b2 : bytes * m ≤ 140737488355328) (b3 : m ≤ 140737488355328) (b4 : base ≤ w.heap.size)
    (hK : ∀ w', w'.ownsRow base e 1 (.slice (some ⟨w.heap.size, 0, none⟩) n m) n (List.replicate n z) → w.grownBy w' none → wpList P ops Q rest (a.put o.dst (.slice (some ⟨w.heap.size, 0, none⟩) n m)) w') :
    wpList P ops Q (o :: rest) a w := by
  refine wpList_plain hg fun K hK' => ?_
  have hb : ((i.bytes : Int) * C) ≤ 281474976710656 := by
    rw [h5, hC, ← Int.natCast_mul]
    omega
  have hr := run_make (P := P) w t e i _ h1 h2 h3 kl kc N C (by omega) (by omega) hb (by omega)
  subst hN; subst hC
  unfold Oper.wp
  simp only [execOp, hop, hl, hc, Sem.run_bind, hr, Result.andThen, Int.toNat_natCast, h4, Nat.mul_one]
  refine hK' _ _ (hK _ ?_ (World.grownBy_alloc w _ none))
  refine ⟨by simp, .inr ⟨w.heap.size, m, _, rfl, b4, heap_alloc_new w _, hnm, by unfold maxLen; omega, ?_, ?_⟩⟩
  · have := size_madeCells #[z] m
    rw [hzc]
    simpa using this
  · rw [hzc, toList_madeCells_one, List.take_replicate]
    simp [Nat.min_eq_left hnm]

def lenV : Value → Nat
  | .slice _ n _ => n
  | _ => 0

/-- A number as a cell of an int. -/
def nv (x : Nat) : Value := .int .i64 (x : Int)
theorem nvs_one (l : List Nat) : ∀ u ∈ l.map nv, u.oneCell' = true := by
  intro u hu
  obtain ⟨b, _, rfl⟩ := List.mem_map.1 hu
  rfl
theorem nvs_at (l : List Nat) (k : Nat) (h : k < l.length) : (l.map nv)[k]? = some (.int .i64 ((l.getD k 0 : Nat) : Int)) := by
  rw [List.getElem?_map, List.getElem?_eq_getElem h, List.getD_eq_getElem?_getD, List.getElem?_eq_getElem h]
  rfl
theorem Vals.nat {w : World} {B n : Nat} {A : Option Addr} {l : List Nat} (h : Vals w B A n (l.map nv)) {k : Nat} (hk : k < n) : ∃ b o, A = some ⟨b, o, none⟩ ∧ b < B ∧ w.cell? ⟨b, o + k, none⟩ = some (.int .i64 ((l.getD k 0 : Nat) : Int)) := by
  obtain ⟨b, o, x, e, hb, hx, hc⟩ := h.at_ hk
  have hl := h.1
  rw [List.length_map] at hl
  rw [nvs_at l k (by omega)] at hx
  exact ⟨b, o, e, hb, hc.trans hx.symm⟩

end Go.Proofs.Ytikghnbhbehepaa

/-
  Lists of texts in memory; the reference's answer: are two lists of texts the same?
-/
namespace Go.Proofs.Ytikghnbhbehepaa
open Go.RowKit
set_option linter.unusedVariables false
set_option linter.unusedSimpArgs false

/-- Texts as values. -/
def wsV (L : List (List UInt8)) : List Value := L.map fun w => .string ⟨w.toArray⟩

end Go.Proofs.Ytikghnbhbehepaa

/-
  The program's disk, by its contracts alone; a step of the statements.
-/
namespace Go.Proofs.Ytikghnbhbehepaa
open Go.RowKit
set_option linter.unusedVariables false
set_option linter.unusedSimpArgs false

/-- What a call leaves: its answer, the disk, only blocks of it turned, and new ones. -/
def StepPost (PD : World → (Nat → Prop) → Nat → Dk → Prop) (S : Nat → Prop) (q : Nat) (r : Int × Dk) (W : World) (e : Ending) (W' : World) : Prop :=
  ∃ S', e = .returned (.int .i64 r.1) ∧ PD W' S' q r.2 ∧ (∀ k, S' k → S k ∨ W.heap.size ≤ k) ∧ Turn S W W'
def MovePost (PD : World → (Nat → Prop) → Nat → Dk → Prop) (S : Nat → Prop) (q : Nat) (m : Dk) (W : World) (e : Ending) (W' : World) : Prop :=
  ∃ S', e = .returned (.tuple #[]) ∧ PD W' S' q m ∧ (∀ k, S' k → S k ∨ W.heap.size ≤ k) ∧ Turn S W W'

/-- What reading a file answers. -/
def readD (m : Dk) (name : List UInt8) : Int × List UInt8 := if m.down then (19, []) else match lookF name m.files with | none => (8, []) | some f => (0, f.data)
def newD (cap : Int) : Dk := ⟨[], max cap 0, 0, false, 0, 0, false⟩

theorem doD_app (m : Dk) (s : Sp) (h : s.kind = 1) : doD m s = doD m ⟨1, s.name, [], s.data, 0, 0⟩ := by
  unfold doD callD isCall
  rw [h]
  simp
theorem doD_sync (m : Dk) (s : Sp) (h : s.kind = 2) : doD m s = doD m ⟨2, s.name, [], [], 0, 0⟩ := by
  unfold doD callD isCall
  rw [h]
  simp
theorem doD_ren (m : Dk) (s : Sp) (h : s.kind = 3) : doD m s = doD m ⟨3, s.name, s.to, [], 0, 0⟩ := by
  unfold doD callD isCall
  rw [h]
  simp
theorem doD_rem (m : Dk) (s : Sp) (h : s.kind = 4) : doD m s = doD m ⟨4, s.name, [], [], 0, 0⟩ := by
  unfold doD callD isCall
  rw [h]
  simp
theorem StepPost.back {PD : World → (Nat → Prop) → Nat → Dk → Prop} {S : Nat → Prop} {q : Nat} {r : Int × Dk} {W : World} {o : Obj} {e : Ending} {W' : World} (h : StepPost PD S q r (W.alloc o) e W') : StepPost PD S q r W e W' := by
  obtain ⟨S', h1, h2, h3, h4⟩ := h
  refine ⟨S', h1, h2, fun k hk => ?_, ((Turn.refl S W).alloc o).trans h4⟩
  rcases h3 k hk with h | h
  · exact .inl h
  · refine .inr ?_
    simp at h
    omega

end Go.Proofs.Ytikghnbhbehepaa
