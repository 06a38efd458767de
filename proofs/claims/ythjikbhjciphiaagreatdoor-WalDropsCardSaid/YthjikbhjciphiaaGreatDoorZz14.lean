/-
  A map with texts as keys, its elements whatever values: what it holds, as a list that rises. No program stands here.
-/
import Derived.Test.YthjikbhjciphiaaGreatDoorZz7
import Derived.Maps.OwnSet
import Derived.Maps.Range
import Derived.RegionTactic
import Derived.BigRegion
import Derived.StillTailTactics
import Derived.IntWalk
import Derived.Lib.AppendZeros
import Derived.Maps.RangeWalk
import Derived.Sort.KeysCollected
import Derived.Test.YthjikbhjciphiaaGreatDoorZz6
import Derived.Test.YthjikbhjciphiaaGreatDoorZz8
import Derived.Deep.RegionWith
import Derived.Deep.RegionHeld3
import Derived.Deep.CutRange
import Derived.BigQuiet
namespace Go.Proofs.YthjikbhjciphiaaGreatDoor
open Go.RowKit
open Go.Maps (Keyed)
set_option linter.unusedVariables false
set_option linter.unusedSimpArgs false

/-- An element reads as itself. -/
def rawR (v : Value) : Option (DataW Value × List MemPlace) := some (.held v, [])
/-- What a map holds, as a datum. -/
def mapE (L : List (List UInt8 × Value)) : List (Lit × DataW Value) := L.map fun p => (Lit.string p.1, DataW.held p.2)
def mapD (L : List (List UInt8 × Value)) : DataW Value := .map (mapE L)
/-- The element of a key; a key with another element, or a new one; a key taken out. -/
def lookM (s : List UInt8) (L : List (List UInt8 × Value)) : Option Value := (L.find? fun p => p.1 == s).map (·.2)
def insM (x : List UInt8 × Value) : List (List UInt8 × Value) → List (List UInt8 × Value)
  | [] => [x]
  | y :: r => if bytesBefore x.1 y.1 then x :: y :: r else y :: insM x r
def delM (s : List UInt8) (L : List (List UInt8 × Value)) : List (List UInt8 × Value) := L.filter fun p => !(p.1 == s)
def putM (s : List UInt8) (v : Value) (L : List (List UInt8 × Value)) : List (List UInt8 × Value) := insM (s, v) (delM s L)

theorem mapE_ins (x : List UInt8 × Value) (L : List (List UInt8 × Value)) : DataW.insert (Lit.string x.1, DataW.held x.2) (mapE L) = mapE (insM x L) := by
  induction L with
  | nil => rfl
  | cons y r ih =>
    show (if bytesBefore x.1 y.1 then _ else _) = mapE (if bytesBefore x.1 y.1 then _ else _)
    by_cases h : bytesBefore x.1 y.1 = true
    · rw [if_pos h, if_pos h]; rfl
    · rw [if_neg h, if_neg h]
      show _ :: DataW.insert _ (mapE r) = _
      rw [ih]; rfl
theorem mapE_del (s : List UInt8) (L : List (List UInt8 × Value)) : (mapE L).filter (fun p => !p.1.sameKey (.string s)) = mapE (delM s L) := by
  induction L with
  | nil => rfl
  | cons y r ih =>
    show List.filter _ ((Lit.string y.1, DataW.held y.2) :: mapE r) = _
    have e : (Lit.string y.1).sameKey (.string s) = (y.1 == s) := rfl
    unfold delM at ih ⊢
    rw [List.filter_cons, List.filter_cons, e]
    cases y.1 == s
    · simp only [Bool.not_false, if_true]; rw [ih]; rfl
    · simp only [Bool.not_true, Bool.false_eq_true, if_false]; exact ih
theorem mapD_put (s : List UInt8) (v : Value) (L : List (List UInt8 × Value)) : (mapD L).put (.string s) (.held v) = mapD (putM s v L) := by
  show DataW.map (DataW.insert _ ((mapE L).filter _)) = _
  rw [mapE_del, mapE_ins (s, v)]
  rfl
theorem mapD_del (s : List UInt8) (L : List (List UInt8 × Value)) : (mapD L).del (.string s) = mapD (delM s L) := by
  show DataW.map ((mapE L).filter _) = _
  rw [mapE_del]
  rfl
theorem mapE_find (s : List UInt8) (L : List (List UInt8 × Value)) : (mapE L).find? (fun p => p.1.sameKey (.string s)) = (L.find? fun p => p.1 == s).map fun p => (Lit.string p.1, DataW.held p.2) := by
  unfold mapE
  rw [List.find?_map]
  rfl
theorem mapD_at (s : List UInt8) (L : List (List UInt8 × Value)) (z : Value) : (mapD L).atKey (.string s) (.held z) = .held ((lookM s L).getD z) := by
  unfold mapD DataW.atKey lookM
  dsimp only
  rw [mapE_find]
  cases L.find? fun p => p.1 == s <;> rfl
theorem mapD_has (s : List UInt8) (L : List (List UInt8 × Value)) : Maps.has (mapD L) (.string s) = (lookM s L).isSome := by
  show (mapE L).any (fun p => p.1.sameKey (.string s)) = ((L.find? fun p => p.1 == s).map (·.2)).isSome
  rw [Option.isSome_map]
  induction L with
  | nil => rfl
  | cons y r ih =>
    show ((y.1 == s) || (mapE r).any _) = ((y :: r).find? _).isSome
    rw [List.find?_cons, ih]
    cases y.1 == s <;> rfl
theorem mapD_size (L : List (List UInt8 × Value)) : Maps.size (mapD L) = L.length := by
  show (mapE L).length = _
  simp [mapE]

/-- Block b is a map with these keys and elements. -/
def MapS (w : World) (P : Program) (k : TypeId) (b : Nat) (L : List (List UInt8 × Value)) : Prop := w.ownsMap P k rawR b L.length (mapD L)

section
variable {w w' : World} {P : Program} {k t e : TypeId} {b : Nat} {L : List (List UInt8 × Value)}
theorem MapS.tight {n : Nat} (h : w.ownsMap P k rawR b n (mapD L)) : MapS w P k b L := by
  obtain ⟨es, clock, hb, F, hs, hD⟩ := h
  refine ⟨es, clock, hb, F, ?_, hD⟩
  have h1 : mapE L = (es.toList.map (Go.WideElems.rg P k rawR)).foldr DataW.insert [] := by
    have := hD
    unfold mapD at this
    simpa using this
  have h2 : (mapE L).length = es.size := by rw [h1, length_sorted]; simp
  have h3 : (mapE L).length = L.length := by simp [mapE]
  omega
theorem MapS.lt (h : MapS w P k b L) : b < w.heap.size := World.ownsMap.lt h
theorem MapS.made (w : World) (P : Program) (k : TypeId) : MapS (w.alloc (.map #[] 0)) P k w.heap.size [] := World.ownsMap_made w P k rawR
theorem MapS.alloc (h : MapS w P k b L) (o : Obj) : MapS (w.alloc o) P k b L := World.ownsMap.alloc h o
theorem MapS.drewN (h : MapS w P k b L) (q : Nat) : MapS (w.drewN q) P k b L := h
theorem MapS.below {B : Nat} (h : MapS w P k b L) (hb : Below B w w') (hlt : b < B) : MapS w' P k b L := by
  obtain ⟨es, clock, hbb, F, hs, hD⟩ := h
  exact ⟨es, clock, (hb.block b hlt).trans hbb, F, hs, hD⟩
theorem MapS.setCell (h : MapS w P k b L) {a : Addr} (ha : b ≠ a.block) (u : Value) : MapS (w.setCell a u) P k b L := World.ownsMap.setCell h ha u
/-- 'v, ok := m[s]'. -/
theorem MapS.look (h : MapS w P k b L) (K : Keyed P k) (ht : P.underlying t = some (.map k e)) {z : Value} (hz : (zeroValue e).run P w = .ok z w) (s : ByteArray) (hkey : keyOf P k (.string s) = some (.string s.data.toList)) :
    (Instr.lookup t (.map (some b)) (.string s) true).run P w = .ok (.tuple #[(lookM s.data.toList L).getD z, .bool (lookM s.data.toList L).isSome]) w := by
  obtain ⟨v, ps, hrun, hv⟩ := World.ownsMap.look_ok h K ht hz (show rawR z = some (.held z, []) from rfl) hkey
  rw [mapD_at] at hv
  have hv2 : v = (lookM s.data.toList L).getD z := by
    have : (some (DataW.held v, []) : Option (DataW Value × List MemPlace)) = some (.held ((lookM s.data.toList L).getD z), ps) := hv
    simpa using congrArg (fun o => o.map (·.1)) this
  rw [hrun, mapD_has, hv2]
/-- 'm[s] = v'. -/
theorem MapS.put (h : MapS w P k b L) (K : Keyed P k) (ht : P.underlying t = some (.map k e)) (hn : L.length < maxLen) (s : ByteArray) (v : Value) (hkey : keyOf P k (.string s) = some (.string s.data.toList)) :
    ∃ w', (Instr.mapUpdate t (.map (some b)) (.string s) v).run P w = .ok () w' ∧ MapS w' P k b (putM s.data.toList v L) ∧ w.mapTurned w' b := by
  obtain ⟨w', h1, h2, h3⟩ := World.ownsMap.store h K ht hn hkey (show rawR v = some (.held v, []) from rfl)
  rw [mapD_put] at h2
  exact ⟨w', h1, MapS.tight h2, h3⟩
/-- 'delete(m, s)'. -/
theorem MapS.drop (h : MapS w P k b L) (K : Keyed P k) (ht : P.underlying t = some (.map k e)) (s : ByteArray) (hkey : keyOf P k (.string s) = some (.string s.data.toList)) (ty : TypeId) :
    ∃ w', (Builtin.delete_ #[t, k] ty #[.map (some b), .string s]).run P w = .ok (.tuple #[]) w' ∧ MapS w' P k b (delM s.data.toList L) ∧ w.mapTurned w' b := by
  obtain ⟨w', h1, h2, h3⟩ := World.ownsMap.drop h K ht hkey ty
  rw [mapD_del] at h2
  exact ⟨w', h1, MapS.tight h2, h3⟩
/-- 'len(m)'. -/
theorem MapS.len (h : MapS w P k b L) (ht : P.underlying t = some (.map k e)) (ty : TypeId) : (Builtin.len_ #[t] ty #[.map (some b)]).run P w = .ok (.int .i64 ((L.length : Nat) : Int)) w := by
  rw [World.ownsMap.len h ht ty, mapD_size]
end

end Go.Proofs.YthjikbhjciphiaaGreatDoor

/-
  Walks over package sha: a block's 64 numbers.
-/
namespace Go.Proofs.YthjikbhjciphiaaGreatDoor
open Go.RowKit
set_option linter.unusedVariables false
set_option linter.unusedSimpArgs false

attribute [local go_sem] u_addm u_addw u_add3 u_add4 u_add5 u_add12 u_add13 u_xor u_and u_or u_not u_not2 u_not3 u_not4 u_shr3 u_shr10

theorem word_at {w : World} {g : Nat} {t : TypeId} {l : List UInt32} (h : Blk w g t (l.map uv)) {i : Nat} (hi : i < l.length) : w.cell? ⟨g, i, none⟩ = some (.int .u32 (uN (l.getD i 0))) := by
  rw [h.cell, List.getElem?_map, List.getElem?_eq_getElem hi, List.getD_eq_getElem?_getD, List.getElem?_eq_getElem hi]
  rfl
theorem slice_block (g k m : Nat) (hm : 4 * k + m = 64) (h4 : 4 ≤ m) (w : World) :
    (Instr.sliceAt 233 (.pointer (some ⟨g, 0, none⟩)) (some (.int .i64 (4 * ((k : Nat) : Int)))) none none).run Tryz.prog w = .ok (.slice (some ⟨g, 4 * k, none⟩) m m) w := by
  have hl : Tryz.prog.arrayLen 233 = 64 := by kernel_rfl
  have he : Tryz.prog.elem 233 = 5 := by kernel_rfl
  rw [run_sliceAt_array_l w 233 ⟨g, 0, none⟩ (by rw [hl, he]; exact Tryz.underlying233) .i64 _ (by omega) (by rw [hl]; omega)]
  rw [hl, he]
  have hs : (sizeOf 5).run Tryz.prog w = .ok 1 w := by kernel_rfl
  rw [hs]
  show Result.ok _ w = _
  unfold slicedAt
  rw [show (4 * ((k : Nat) : Int)).toNat = 4 * k by omega, if_neg (by omega), show 64 - 4 * k = m by omega, Nat.mul_one, Addr.add_lit, Nat.zero_add]

/-- A region that draws, whose first n operations read: the tail behind it in the world that has drawn. -/
theorem still_tail {P : Program} {id : Nat} {Q : Exit → Act → World → Prop} {a : Act} {w : World} {l : List Oper} (n : Nat) (hm : P.follows .mixedOrders = true) (hB : Region.lexTailB .any l.toArray n = true)
    (h : wpStill P l.toArray w.drew (fun a' => wpList P l.toArray Q (l.drop n) a' w.drew) (l.take n) a) : (Code.region id l.toArray true).wp P Q a w :=
  wp_region_still_tail n hm hB h

theorem be_bits (x0 x1 x2 x3 : UInt8) :
    bits .or .u32 (bits .or .u32 (bits .or .u32 (((x0.toNat : Nat) : Int) * 16777216) (((x1.toNat : Nat) : Int) * 65536)) (((x2.toNat : Nat) : Int) * 256)) ((x3.toNat : Nat) : Int) =
    uN (UInt32.ofNat (x0.toNat * 16777216 + x1.toNat * 65536 + x2.toNat * 256 + x3.toNat)) := by
  have h0 := x0.toNat_lt
  have h1 := x1.toNat_lt
  have h2 := x2.toNat_lt
  have h3 := x3.toNat_lt
  generalize x0.toNat = a at *
  generalize x1.toNat = b at *
  generalize x2.toNat = c at *
  generalize x3.toNat = d at *
  have e1 : bits .or .u32 ((a : Int) * 16777216) ((b : Int) * 65536) = ((a * 16777216 + b * 65536 : Nat) : Int) := by
    have := u32_or_nat (a * 16777216) (b * 65536) (by omega) (by omega)
    rw [show a * 16777216 = 2 ^ 24 * a by omega, ← Nat.two_pow_add_eq_or_of_lt (by omega), show 2 ^ 24 * a = a * 16777216 by omega] at this
    rw [← this]; rfl
  rw [e1]
  have e2 : bits .or .u32 ((a * 16777216 + b * 65536 : Nat) : Int) ((c : Int) * 256) = ((a * 16777216 + b * 65536 + c * 256 : Nat) : Int) := by
    have := u32_or_nat (a * 16777216 + b * 65536) (c * 256) (by omega) (by omega)
    rw [show a * 16777216 + b * 65536 = 2 ^ 16 * (a * 256 + b) by omega, ← Nat.two_pow_add_eq_or_of_lt (by omega), show 2 ^ 16 * (a * 256 + b) = a * 16777216 + b * 65536 by omega] at this
    rw [← this]; rfl
  rw [e2]
  have e3 : bits .or .u32 ((a * 16777216 + b * 65536 + c * 256 : Nat) : Int) (d : Int) = ((a * 16777216 + b * 65536 + c * 256 + d : Nat) : Int) := by
    have := u32_or_nat (a * 16777216 + b * 65536 + c * 256) d (by omega) (by omega)
    rw [show a * 16777216 + b * 65536 + c * 256 = 2 ^ 8 * (a * 65536 + b * 256 + c) by omega, ← Nat.two_pow_add_eq_or_of_lt (by omega), show 2 ^ 8 * (a * 65536 + b * 256 + c) = a * 16777216 + b * 65536 + c * 256 by omega] at this
    rw [← this]
  rw [e3]
  unfold uN
  rw [UInt32.toNat_ofNat', Nat.mod_eq_of_lt (by omega)]

end Go.Proofs.YthjikbhjciphiaaGreatDoor

/-
  A digest's bytes; slices.Grow and slices.Concat, where Sum calls them.
-/
namespace Go.Proofs.YthjikbhjciphiaaGreatDoor
open Go.RowKit
set_option linter.unusedVariables false
set_option linter.unusedSimpArgs false

/-- A number's four bytes, the highest first. -/
def wb (x : UInt32) : List UInt8 := [UInt8.ofNat (x.toNat / 16777216), UInt8.ofNat (x.toNat / 65536), UInt8.ofNat (x.toNat / 256), UInt8.ofNat x.toNat]
/-- The digest of a state. -/
def digL (l : List UInt32) : List UInt8 := l.flatMap wb
def digK (l : List UInt32) : Nat → List UInt8
  | 0 => List.replicate 32 0
  | k + 1 => ((((digK l k).set (4 * k) (UInt8.ofNat ((l.getD k 0).toNat / 16777216))).set (4 * k + 1) (UInt8.ofNat ((l.getD k 0).toNat / 65536))).set (4 * k + 2) (UInt8.ofNat ((l.getD k 0).toNat / 256))).set (4 * k + 3) (UInt8.ofNat (l.getD k 0).toNat)
theorem digK_len (l : List UInt32) (k : Nat) : (digK l k).length = 32 := by
  induction k with
  | zero => rfl
  | succ k ih => rw [digK, List.length_set, List.length_set, List.length_set, List.length_set, ih]
theorem digK_8 (s : St) : digK s.l 8 = digL s.l := by
  obtain ⟨a, b, c, d, e, f, g, h⟩ := s
  unfold digL
  simp only [digK, St.l, List.getD_cons_zero, List.getD_cons_succ, List.flatMap_cons, List.flatMap_nil, wb, List.replicate, List.set_cons_succ, List.set_cons_zero, Nat.reduceMul, Nat.reduceAdd, Nat.mul_zero, Nat.zero_add, List.cons_append, List.nil_append]
theorem digL_len (s : St) : (digL s.l).length = 32 := rfl

theorem by_3 (x : UInt32) : uN x / 16777216 % 256 = (((UInt8.ofNat (x.toNat / 16777216)).toNat : Nat) : Int) := by unfold uN; rw [ofNat_mod]; simp
theorem by_2 (x : UInt32) : uN x / 65536 % 256 = (((UInt8.ofNat (x.toNat / 65536)).toNat : Nat) : Int) := by unfold uN; rw [ofNat_mod]; simp
theorem by_1 (x : UInt32) : uN x / 256 % 256 = (((UInt8.ofNat (x.toNat / 256)).toNat : Nat) : Int) := by unfold uN; rw [ofNat_mod]; simp
theorem by_0 (x : UInt32) : uN x % 256 = (((UInt8.ofNat x.toNat).toNat : Nat) : Int) := by unfold uN; rw [ofNat_mod]; simp

set_option maxRecDepth 10000 in
set_option maxHeartbeats 1000000 in
/-- Grow of the nil slice by n > 0. -/
theorem grow_any (n : Nat) (h0 : 0 < n) (hn : n ≤ 140737488355328) (W : World) :
    Calls Tryz.prog 177 #[.slice none 0 0, .int .i64 ((n : Nat) : Int)] W fun e W' => ∃ v, e = .returned v ∧
      W'.ownsRow W.heap.size 5 1 v 0 [] ∧ Below W.heap.size W W' := by
  obtain ⟨i0, hi, hz0, hz1, hz2⟩ := info_parts Tryz.info5
  go_enter Tryz.func177, Tryz.ntmps177
  go_wp2_with (at_builtin; refine Lib.wpList_append_run _ rfl _ _ 70 3 rfl (.slice none 0 0) (.int .i64 n) rfl rfl _ _ (Lib.run_append_nil_zeros _ 70 3 _ 5 i0 (.int .u8 0) .i64 .i64 Tryz.underlying70 Tryz.underlying3 hi hz0 n h0 (by rw [hz1]; decide) (by omega) (by rw [hz2]; omega)) ?_)
  go_ret
  refine ⟨_, rfl, ⟨rfl, .inr ⟨W.heap.size, grownCap W n 0 5, _, rfl, Nat.le_refl _, heap_alloc_new W _, Nat.zero_le _, grownCap_le_maxLen _ _ _ _ (by unfold maxLen; omega), ?_, by simp⟩⟩, ?_⟩
  · have := grownCap_ge W n 0 5
    rw [Array.size_append, size_zeroCells, size_zeroCells]
    simp
    omega
  · exact below_drew ((Below.refl _ _).alloc (Nat.le_refl _) _)

/-- The bytes of the first k of two. -/
def twoL (l1 l2 : List UInt8) (k : Nat) : List UInt8 := if k = 0 then [] else if k = 1 then l1 else l1 ++ l2
def twoN (n1 n2 k : Nat) : Nat := if k = 0 then 0 else if k = 1 then n1 else n1 + n2

set_option maxRecDepth 10000 in
set_option maxHeartbeats 2000000 in
/-- Concat of two slices of bytes that lie in a slice of two. -/
theorem concat_any (A1 : Option Addr) (n1 c1 : Nat) (l1 : List UInt8) (A2 : Option Addr) (n2 c2 : Nat) (l2 : List UInt8) (g B : Nat) (W : World)
    (h1 : Byt W B A1 n1 l1) (hn1 : A1 = none → c1 = 0) (h2 : Byt W B A2 n2 l2) (hn2 : A2 = none → c2 = 0) (hB : B ≤ W.heap.size) (hb1 : n1 ≤ 70368744177664) (hb2 : n2 ≤ 70368744177664) (h0 : 0 < n1 + n2)
    (hc0 : W.cell? ⟨g, 0, none⟩ = some (.slice A1 n1 c1)) (hc1 : W.cell? ⟨g, 1, none⟩ = some (.slice A2 n2 c2)) :
    Calls Tryz.prog 131 #[.slice (some ⟨g, 0, none⟩) 2 2] W fun e W' => ∃ v, e = .returned v ∧
      W'.ownsRow W.heap.size 5 1 v (n1 + n2) ((l1 ++ l2).map bv) ∧ Below W.heap.size W W' := by
  obtain ⟨i0, hi, hz0, hz1, hz2⟩ := info_parts Tryz.info5
  have hgl := World.block_lt_of_cell? W _ hc0
  go_enter Tryz.func131, Tryz.ntmps131
  go_wp2_with fail
  go_loopw [3, 5, 11] (fun sz _ i wr => wr = W ∧ ∃ k m : Nat, k ≤ 2 ∧ i = .int .i64 k ∧ sz = .int .i64 m ∧ m = twoN n1 n2 k)
    (fun _ _ i _ => 2 - (intOf i).toNat)
  case atStart => exact ⟨rfl, 0, 0, by omega, rfl, rfl, rfl⟩
  case round =>
    obtain ⟨rfl, k, m, hk, rfl, rfl, hm⟩ := hrel
    by_cases hk0 : k = 0
    · subst hk0
      obtain rfl : m = 0 := hm
      go_wp2
      go_roundw
      case rel => exact ⟨trivial, 1, n1, by omega, by go_num, by go_num, rfl⟩
      case measure => simp [intOf]
    · by_cases hk1 : k = 1
      · subst hk1
        obtain rfl : m = n1 := hm
        go_wp2
        go_roundw
        case rel => exact ⟨trivial, 2, m + n2, by omega, by go_num, by go_num, rfl⟩
        case measure => simp [intOf]
      · have hk2 : ¬ ((k : Int) < 2) := by omega
        have hmm : m = n1 + n2 := by rw [hm]; unfold twoN; rw [if_neg hk0, if_neg hk1]
        have hm0 : 0 < m := by omega
        have hm47 : m ≤ 140737488355328 := by omega
        have HM := Lib.hid hmm
        clear hk hk0 hk1 hm hmm
        go_wp2_with (go_at_call 177; refine (grow_any m hm0 hm47 _).mono ?_; rintro e w1 ⟨v, rfl, hown, hbel⟩)
        obtain ⟨w0, rfl⟩ : ∃ w0, w0 = wr := ⟨_, rfl⟩
        clear hk2
        go_loopw [6, 8, 27] (fun v _ i wx => ∃ j : Nat, j ≤ 2 ∧ i = .int .i64 j ∧ wx.ownsRow w0.heap.size 5 1 v (twoN n1 n2 j) ((twoL l1 l2 j).map bv) ∧ Below w0.heap.size w0 wx)
          (fun _ _ i _ => 2 - (intOf i).toNat)
        case atStart => exact ⟨0, by omega, rfl, hown, hbel⟩
        case round =>
          obtain ⟨j, hj, rfl, hown2, hb2⟩ := hrel
          have hs2 := hb2.size
          have d0 := (hb2.cell (p := ⟨g, 0, none⟩) hgl).trans hc0
          have d1 := (hb2.cell (p := ⟨g, 1, none⟩) hgl).trans hc1
          have e1 := h1.below (hb2.mono hB)
          have e2 := h2.below (hb2.mono hB)
          clear hown hbel
          by_cases hj0 : j = 0
          · subst hj0
            go_wp2_with (at_builtin; refine wpList_append_byt _ rfl _ _ 70 rfl w0.heap.size 5 i0 (.int .u8 0) Tryz.underlying70 hi hz0 hz1 hz2 rfl _ _ _ rfl hown2 B A1 n1 c1 l1 rfl e1 hn1 ?x3 ?x4 ?_)
            case x3 => show 0 + n1 ≤ _; omega
            case x4 => omega
            intro v' w3 hown' hgrow
            have hb' := hb2.grown hgrow hs2 (fun j hj => (hown2.lt j hj).1)
            have HO := Lib.hid hown'
            clear hown' hown2 hgrow
            go_wp2
            go_roundw
            case rel => exact ⟨1, by omega, by go_num, by have := HO.out; simpa [twoN, twoL] using this, hb'⟩
            case measure => simp [intOf]
          · by_cases hj1 : j = 1
            · subst hj1
              go_wp2_with (at_builtin; refine wpList_append_byt _ rfl _ _ 70 rfl w0.heap.size 5 i0 (.int .u8 0) Tryz.underlying70 hi hz0 hz1 hz2 rfl _ _ _ rfl hown2 B A2 n2 c2 l2 rfl e2 hn2 ?y3 ?y4 ?_)
              case y3 => unfold twoN; simp; omega
              case y4 => omega
              intro v' w3 hown' hgrow
              have hb' := hb2.grown hgrow hs2 (fun j hj => (hown2.lt j hj).1)
              have HO := Lib.hid hown'
              clear hown' hown2 hgrow
              go_wp2
              go_roundw
              case rel => exact ⟨2, by omega, by go_num, by have := HO.out; simpa [twoN, twoL] using this, hb'⟩
              case measure => simp [intOf]
            · have hj2 : ¬ ((j : Int) < 2) := by omega
              have HJ := Lib.hid (show j = 2 by omega)
              have HO := Lib.hid hown2
              clear hj hj0 hj1 hown2
              go_wp2_with fail
              go_ret
              refine ⟨_, rfl, ?_, hb2⟩
              have := HO.out
              rw [HJ.out] at this
              simpa [twoN, twoL] using this

end Go.Proofs.YthjikbhjciphiaaGreatDoor

/-
  A range over a map with texts as keys. No program stands here.
-/
namespace Go.Proofs.YthjikbhjciphiaaGreatDoor
open Go.RowKit
open Go.Maps (Keyed)
set_option linter.unusedVariables false
set_option linter.unusedSimpArgs false

theorem look_of_at (s : List UInt8) (L : List (List UInt8 × Value)) (v : Value) (h : ∀ zd, (mapD L).atKey (.string s) zd = .held v) : lookM s L = some v := by
  have h1 := h (.held (.bool true))
  have h2 := h (.held (.bool false))
  rw [mapD_at] at h1 h2
  cases hl : lookM s L with
  | some u =>
    rw [hl] at h1
    exact congrArg some (DataW.held.inj h1)
  | none =>
    rw [hl] at h1 h2
    have e1 : Value.bool true = v := DataW.held.inj h1
    have e2 : Value.bool false = v := DataW.held.inj h2
    rw [← e2] at e1
    cases e1
theorem wpList_next_mapS {P : Program} (w : World) {ops : Array Oper} {rest : List Oper} {o : Oper} {a : Act} {Q : Exit → Act → World → Prop}
    (hg : o.guard = none) (it : Operand) (hop : o.op = Op.next it false) (k : TypeId) (hk : P.underlying k = some .string) (b r n : Nat) (L : List (List UInt8 × Value)) (left : Lit → Bool) (cnt : Nat)
    (hit : a.eval it = .pointer (some ⟨r, 0, none⟩)) (h : w.ranges P k rawR b r n (mapD L) left cnt)
    (hDone : cnt = 0 → (∀ kl, left kl = false) → wpList P ops Q rest (a.put o.dst (.tuple #[.bool false])) w)
    (hMore : ∀ (s : List UInt8) (v : Value) (w' : World) (cnt' : Nat), left (.string s) = true → lookM s L = some v → w'.ranges P k rawR b r n (mapD L) (fun z => left z && !z.sameKey (.string s)) cnt' → cnt' < cnt →
      w.grownBy w' (some r) → w'.heap.size = w.heap.size → (Instr.entry (.pointer (some ⟨r, 0, none⟩))).run P w' = .ok (.tuple #[.string ⟨s.toArray⟩, v]) w' → wpList P ops Q rest (a.put o.dst (.tuple #[.bool true, .string ⟨s.toArray⟩, v])) w') :
    wpList P ops Q (o :: rest) a w :=
  wpList_next_ranges w hg it hop k (Maps.string_keyed hk) rawR (fun l : List UInt8 => Value.string ⟨l.toArray⟩) (fun v : Value => v) (fun key kl hk2 => by obtain ⟨x, hx, _⟩ := Maps.keyOf_str hk hk2; exact ⟨x, hx⟩) (fun v y _ => ⟨v, rfl⟩)
    b r n (mapD L) left cnt hit h hDone (fun x c kl y w' cnt' hkey hlk hv hat hrg hlt hgr hsz hen => by
      obtain ⟨x', ex, rfl, _⟩ := Maps.keyOf_str hk hkey
      obtain rfl : x = x' := by
        have e := Value.string.inj ex
        simpa using congrArg (fun b : ByteArray => b.data.toList) e
      obtain rfl : y = (.held c, []) := (Option.some.inj hv).symm
      exact hMore x c w' cnt' hlk (look_of_at x L c hat) hrg hlt hgr hsz hen)
end Go.Proofs.YthjikbhjciphiaaGreatDoor

/-
  The reference of boxes: a box; the box at a place.
-/
namespace Go.Proofs.YthjikbhjciphiaaGreatDoor
open Go.RowKit
set_option linter.unusedVariables false
set_option linter.unusedSimpArgs false

/-- A piece of a slice of bytes. -/
theorem Byt.piece {w : World} {B n c : Nat} {A : Option Addr} {l : List UInt8} (h : Byt w B A n l) (a k : Nat) (hk : a + k ≤ n) (hc : n ≤ c) :
    Byt w B (if c = a then A else A.map (·.add a)) k ((l.drop a).take k) :=
  (h.cut (k := a) (by omega) hc).take (by omega)

theorem next_head (l : List UInt8) (a : Nat) (h : a ≤ l.length) (k : Int) (hk : k ≠ 0) (hh : headC (l.drop a) = ([], 0, k)) : nextC l (a : Int) = ([], 0, k) := by
  unfold nextC
  rw [if_neg (by omega), Int.toNat_natCast, hh]
  simp only
  rw [if_neg hk]
theorem next_short (l : List UInt8) (a : Nat) (h : a ≤ l.length) (h2 : l.length < a + 2) : nextC l (a : Int) = ([], 0, 1) :=
  next_head l a h 1 (by decide) (by unfold headC; rw [if_pos (by rw [List.length_drop]; omega)])
theorem next_of (l : List UInt8) (a : Nat) (h2 : a + 2 ≤ l.length) : nextC l (a : Int) = (if nB (l.drop a) = 0 then ([], 0, 2) else if 4096 < nB (l.drop a) then ([], 0, 3) else if l.length < a + (nB (l.drop a) + 6) then ([], 0, 1)
    else if boxC ((l.drop (a + 2)).take (nB (l.drop a))) = (l.drop a).take (nB (l.drop a) + 6) then ((l.drop (a + 2)).take (nB (l.drop a)), a + (nB (l.drop a) + 6), 0) else ([], 0, 4)) := by
  have hd : (l.drop a).length = l.length - a := List.length_drop
  have h20 : ¬ (l.drop a).length < 2 := by omega
  by_cases h0 : nB (l.drop a) = 0
  · rw [if_pos h0]
    exact next_head l a (by omega) 2 (by decide) (by unfold headC; rw [if_neg h20, if_pos h0])
  by_cases h3 : 4096 < nB (l.drop a)
  · rw [if_neg h0, if_pos h3]
    exact next_head l a (by omega) 3 (by decide) (by unfold headC; rw [if_neg h20, if_neg h0, if_pos h3])
  by_cases h4 : l.length < a + (nB (l.drop a) + 6)
  · rw [if_neg h0, if_neg h3, if_pos h4]
    exact next_head l a (by omega) 1 (by decide) (by unfold headC; rw [if_neg h20, if_neg h0, if_neg h3, if_pos (by omega)])
  rw [if_neg h0, if_neg h3, if_neg h4]
  have h5 : ¬ (l.drop a).length < nB (l.drop a) + 6 := by omega
  by_cases hb : boxC ((l.drop (a + 2)).take (nB (l.drop a))) = (l.drop a).take (nB (l.drop a) + 6)
  · rw [if_pos hb]
    have hh : headC (l.drop a) = ((l.drop (a + 2)).take (nB (l.drop a)), nB (l.drop a) + 6, 0) := by
      unfold headC; rw [if_neg h20, if_neg h0, if_neg h3, if_neg h5, List.drop_drop, if_pos hb]
    unfold nextC
    rw [if_neg (by omega), Int.toNat_natCast, hh]
    rfl
  · rw [if_neg hb]
    exact next_head l a (by omega) 4 (by decide) (by unfold headC; rw [if_neg h20, if_neg h0, if_neg h3, if_neg h5, List.drop_drop, if_neg hb])
theorem nB_at (l : List UInt8) (a : Nat) (x y : UInt8) (hx : l[a]? = some x) (hy : l[a + 1]? = some y) : nB (l.drop a) = x.toNat + 256 * y.toNat := by
  obtain ⟨h1, e1⟩ := List.getElem?_eq_some_iff.1 hx
  obtain ⟨h2, e2⟩ := List.getElem?_eq_some_iff.1 hy
  unfold nB
  rw [List.drop_eq_getElem_cons h1, List.drop_eq_getElem_cons h2, e1, e2]
  show x.toNat + 256 * (y.toNat + 256 * 0) = _
  omega

/-- What Next tells. -/
def NextPost (W : World) (B : Nat) (r : List UInt8 × Nat × Int) (e : Ending) (W' : World) : Prop :=
  ∃ A m c, e = .returned (.tuple #[.slice A m c, .int .i64 ((r.2.1 : Nat) : Int), .int .i64 r.2.2]) ∧ Byt W' B A m r.1 ∧ (A = none → c = 0) ∧ m ≤ c ∧ c ≤ maxLen ∧ Below W.heap.size W W'
theorem NextPost.bad {W W' : World} {B : Nat} {k : Int} {r : List UInt8 × Nat × Int} {e : Ending} (hr : r = ([], 0, k)) (he : e = .returned (.tuple #[.slice none 0 0, .int .i64 0, .int .i64 k])) (h : Below W.heap.size W W') : NextPost W B r e W' := by
  subst hr he
  exact ⟨none, 0, 0, rfl, Byt.nil, fun _ => rfl, Nat.le_refl _, Nat.zero_le _, h⟩

end Go.Proofs.YthjikbhjciphiaaGreatDoor

/-
  The reference of boxes: all from the beginning on; whether two lists of bytes are the same.
-/
namespace Go.Proofs.YthjikbhjciphiaaGreatDoor
open Go.RowKit
set_option linter.unusedVariables false
set_option linter.unusedSimpArgs false

theorem Tryz.infoBs : (Tryz.prog.info? 70).map (fun i => (i.zero, i.size, i.bytes)) = some (some (.slice none 0 0), 1, 24) := by kernel_rfl

/-- Lists of bytes as structs of one part. -/
def bts (l : List (List UInt8)) : List (List Prt) := l.map fun b => [.byt b]
theorem bts_len (l : List (List UInt8)) : (bts l).length = l.length := List.length_map ..
theorem bts_snoc (l : List (List UInt8)) (b : List UInt8) : bts (l ++ [b]) = bts l ++ [[.byt b]] := by unfold bts; simp
theorem bts_one (l : List (List UInt8)) : ∀ f ∈ bts l, f.length = 1 := by
  intro f hf
  obtain ⟨b, _, rfl⟩ := List.mem_map.1 hf
  rfl
/-- The slice value '.slice A n c' reads as these lists of bytes. -/
def Lst (w : World) (S : Nat → Prop) (A : Option Addr) (n : Nat) (l : List (List UInt8)) : Prop := Sls w S 1 A n (bts l)
theorem Lst.at_ {w : World} {S : Nat → Prop} {A : Option Addr} {n : Nat} {l : List (List UInt8)} (h : Lst w S A n l) {j : Nat} {b : List UInt8} (hj : l[j]? = some b) :
    ∃ g o A2 n2 c2, A = some ⟨g, o, none⟩ ∧ ¬ S g ∧ g < w.heap.size ∧ w.cell? ⟨g, o + j, none⟩ = some (.slice A2 n2 c2) ∧ BytS w S A2 n2 b ∧ (A2 = none → n2 = 0 ∧ c2 = 0) ∧ n2 ≤ c2 ∧ c2 ≤ maxLen := by
  have hj' : (bts l)[j]? = some [.byt b] := by unfold bts; rw [List.getElem?_map, hj]; rfl
  obtain ⟨g, o, ys, e, hs, hl, hp, _, hc⟩ := Sls.at_ h hj'
  obtain ⟨v, r, rfl, ⟨A2, n2, c2, rfl, h2⟩, hr⟩ := hp
  refine ⟨g, o, A2, n2, c2, e, hs, hl, ?_, h2⟩
  have := hc 0 _ rfl
  rwa [Nat.mul_one, Nat.add_zero] at this

theorem next_go (l : List UInt8) (a : Nat) (h : a ≤ l.length) (h0 : (headC (l.drop a)).2.2 = 0) : nextC l (a : Int) = ((headC (l.drop a)).1, a + (headC (l.drop a)).2.1, 0) := by
  unfold nextC
  rw [if_neg (by omega), Int.toNat_natCast, if_pos h0]
theorem next_no (l : List UInt8) (a : Nat) (h : a ≤ l.length) (h0 : (headC (l.drop a)).2.2 ≠ 0) : nextC l (a : Int) = ([], 0, (headC (l.drop a)).2.2) := by
  unfold nextC
  rw [if_neg (by omega), Int.toNat_natCast, if_neg h0]

/-- What is kept while boxes are gone through. -/
def ValI (B : Nat) (W : World) (l : List UInt8) (v i : Value) (wr : World) : Prop :=
  ∃ (a : Nat) (gs : List (List UInt8)) (xs : List Value), i = .int .i64 a ∧ a ≤ l.length ∧ gs.length ≤ a ∧ wr.ownsRow W.heap.size 70 1 v (bts gs).length xs ∧ PrtsV wr (fun k => B ≤ k) xs (bts gs).flatten ∧ Below W.heap.size W wr ∧
    validC l = (gs ++ (validC (l.drop a)).1, a + (validC (l.drop a)).2)

end Go.Proofs.YthjikbhjciphiaaGreatDoor

/-
  The reference of boxes: two lists of bytes that are the same.
-/
namespace Go.Proofs.YthjikbhjciphiaaGreatDoor
open Go.RowKit
set_option linter.unusedVariables false
set_option linter.unusedSimpArgs false

theorem Lst.turn {w w' : World} {S : Nat → Prop} {A : Option Addr} {n : Nat} {l : List (List UInt8)} (h : Lst w S A n l) (ht : Turn S w w') : Lst w' S A n l := Sls.turn h ht
theorem Lst.below {w w' : World} {A : Option Addr} {n : Nat} {l : List (List UInt8)} (h : Lst w (fun _ => False) A n l) (hb : Below w.heap.size w w') : Lst w' (fun _ => False) A n l := Sls.turn h (Turn.of_below hb)
theorem Lst.len {w : World} {S : Nat → Prop} {A : Option Addr} {n : Nat} {l : List (List UInt8)} (h : Lst w S A n l) : l.length = n := by have := h.1; rwa [bts_len] at this

end Go.Proofs.YthjikbhjciphiaaGreatDoor

/-
  The statements of boxes by the program's contracts: awake, BoxPuts, BoxNexts.
-/
namespace Go.Proofs.YthjikbhjciphiaaGreatDoor
open Go.RowKit
set_option linter.unusedVariables false
set_option linter.unusedSimpArgs false

/-- What Put answers. -/
def putE (x : List UInt8) : Int := if x.length = 0 then 2 else if 4096 < x.length then 3 else 0
def putB (b x : List UInt8) : List UInt8 := if putE x = 0 then b ++ boxC x else []
def sizeB (n : Int) : Int := if 1 ≤ n ∧ n ≤ 4096 then n + 6 else 0
def PutPost (W : World) (b x : List UInt8) (e : Ending) (W' : World) : Prop :=
  ∃ v m, e = .returned (.tuple #[v, .int .i64 (putE x)]) ∧ W'.ownsRow W.heap.size 5 1 v m ((putB b x).map bv) ∧ Below W.heap.size W W'
def NextQ (W : World) (r : List UInt8 × Nat × Int) (e : Ending) (W' : World) : Prop :=
  ∃ A m c, e = .returned (.tuple #[.slice A m c, .int .i64 ((r.2.1 : Nat) : Int), .int .i64 r.2.2]) ∧ Byt W' W'.heap.size A m r.1 ∧ (A = none → c = 0) ∧ m ≤ c ∧ c ≤ maxLen ∧ Below W.heap.size W W'
def ValidQ (W : World) (r : List (List UInt8) × Nat) (e : Ending) (W' : World) : Prop :=
  ∃ A k c, e = .returned (.tuple #[.slice A k c, .int .i64 ((r.2 : Nat) : Int)]) ∧ Lst W' (fun _ => False) A k r.1 ∧ Below W.heap.size W W'

/-- The program's boxes. -/
structure BoxC : Prop where
  put : ∀ (A A2 : Option Addr) (n c n2 c2 : Nat) (b x : List UInt8) (W : World), Byt W W.heap.size A n b → (A = none → c = 0) → Byt W W.heap.size A2 n2 x → (A2 = none → c2 = 0) → n ≤ 1000000 → n2 ≤ 1000000 →
    Calls Tryz.prog 89 #[.slice A n c, .slice A2 n2 c2] W (PutPost W b x)
  size : ∀ (n : Int) (W : World), Calls Tryz.prog 171 #[.int .i64 n] W fun e W' => e = .returned (.int .i64 (sizeB n)) ∧ W' = W
  next : ∀ (A : Option Addr) (n c : Nat) (l : List UInt8) (a : Int) (W : World), Byt W W.heap.size A n l → (A = none → c = 0) → n ≤ c → c ≤ maxLen → n ≤ 1000000 →
    Calls Tryz.prog 123 #[.slice A n c, .int .i64 a] W (NextQ W (nextC l a))
  valid : ∀ (A : Option Addr) (n c : Nat) (l : List UInt8) (W : World), Byt W W.heap.size A n l → (A = none → c = 0) → n ≤ c → c ≤ maxLen → n ≤ 1000000 →
    Calls Tryz.prog 48 #[.slice A n c] W (ValidQ W (validC l))

theorem valid_parts (l : List UInt8) : ∀ b ∈ (validC l).1, b.length ≤ l.length := by
  suffices h : ∀ n (r : List UInt8), r.length = n → ∀ b ∈ (validC r).1, b.length ≤ r.length from h l.length l rfl
  intro n
  induction n using Nat.strongRecOn with
  | ind n ih =>
    intro r hr b hb
    by_cases h0 : (headC r).2.2 = 0
    · obtain ⟨h1, h2, h3, _⟩ := head_size r h0
      have hd : (r.drop (headC r).2.1).length = r.length - (headC r).2.1 := List.length_drop
      rw [valid_go r h0] at hb
      rcases List.mem_cons.1 hb with rfl | hb
      · omega
      · have := ih _ (by omega) (r.drop (headC r).2.1) hd b hb
        omega
    · rw [valid_stop r h0] at hb
      cases hb

end Go.Proofs.YthjikbhjciphiaaGreatDoor
