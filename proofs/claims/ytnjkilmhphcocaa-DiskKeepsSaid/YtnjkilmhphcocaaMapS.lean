/-
  A map with texts as keys, its elements whatever values: what it holds, as a list that rises. No program stands here.
-/
import Derived.Test.YtnjkilmhphcocaaMid
import Derived.Maps.OwnSet
import Derived.Maps.Range
namespace Go.Proofs.Ytnjkilmhphcocaa
open Go.RowKit
open Go.Maps (Keyed)
set_option linter.unusedVariables false
set_option linter.unusedSimpArgs false

/-- An element reads as itself. -/
def rawR (v : Value) : Option (DataW Value × List MemPlace) := some (.held v, [])
/-- What a map holds, as a datum. -/
def mapE (L : List (List UInt8 × Value)) : List (Lit × DataW Value) := L.map fun p => (Lit.string p.1, DataW.held p.2)
def mapD (L : List (List UInt8 × Value)) : DataW Value := .map (mapE L)
/-- The element of a key; a key with another element, or a new one; a key taken out. -/
def lookM (s : List UInt8) (L : List (List UInt8 × Value)) : Option Value := (L.find? fun p => p.1 == s).map (·.2)
def insM (x : List UInt8 × Value) : List (List UInt8 × Value) → List (List UInt8 × Value)
  | [] => [x]
  | y :: r => if bytesBefore x.1 y.1 then x :: y :: r else y :: insM x r
def delM (s : List UInt8) (L : List (List UInt8 × Value)) : List (List UInt8 × Value) := L.filter fun p => !(p.1 == s)
def putM (s : List UInt8) (v : Value) (L : List (List UInt8 × Value)) : List (List UInt8 × Value) := insM (s, v) (delM s L)

theorem mapE_ins (x : List UInt8 × Value) (L : List (List UInt8 × Value)) : DataW.insert (Lit.string x.1, DataW.held x.2) (mapE L) = mapE (insM x L) := by
  induction L with
  | nil => rfl
  | cons y r ih =>
    show (if bytesBefore x.1 y.1 then _ else _) = mapE (if bytesBefore x.1 y.1 then _ else _)
    by_cases h : bytesBefore x.1 y.1 = true
    · rw [if_pos h, if_pos h]; rfl
    · rw [if_neg h, if_neg h]
      show _ :: DataW.insert _ (mapE r) = _
      rw [ih]; rfl
theorem mapE_del (s : List UInt8) (L : List (List UInt8 × Value)) : (mapE L).filter (fun p => !p.1.sameKey (.string s)) = mapE (delM s L) := by
  induction L with
  | nil => rfl
  | cons y r ih =>
    show List.filter _ ((Lit.string y.1, DataW.held y.2) :: mapE r) = _
    have e : (Lit.string y.1).sameKey (.string s) = (y.1 == s) := rfl
    unfold delM at ih ⊢
    rw [List.filter_cons, List.filter_cons, e]
    cases y.1 == s
    · simp only [Bool.not_false, if_true]; rw [ih]; rfl
    · simp only [Bool.not_true, Bool.false_eq_true, if_false]; exact ih
theorem mapD_put (s : List UInt8) (v : Value) (L : List (List UInt8 × Value)) : (mapD L).put (.string s) (.held v) = mapD (putM s v L) := by
  show DataW.map (DataW.insert _ ((mapE L).filter _)) = _
  rw [mapE_del, mapE_ins (s, v)]
  rfl
theorem mapD_del (s : List UInt8) (L : List (List UInt8 × Value)) : (mapD L).del (.string s) = mapD (delM s L) := by
  show DataW.map ((mapE L).filter _) = _
  rw [mapE_del]
  rfl
theorem mapE_find (s : List UInt8) (L : List (List UInt8 × Value)) : (mapE L).find? (fun p => p.1.sameKey (.string s)) = (L.find? fun p => p.1 == s).map fun p => (Lit.string p.1, DataW.held p.2) := by
  unfold mapE
  rw [List.find?_map]
  rfl
theorem mapD_at (s : List UInt8) (L : List (List UInt8 × Value)) (z : Value) : (mapD L).atKey (.string s) (.held z) = .held ((lookM s L).getD z) := by
  unfold mapD DataW.atKey lookM
  dsimp only
  rw [mapE_find]
  cases L.find? fun p => p.1 == s <;> rfl
theorem mapD_has (s : List UInt8) (L : List (List UInt8 × Value)) : Maps.has (mapD L) (.string s) = (lookM s L).isSome := by
  show (mapE L).any (fun p => p.1.sameKey (.string s)) = ((L.find? fun p => p.1 == s).map (·.2)).isSome
  rw [Option.isSome_map]
  induction L with
  | nil => rfl
  | cons y r ih =>
    show ((y.1 == s) || (mapE r).any _) = ((y :: r).find? _).isSome
    rw [List.find?_cons, ih]
    cases y.1 == s <;> rfl
theorem mapD_size (L : List (List UInt8 × Value)) : Maps.size (mapD L) = L.length := by
  show (mapE L).length = _
  simp [mapE]

/-- Block b is a map with these keys and elements. -/
def MapS (w : World) (P : Program) (k : TypeId) (b : Nat) (L : List (List UInt8 × Value)) : Prop := w.ownsMap P k rawR b L.length (mapD L)

section
variable {w w' : World} {P : Program} {k t e : TypeId} {b : Nat} {L : List (List UInt8 × Value)}
theorem MapS.tight {n : Nat} (h : w.ownsMap P k rawR b n (mapD L)) : MapS w P k b L := by
  obtain ⟨es, clock, hb, F, hs, hD⟩ := h
  refine ⟨es, clock, hb, F, ?_, hD⟩
  have h1 : mapE L = (es.toList.map (Go.WideElems.rg P k rawR)).foldr DataW.insert [] := by
    have := hD
    unfold mapD at this
    simpa using this
  have h2 : (mapE L).length = es.size := by rw [h1, length_sorted]; simp
  have h3 : (mapE L).length = L.length := by simp [mapE]
  omega
theorem MapS.lt (h : MapS w P k b L) : b < w.heap.size := World.ownsMap.lt h
theorem MapS.made (w : World) (P : Program) (k : TypeId) : MapS (w.alloc (.map #[] 0)) P k w.heap.size [] := World.ownsMap_made w P k rawR
theorem MapS.alloc (h : MapS w P k b L) (o : Obj) : MapS (w.alloc o) P k b L := World.ownsMap.alloc h o
theorem MapS.drewN (h : MapS w P k b L) (q : Nat) : MapS (w.drewN q) P k b L := h
theorem MapS.below {B : Nat} (h : MapS w P k b L) (hb : Below B w w') (hlt : b < B) : MapS w' P k b L := by
  obtain ⟨es, clock, hbb, F, hs, hD⟩ := h
  exact ⟨es, clock, (hb.block b hlt).trans hbb, F, hs, hD⟩
theorem MapS.setCell (h : MapS w P k b L) {a : Addr} (ha : b ≠ a.block) (u : Value) : MapS (w.setCell a u) P k b L := World.ownsMap.setCell h ha u
/-- 'v, ok := m[s]'. -/
theorem MapS.look (h : MapS w P k b L) (K : Keyed P k) (ht : P.underlying t = some (.map k e)) {z : Value} (hz : (zeroValue e).run P w = .ok z w) (s : ByteArray) (hkey : keyOf P k (.string s) = some (.string s.data.toList)) :
    (Instr.lookup t (.map (some b)) (.string s) true).run P w = .ok (.tuple #[(lookM s.data.toList L).getD z, .bool (lookM s.data.toList L).isSome]) w := by
  obtain ⟨v, ps, hrun, hv⟩ := World.ownsMap.look_ok h K ht hz (show rawR z = some (.held z, []) from rfl) hkey
  rw [mapD_at] at hv
  have hv2 : v = (lookM s.data.toList L).getD z := by
    have : (some (DataW.held v, []) : Option (DataW Value × List MemPlace)) = some (.held ((lookM s.data.toList L).getD z), ps) := hv
    simpa using congrArg (fun o => o.map (·.1)) this
  rw [hrun, mapD_has, hv2]
/-- 'm[s] = v'. -/
theorem MapS.put (h : MapS w P k b L) (K : Keyed P k) (ht : P.underlying t = some (.map k e)) (hn : L.length < maxLen) (s : ByteArray) (v : Value) (hkey : keyOf P k (.string s) = some (.string s.data.toList)) :
    ∃ w', (Instr.mapUpdate t (.map (some b)) (.string s) v).run P w = .ok () w' ∧ MapS w' P k b (putM s.data.toList v L) ∧ w.mapTurned w' b := by
  obtain ⟨w', h1, h2, h3⟩ := World.ownsMap.store h K ht hn hkey (show rawR v = some (.held v, []) from rfl)
  rw [mapD_put] at h2
  exact ⟨w', h1, MapS.tight h2, h3⟩
/-- 'delete(m, s)'. -/
theorem MapS.drop (h : MapS w P k b L) (K : Keyed P k) (ht : P.underlying t = some (.map k e)) (s : ByteArray) (hkey : keyOf P k (.string s) = some (.string s.data.toList)) (ty : TypeId) :
    ∃ w', (Builtin.delete_ #[t, k] ty #[.map (some b), .string s]).run P w = .ok (.tuple #[]) w' ∧ MapS w' P k b (delM s.data.toList L) ∧ w.mapTurned w' b := by
  obtain ⟨w', h1, h2, h3⟩ := World.ownsMap.drop h K ht hkey ty
  rw [mapD_del] at h2
  exact ⟨w', h1, MapS.tight h2, h3⟩
/-- 'len(m)'. -/
theorem MapS.len (h : MapS w P k b L) (ht : P.underlying t = some (.map k e)) (ty : TypeId) : (Builtin.len_ #[t] ty #[.map (some b)]).run P w = .ok (.int .i64 ((L.length : Nat) : Int)) w := by
  rw [World.ownsMap.len h ht ty, mapD_size]
end

end Go.Proofs.Ytnjkilmhphcocaa
