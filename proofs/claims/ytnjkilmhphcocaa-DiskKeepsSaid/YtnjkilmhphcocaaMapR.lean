/-
  A range over a map with texts as keys. No program stands here.
-/
import Derived.Test.YtnjkilmhphcocaaMapS
import Derived.Maps.RangeWalk
import Derived.Sort.KeysCollected
namespace Go.Proofs.Ytnjkilmhphcocaa
open Go.RowKit
open Go.Maps (Keyed)
set_option linter.unusedVariables false
set_option linter.unusedSimpArgs false

theorem look_of_at (s : List UInt8) (L : List (List UInt8 × Value)) (v : Value) (h : ∀ zd, (mapD L).atKey (.string s) zd = .held v) : lookM s L = some v := by
  have h1 := h (.held (.bool true))
  have h2 := h (.held (.bool false))
  rw [mapD_at] at h1 h2
  cases hl : lookM s L with
  | some u =>
    rw [hl] at h1
    exact congrArg some (DataW.held.inj h1)
  | none =>
    rw [hl] at h1 h2
    have e1 : Value.bool true = v := DataW.held.inj h1
    have e2 : Value.bool false = v := DataW.held.inj h2
    rw [← e2] at e1
    cases e1
theorem wpList_next_mapS {P : Program} (w : World) {ops : Array Oper} {rest : List Oper} {o : Oper} {a : Act} {Q : Exit → Act → World → Prop}
    (hg : o.guard = none) (it : Operand) (hop : o.op = Op.next it false) (k : TypeId) (hk : P.underlying k = some .string) (b r n : Nat) (L : List (List UInt8 × Value)) (left : Lit → Bool) (cnt : Nat)
    (hit : a.eval it = .pointer (some ⟨r, 0, none⟩)) (h : w.ranges P k rawR b r n (mapD L) left cnt)
    (hDone : cnt = 0 → (∀ kl, left kl = false) → wpList P ops Q rest (a.put o.dst (.tuple #[.bool false])) w)
    (hMore : ∀ (s : List UInt8) (v : Value) (w' : World) (cnt' : Nat), left (.string s) = true → lookM s L = some v → w'.ranges P k rawR b r n (mapD L) (fun z => left z && !z.sameKey (.string s)) cnt' → cnt' < cnt →
      w.grownBy w' (some r) → w'.heap.size = w.heap.size → (Instr.entry (.pointer (some ⟨r, 0, none⟩))).run P w' = .ok (.tuple #[.string ⟨s.toArray⟩, v]) w' → wpList P ops Q rest (a.put o.dst (.tuple #[.bool true, .string ⟨s.toArray⟩, v])) w') :
    wpList P ops Q (o :: rest) a w :=
  wpList_next_ranges w hg it hop k (Maps.string_keyed hk) rawR (fun l : List UInt8 => Value.string ⟨l.toArray⟩) (fun v : Value => v) (fun key kl hk2 => by obtain ⟨x, hx, _⟩ := Maps.keyOf_str hk hk2; exact ⟨x, hx⟩) (fun v y _ => ⟨v, rfl⟩)
    b r n (mapD L) left cnt hit h hDone (fun x c kl y w' cnt' hkey hlk hv hat hrg hlt hgr hsz hen => by
      obtain ⟨x', ex, rfl, _⟩ := Maps.keyOf_str hk hkey
      obtain rfl : x = x' := by
        have e := Value.string.inj ex
        simpa using congrArg (fun b : ByteArray => b.data.toList) e
      obtain rfl : y = (.held c, []) := (Option.some.inj hv).symm
      exact hMore x c w' cnt' hlk (look_of_at x L c hat) hrg hlt hgr hsz hen)
end Go.Proofs.Ytnjkilmhphcocaa
