/-
  Walks over package octet: the cursor.
-/
import Derived.Test.YtgococpbhbcpmaaDoorOctA
import Derived.Laws.BitsAllLaws
namespace Go.Proofs.YtgococpbhbcpmaaDoor
open Go.RowKit
set_option linter.unusedVariables false
set_option linter.unusedSimpArgs false

/-- What taking k bytes gives, what it leaves, and the error behind it. -/
def tk (l : List UInt8) (e : Int) (k : Int) : List UInt8 × List UInt8 × Int :=
  if e ≠ 0 ∨ k < 0 then ([], l, e) else if l.length < k.toNat then ([], l, 1) else (l.take k.toNat, l.drop k.toNat, e)

/-- Only block g and newer ones turned. -/
def Only (g : Nat) (w w' : World) : Prop := w.grownBy w' (some g)
theorem Only.below {B g : Nat} {a w w' : World} (h : Below B a w) (ho : Only g w w') (hB : B ≤ w.heap.size) (hg : B ≤ g) : Below B a w' :=
  h.grown ho hB (fun k e => by cases e; exact hg)
theorem Only.refl (g : Nat) (w : World) : Only g w w := World.grownBy.refl w _
theorem Only.set (g i : Nat) (w : World) (u : Value) : Only g w (w.setCell ⟨g, i, none⟩ u) :=
  ⟨rfl, rfl, rfl, by simp [World.setCell], fun k _ hk => Below.heap_setCell _ _ _ _ (fun e => hk (by simp at e; simp [e]))⟩
theorem Only.trans {g : Nat} {a b c : World} (h : Only g a b) (k : Only g b c) : Only g a c :=
  ⟨k.os.trans h.os, k.tape.trans h.tape, k.output.trans h.output, Nat.le_trans h.size k.size, fun i hi hne => (k.block i (Nat.lt_of_lt_of_le hi h.size) hne).trans (h.block i hi hne)⟩
theorem Only.of_below {g : Nat} {a b : World} (h : Below a.heap.size a b) : Only g a b := ⟨h.os, h.tape, h.output, h.size, fun k hk _ => h.block k hk⟩
theorem Byt.only {w w' : World} {g B n : Nat} {A : Option Addr} {l : List UInt8} (h : Byt w B A n l) (ho : Only g w w') (hB : B ≤ g) (hw : B ≤ w.heap.size) : Byt w' B A n l :=
  h.keep fun p hp => World.cell?_of_block (w := w) (ho.block _ (by omega) (by intro e; cases e; omega))

theorem heap_set {w : World} {g i : Nat} {cs : Array Value} {t : TypeId} (h : w.heap[g]? = some (.cells cs t (0, 0))) (u : Value) :
    (w.setCell ⟨g, i, none⟩ u).heap[g]? = some (.cells (cs.setIfInBounds i u) t (0, 0)) := by
  simp [World.setCell, Array.getElem?_modify, h]

/-- A cut's end. -/
theorem Byt.cut {w : World} {B n c : Nat} {A : Option Addr} {l : List UInt8} (h : Byt w B A n l) {k : Nat} (hk : k ≤ n) (hc : n ≤ c) :
    Byt w B (if c = k then A else A.map (·.add k)) (n - k) (l.drop k) := by
  refine ⟨by rw [List.length_drop, h.1], fun hn => ?_⟩
  obtain ⟨b, o, rfl, hb, hcell⟩ := h.2 (by omega)
  rw [if_neg (by omega)]
  refine ⟨b, o + k, by simp [Addr.add_lit], hb, fun j x hx => ?_⟩
  rw [List.getElem?_drop] at hx
  have := hcell _ x hx
  rwa [← Nat.add_assoc] at this
theorem Byt.take {w : World} {B n : Nat} {A : Option Addr} {l : List UInt8} (h : Byt w B A n l) {k : Nat} (hk : k ≤ n) : Byt w B A k (l.take k) := by
  refine ⟨by rw [List.length_take, h.1]; omega, fun hn => ?_⟩
  obtain ⟨b, o, e, hb, hcell⟩ := h.2 (by omega)
  refine ⟨b, o, e, hb, fun j x hx => ?_⟩
  rw [List.getElem?_take] at hx
  split at hx
  · exact hcell j x hx
  · cases hx

theorem tk_len (l : List UInt8) (e k : Int) : (tk l e k).1.length ≤ k.toNat := by
  unfold tk
  split
  · simp
  · split
    · simp
    · simp [List.length_take]; omega

theorem or_step (o : List UInt8) (k : Nat) (x : UInt8) (hk : k < 8) (hx : o[k]? = some x) :
    bits .or .u64 ((num (o.take k) : Nat) : Int) (IntKind.u64.wrap (IntKind.u64.wrap ((x.toNat : Nat) : Int) * 2 ^ (8 * k))) = ((num (o.take (k + 1)) : Nat) : Int) := by
  have hx2 : x.toNat < 256 := x.toNat_lt
  obtain ⟨hko, _⟩ := List.getElem?_eq_some_iff.1 hx
  have hl : (o.take k).length = k := by rw [List.length_take]; omega
  have hlt := num_lt (o.take k)
  rw [hl] at hlt
  have h256 : (256 : Nat) ^ k = 2 ^ (8 * k) := by rw [Nat.pow_mul]
  have hp : (2 : Nat) ^ (8 * k) ≤ 2 ^ 56 := Nat.pow_le_pow_right (by decide) (by omega)
  have h56 : (2 : Nat) ^ 56 = 72057594037927936 := by decide
  have hmul : x.toNat * 2 ^ (8 * k) ≤ 255 * 72057594037927936 := by
    have := Nat.mul_le_mul (show x.toNat ≤ 255 by omega) (show (2 : Nat) ^ (8 * k) ≤ 72057594037927936 by omega)
    exact this
  have e1 : IntKind.u64.wrap ((x.toNat : Nat) : Int) = ((x.toNat : Nat) : Int) := by rw [IntKind.wrap_u64]; omega
  have e2 : ((x.toNat : Nat) : Int) * 2 ^ (8 * k) = ((x.toNat * 2 ^ (8 * k) : Nat) : Int) := by simp
  rw [e1, e2, IntKind.wrap_u64]
  rw [show ((x.toNat * 2 ^ (8 * k) : Nat) : Int) % 18446744073709551616 = ((x.toNat * 2 ^ (8 * k) : Nat) : Int) by omega]
  rw [u64_or_nat _ _ (by omega) (by omega)]
  have hs : num (o.take (k + 1)) = num (o.take k) + 256 ^ k * x.toNat := by
    rw [List.take_add_one, hx]
    show num (o.take k ++ [x]) = _
    rw [num_snoc, hl]
  rw [hs, Nat.or_comm, nat_join (8 * k) _ _ (Nat.mul_mod_left _ _) (by omega), h256, Nat.mul_comm, Nat.add_comm]

/-- What Done answers. -/
def doneE (l : List UInt8) (e : Int) : Int := if e = 0 ∧ l ≠ [] then 2 else e

theorem tk_le (l : List UInt8) (e k : Int) : (tk l e k).1.length ≤ l.length := by
  unfold tk
  split
  · simp
  · split
    · simp
    · simp [List.length_take]; omega

/-- Text: what it gives, what is left, the error. -/
def tx (l : List UInt8) (e : Int) (j : Nat) (most : Int) : List UInt8 × List UInt8 × Int :=
  let n := num (tk l e j).1
  let l1 := (tk l e j).2.1
  let e1 := (tk l e j).2.2
  if e1 ≠ 0 then ([], l1, e1) else if most < 0 ∨ most < (n : Int) then ([], l1, 2) else tk l1 e1 n

end Go.Proofs.YtgococpbhbcpmaaDoor
