/-
  The reference of boxes: all from the beginning on; whether two lists of bytes are the same.
-/
import Derived.Test.YtgococpbhbcpmaaDoorBxA
namespace Go.Proofs.YtgococpbhbcpmaaDoor
open Go.RowKit
set_option linter.unusedVariables false
set_option linter.unusedSimpArgs false

theorem Tryd.infoBs : (Tryd.prog.info? 50).map (fun i => (i.zero, i.size, i.bytes)) = some (some (.slice none 0 0), 1, 24) := by kernel_rfl

/-- Lists of bytes as structs of one part. -/
def bts (l : List (List UInt8)) : List (List Prt) := l.map fun b => [.byt b]
theorem bts_len (l : List (List UInt8)) : (bts l).length = l.length := List.length_map ..
theorem bts_snoc (l : List (List UInt8)) (b : List UInt8) : bts (l ++ [b]) = bts l ++ [[.byt b]] := by unfold bts; simp
theorem bts_one (l : List (List UInt8)) : ∀ f ∈ bts l, f.length = 1 := by
  intro f hf
  obtain ⟨b, _, rfl⟩ := List.mem_map.1 hf
  rfl
/-- The slice value '.slice A n c' reads as these lists of bytes. -/
def Lst (w : World) (S : Nat → Prop) (A : Option Addr) (n : Nat) (l : List (List UInt8)) : Prop := Sls w S 1 A n (bts l)
theorem Lst.at_ {w : World} {S : Nat → Prop} {A : Option Addr} {n : Nat} {l : List (List UInt8)} (h : Lst w S A n l) {j : Nat} {b : List UInt8} (hj : l[j]? = some b) :
    ∃ g o A2 n2 c2, A = some ⟨g, o, none⟩ ∧ ¬ S g ∧ g < w.heap.size ∧ w.cell? ⟨g, o + j, none⟩ = some (.slice A2 n2 c2) ∧ BytS w S A2 n2 b ∧ (A2 = none → n2 = 0 ∧ c2 = 0) ∧ n2 ≤ c2 ∧ c2 ≤ maxLen := by
  have hj' : (bts l)[j]? = some [.byt b] := by unfold bts; rw [List.getElem?_map, hj]; rfl
  obtain ⟨g, o, ys, e, hs, hl, hp, _, hc⟩ := Sls.at_ h hj'
  obtain ⟨v, r, rfl, ⟨A2, n2, c2, rfl, h2⟩, hr⟩ := hp
  refine ⟨g, o, A2, n2, c2, e, hs, hl, ?_, h2⟩
  have := hc 0 _ rfl
  rwa [Nat.mul_one, Nat.add_zero] at this

theorem next_go (l : List UInt8) (a : Nat) (h : a ≤ l.length) (h0 : (headC (l.drop a)).2.2 = 0) : nextC l (a : Int) = ((headC (l.drop a)).1, a + (headC (l.drop a)).2.1, 0) := by
  unfold nextC
  rw [if_neg (by omega), Int.toNat_natCast, if_pos h0]
theorem next_no (l : List UInt8) (a : Nat) (h : a ≤ l.length) (h0 : (headC (l.drop a)).2.2 ≠ 0) : nextC l (a : Int) = ([], 0, (headC (l.drop a)).2.2) := by
  unfold nextC
  rw [if_neg (by omega), Int.toNat_natCast, if_neg h0]

/-- What is kept while boxes are gone through. -/
def ValI (B : Nat) (W : World) (l : List UInt8) (v i : Value) (wr : World) : Prop :=
  ∃ (a : Nat) (gs : List (List UInt8)) (xs : List Value), i = .int .i64 a ∧ a ≤ l.length ∧ gs.length ≤ a ∧ wr.ownsRow W.heap.size 50 1 v (bts gs).length xs ∧ PrtsV wr (fun k => B ≤ k) xs (bts gs).flatten ∧ Below W.heap.size W wr ∧
    validC l = (gs ++ (validC (l.drop a)).1, a + (validC (l.drop a)).2)

end Go.Proofs.YtgococpbhbcpmaaDoor
