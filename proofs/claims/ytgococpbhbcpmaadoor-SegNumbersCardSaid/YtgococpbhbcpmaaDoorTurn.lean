/-
  What turns at all: only blocks of a set, and new ones; bytes that lie off such a set. No program stands here.
-/
import Derived.Test.YtgococpbhbcpmaaDoorMid
import Derived.Test.YtgococpbhbcpmaaDoorBase
namespace Go.Proofs.YtgococpbhbcpmaaDoor
open Go.RowKit
set_option linter.unusedVariables false
set_option linter.unusedSimpArgs false

/-- Of the blocks that are there only those of S turn. -/
structure Turn (S : Nat → Prop) (w w' : World) : Prop where
  os : w'.os = w.os
  tape : w'.tape = w.tape
  output : w'.output = w.output
  size : w.heap.size ≤ w'.heap.size
  block : ∀ k, k < w.heap.size → ¬ S k → w'.heap[k]? = w.heap[k]?
section
variable {S S' : Nat → Prop} {w w' w'' : World}
theorem Turn.refl (S : Nat → Prop) (w : World) : Turn S w w := ⟨rfl, rfl, rfl, Nat.le_refl _, fun _ _ _ => rfl⟩
theorem Turn.trans (h : Turn S w w') (k : Turn S w' w'') : Turn S w w'' :=
  ⟨k.os.trans h.os, k.tape.trans h.tape, k.output.trans h.output, Nat.le_trans h.size k.size, fun i hi hs => (k.block i (Nat.lt_of_lt_of_le hi h.size) hs).trans (h.block i hi hs)⟩
theorem Turn.of_below (h : Below w.heap.size w w') : Turn S w w' := ⟨h.os, h.tape, h.output, h.size, fun k hk _ => h.block k hk⟩
theorem Turn.mono (h : Turn S w w') (hs : ∀ k, S k → S' k) : Turn S' w w' := ⟨h.os, h.tape, h.output, h.size, fun k hk hn => h.block k hk fun e => hn (hs k e)⟩
theorem Turn.alloc (h : Turn S w w') (o : Obj) : Turn S w (w'.alloc o) := h.trans (Turn.of_below ((Below.refl _ w').alloc (Nat.le_refl _) o))
theorem Turn.drewN (h : Turn S w w') (q : Nat) : Turn S w (w'.drewN q) := ⟨h.os, h.tape, h.output, h.size, h.block⟩
theorem Turn.setCell (h : Turn S w w') {p : Addr} (hp : S p.block) (u : Value) : Turn S w (w'.setCell p u) := by
  refine ⟨h.os, h.tape, h.output, ?_, fun k hk hn => ?_⟩
  · have : (w'.setCell p u).heap.size = w'.heap.size := by simp [World.setCell]
    rw [this]; exact h.size
  · rw [heap_setCell_other w' p k u (fun e => hn (by rw [e]; exact hp))]
    exact h.block k hk hn
theorem Turn.cell (h : Turn S w w') {p : Addr} (hp : p.block < w.heap.size) (hs : ¬ S p.block) : w'.cell? p = w.cell? p := World.cell?_of_block (h.block p.block hp hs)
theorem Turn.at_ (h : Turn S w w') {p : Addr} {v : Value} (hc : w.cell? p = some v) (hs : ¬ S p.block) : w'.cell? p = some v := (h.cell (block_lt_of_cell hc) hs).trans hc
/-- Where only new blocks are of S, nothing that was there turns. -/
theorem Turn.below (h : Turn S w w') {B : Nat} (hB : B ≤ w.heap.size) (hs : ∀ k, S k → B ≤ k) : Below B w w' :=
  ⟨h.os, h.tape, h.output, h.size, fun k hk => h.block k (Nat.lt_of_lt_of_le hk hB) fun e => by have := hs k e; omega⟩
theorem Turn.blk {g : Nat} {t : TypeId} {cs : List Value} (h : Turn S w w') (hb : Blk w g t cs) (hs : ¬ S g) : Blk w' g t cs := (h.block g hb.lt hs).trans hb

/-- The slice value '.slice A n c' reads as the bytes l, off S. -/
def BytS (w : World) (S : Nat → Prop) (A : Option Addr) (n : Nat) (l : List UInt8) : Prop :=
  l.length = n ∧ (0 < n → ∃ b o, A = some ⟨b, o, none⟩ ∧ ¬ S b ∧ ∀ (j : Nat) (x : UInt8), l[j]? = some x → w.cell? ⟨b, o + j, none⟩ = some (.int .u8 ((x.toNat : Nat) : Int)))
theorem BytS.turn {A : Option Addr} {n : Nat} {l : List UInt8} (h : BytS w S A n l) (ht : Turn S w w') : BytS w' S A n l :=
  ⟨h.1, fun hn => by
    obtain ⟨b, o, e, hs, hc⟩ := h.2 hn
    exact ⟨b, o, e, hs, fun j x hx => ht.at_ (hc j x hx) hs⟩⟩
theorem BytS.less {A : Option Addr} {n : Nat} {l : List UInt8} (h : BytS w S A n l) (hs : ∀ k, S' k → S k) : BytS w S' A n l :=
  ⟨h.1, fun hn => by
    obtain ⟨b, o, e, hb, hc⟩ := h.2 hn
    exact ⟨b, o, e, fun x => hb (hs b x), hc⟩⟩
/-- More blocks to be off, none of which is there yet. -/
theorem BytS.more {A : Option Addr} {n : Nat} {l : List UInt8} (h : BytS w S A n l) (hs : ∀ k, S' k → k < w.heap.size → S k) : BytS w S' A n l :=
  ⟨h.1, fun hn => by
    obtain ⟨b, o, e, hb, hc⟩ := h.2 hn
    refine ⟨b, o, e, fun x => hb (hs b x ?_), hc⟩
    have hl : 0 < l.length := by have := h.1; omega
    exact block_lt_of_cell (hc 0 _ (List.getElem?_eq_getElem hl))⟩
theorem BytS.byt {A : Option Addr} {n : Nat} {l : List UInt8} (h : BytS w S A n l) : Byt w w.heap.size A n l :=
  ⟨h.1, fun hn => by
    obtain ⟨b, o, e, hb, hc⟩ := h.2 hn
    have hl : 0 < l.length := by have := h.1; omega
    exact ⟨b, o, e, block_lt_of_cell (hc 0 _ (List.getElem?_eq_getElem hl)), hc⟩⟩
theorem Byt.off {A : Option Addr} {n B : Nat} {l : List UInt8} (h : Byt w B A n l) (hs : ∀ k, S k → B ≤ k) : BytS w S A n l :=
  ⟨h.1, fun hn => by
    obtain ⟨b, o, e, hb, hc⟩ := h.2 hn
    exact ⟨b, o, e, fun x => by have := hs b x; omega, hc⟩⟩
theorem BytS.take {A : Option Addr} {n m : Nat} {l : List UInt8} (h : BytS w S A n l) (hm : m ≤ n) : BytS w S A m (l.take m) := by
  refine ⟨by rw [List.length_take, h.1]; omega, fun h0 => ?_⟩
  obtain ⟨b, o, e, hb, hc⟩ := h.2 (by omega)
  refine ⟨b, o, e, hb, fun j x hx => hc j x ?_⟩
  rw [List.getElem?_take] at hx
  split at hx
  · exact hx
  · cases hx
theorem BytS.nil {A : Option Addr} : BytS w S A 0 [] := ⟨rfl, fun h => absurd h (by omega)⟩
end

end Go.Proofs.YtgococpbhbcpmaaDoor
