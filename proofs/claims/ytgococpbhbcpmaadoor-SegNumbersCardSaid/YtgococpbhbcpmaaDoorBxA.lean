/-
  The reference of boxes: a box; the box at a place.
-/
import Derived.Test.YtgococpbhbcpmaaDoorBxM
import Derived.Test.YtgococpbhbcpmaaDoorPrt
import Derived.BigRegion
import Derived.Deep.RegionWith
import Derived.Deep.RegionHeld3
import Derived.Deep.CutRange
namespace Go.Proofs.YtgococpbhbcpmaaDoor
open Go.RowKit
set_option linter.unusedVariables false
set_option linter.unusedSimpArgs false

/-- A piece of a slice of bytes. -/
theorem Byt.piece {w : World} {B n c : Nat} {A : Option Addr} {l : List UInt8} (h : Byt w B A n l) (a k : Nat) (hk : a + k ≤ n) (hc : n ≤ c) :
    Byt w B (if c = a then A else A.map (·.add a)) k ((l.drop a).take k) :=
  (h.cut (k := a) (by omega) hc).take (by omega)

theorem next_head (l : List UInt8) (a : Nat) (h : a ≤ l.length) (k : Int) (hk : k ≠ 0) (hh : headC (l.drop a) = ([], 0, k)) : nextC l (a : Int) = ([], 0, k) := by
  unfold nextC
  rw [if_neg (by omega), Int.toNat_natCast, hh]
  simp only
  rw [if_neg hk]
theorem next_short (l : List UInt8) (a : Nat) (h : a ≤ l.length) (h2 : l.length < a + 2) : nextC l (a : Int) = ([], 0, 1) :=
  next_head l a h 1 (by decide) (by unfold headC; rw [if_pos (by rw [List.length_drop]; omega)])
theorem next_of (l : List UInt8) (a : Nat) (h2 : a + 2 ≤ l.length) : nextC l (a : Int) = (if nB (l.drop a) = 0 then ([], 0, 2) else if 4096 < nB (l.drop a) then ([], 0, 3) else if l.length < a + (nB (l.drop a) + 6) then ([], 0, 1)
    else if boxC ((l.drop (a + 2)).take (nB (l.drop a))) = (l.drop a).take (nB (l.drop a) + 6) then ((l.drop (a + 2)).take (nB (l.drop a)), a + (nB (l.drop a) + 6), 0) else ([], 0, 4)) := by
  have hd : (l.drop a).length = l.length - a := List.length_drop
  have h20 : ¬ (l.drop a).length < 2 := by omega
  by_cases h0 : nB (l.drop a) = 0
  · rw [if_pos h0]
    exact next_head l a (by omega) 2 (by decide) (by unfold headC; rw [if_neg h20, if_pos h0])
  by_cases h3 : 4096 < nB (l.drop a)
  · rw [if_neg h0, if_pos h3]
    exact next_head l a (by omega) 3 (by decide) (by unfold headC; rw [if_neg h20, if_neg h0, if_pos h3])
  by_cases h4 : l.length < a + (nB (l.drop a) + 6)
  · rw [if_neg h0, if_neg h3, if_pos h4]
    exact next_head l a (by omega) 1 (by decide) (by unfold headC; rw [if_neg h20, if_neg h0, if_neg h3, if_pos (by omega)])
  rw [if_neg h0, if_neg h3, if_neg h4]
  have h5 : ¬ (l.drop a).length < nB (l.drop a) + 6 := by omega
  by_cases hb : boxC ((l.drop (a + 2)).take (nB (l.drop a))) = (l.drop a).take (nB (l.drop a) + 6)
  · rw [if_pos hb]
    have hh : headC (l.drop a) = ((l.drop (a + 2)).take (nB (l.drop a)), nB (l.drop a) + 6, 0) := by
      unfold headC; rw [if_neg h20, if_neg h0, if_neg h3, if_neg h5, List.drop_drop, if_pos hb]
    unfold nextC
    rw [if_neg (by omega), Int.toNat_natCast, hh]
    rfl
  · rw [if_neg hb]
    exact next_head l a (by omega) 4 (by decide) (by unfold headC; rw [if_neg h20, if_neg h0, if_neg h3, if_neg h5, List.drop_drop, if_neg hb])
theorem nB_at (l : List UInt8) (a : Nat) (x y : UInt8) (hx : l[a]? = some x) (hy : l[a + 1]? = some y) : nB (l.drop a) = x.toNat + 256 * y.toNat := by
  obtain ⟨h1, e1⟩ := List.getElem?_eq_some_iff.1 hx
  obtain ⟨h2, e2⟩ := List.getElem?_eq_some_iff.1 hy
  unfold nB
  rw [List.drop_eq_getElem_cons h1, List.drop_eq_getElem_cons h2, e1, e2]
  show x.toNat + 256 * (y.toNat + 256 * 0) = _
  omega

/-- What Next tells. -/
def NextPost (W : World) (B : Nat) (r : List UInt8 × Nat × Int) (e : Ending) (W' : World) : Prop :=
  ∃ A m c, e = .returned (.tuple #[.slice A m c, .int .i64 ((r.2.1 : Nat) : Int), .int .i64 r.2.2]) ∧ Byt W' B A m r.1 ∧ (A = none → c = 0) ∧ m ≤ c ∧ c ≤ maxLen ∧ Below W.heap.size W W'
theorem NextPost.bad {W W' : World} {B : Nat} {k : Int} {r : List UInt8 × Nat × Int} {e : Ending} (hr : r = ([], 0, k)) (he : e = .returned (.tuple #[.slice none 0 0, .int .i64 0, .int .i64 k])) (h : Below W.heap.size W W') : NextPost W B r e W' := by
  subst hr he
  exact ⟨none, 0, 0, rfl, Byt.nil, fun _ => rfl, Nat.le_refl _, Nat.zero_le _, h⟩

end Go.Proofs.YtgococpbhbcpmaaDoor
