/-
  The reference of boxes: two lists of bytes that are the same.
-/
import Derived.Test.YtnmibfncgoemfaaBxB
import Derived.BigQuiet
namespace Go.Proofs.Ytnmibfncgoemfaa
open Go.RowKit
set_option linter.unusedVariables false
set_option linter.unusedSimpArgs false

theorem Lst.turn {w w' : World} {S : Nat → Prop} {A : Option Addr} {n : Nat} {l : List (List UInt8)} (h : Lst w S A n l) (ht : Turn S w w') : Lst w' S A n l := Sls.turn h ht
theorem Lst.below {w w' : World} {A : Option Addr} {n : Nat} {l : List (List UInt8)} (h : Lst w (fun _ => False) A n l) (hb : Below w.heap.size w w') : Lst w' (fun _ => False) A n l := Sls.turn h (Turn.of_below hb)
theorem Lst.len {w : World} {S : Nat → Prop} {A : Option Addr} {n : Nat} {l : List (List UInt8)} (h : Lst w S A n l) : l.length = n := by have := h.1; rwa [bts_len] at this

set_option maxRecDepth 100000 in
set_option maxHeartbeats 2000000 in
theorem refLists_true (A A' : Option Addr) (n c c' : Nat) (l : List (List UInt8)) (S S' : Nat → Prop) (W : World) (h1 : Lst W S A n l) (h2 : Lst W S' A' n l) (hn : n ≤ 1000000) (hd : ∀ b ∈ l, b.length ≤ 1000000) :
    Calls Try.prog 16 #[.slice A n c, .slice A' n c'] W fun e W' => e = .returned (.bool true) ∧ ∃ q, W' = W.drewN q := by
  have H1 := Lib.hid h1
  have H2 := Lib.hid h2
  have HD := Lib.hid hd
  clear h1 h2 hd
  go_enter Try.func16, Try.ntmps16
  go_wp2_with fail
  go_loopw [5] (fun i wr => ∃ k q : Nat, k ≤ n ∧ i = .int .i64 k ∧ Hid (wr = W.drewN q)) (fun i _ => n - (intOf i).toNat)
  case atStart => exact ⟨0, 0, Nat.zero_le _, rfl, Lib.hid rfl⟩
  case round =>
    obtain ⟨k, q, hk, rfl, HW⟩ := hrel
    by_cases hlt : k < n
    · obtain ⟨b, hb⟩ : ∃ b, l[k]? = some b := ⟨_, List.getElem?_eq_getElem (by have := H1.out.len; omega)⟩
      have hdb := HD.out b (List.mem_of_getElem? hb)
      obtain ⟨g, o, A2, n2, c2, rfl, _, _, p0, hy, _⟩ := (H1.out.turn ((Turn.refl S W).drewN q)).at_ hb
      obtain ⟨g', o', A3, n3, c3, rfl, _, _, q0, hy', _⟩ := (H2.out.turn ((Turn.refl S' W).drewN q)).at_ hb
      rw [← HW.out] at p0 q0 hy hy'
      have hS := fun r => same_any A2 A3 n2 c2 n3 c3 b b wr.heap.size (wr.drewN r) ((hy.turn ((Turn.refl S wr).drewN r)).byt) ((hy'.turn ((Turn.refl S' wr).drewN r)).byt) (by have := hy.1; omega)
      simp only [decide_true] at hS
      clear hy hy' hb hdb
      have i1 : (k : Int) < (n : Int) := by omega
      have i0 : (0 : Int) ≤ (k : Int) := by omega
      go_wp2_with fail
      go_quiet ((go_at_call 10; exact Calls.quiet_of (hS _)))
      have HN : Hid (wr.drewN nq = W.drewN (q + nq)) := Lib.hid (by rw [HW.out]; simp [World.drewN]; omega)
      revert HN
      generalize wr.drewN nq = w5
      intro HN
      clear p0 q0 hS i0 i1
      go_wp2
      go_roundw
      case rel => exact ⟨k + 1, q + nq, by omega, by go_num, HN⟩
      case measure => simp [intOf]; omega
    · go_wp2
      go_ret
      exact ⟨rfl, q, HW.out⟩

end Go.Proofs.Ytnmibfncgoemfaa
