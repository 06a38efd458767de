/-
  The reference's disk: what a step keeps in order; Same of files.
-/
import Derived.Test.YtnjkilmhphcocaaDkP
import Derived.Test.YtnjkilmhphcocaaDkR
import Derived.BigQuiet
namespace Go.Proofs.Ytnjkilmhphcocaa
open Go.RowKit
set_option linter.unusedVariables false
set_option linter.unusedSimpArgs false

theorem crash_srt (keep : Int) (m : Dk) (h : SrtF m.files) : SrtF (crashD keep m).files := srt_map (cutF keep) m.files (fun f => rfl) h
theorem begin_srt (m : Dk) (h : SrtF m.files) : SrtF (beginD m).2.files := by
  unfold beginD
  split
  · exact h
  · split
    · exact crash_srt _ m h
    · exact h
theorem call_srt (m : Dk) (s : Sp) (h : SrtF m.files) : SrtF (callD m s).2.files := by
  unfold callD
  split
  · exact h
  split
  · split
    · exact h
    split
    · exact h
    · exact srt_with _ _ false h (fun h => by cases h)
  split
  · exact h
  split
  · exact srt_with _ _ false h (fun h => by cases h)
  split
  · exact srt_with _ _ false (srt_without _ _ h) (fun h => by cases h)
  · exact srt_without _ _ h
theorem do_srt (m : Dk) (s : Sp) (h : SrtF m.files) : SrtF (doD m s).2.files := by
  unfold doD
  split
  · exact h
  split
  · exact crash_srt _ m h
  split
  · exact h
  split
  · exact h
  split
  · exact call_srt _ s (begin_srt m h)
  · exact begin_srt m h

set_option maxRecDepth 100000 in
set_option maxHeartbeats 2000000 in
/-- Two slices that read as the same files. -/
theorem same9_any (A B : Option Addr) (n c d : Nat) (fs : List Fl) (S S' : Nat → Prop) (W : World) (h1 : Fls W S A n fs) (h2 : Fls W S' B n fs) (hn : n ≤ 1000000) (hd : ∀ f ∈ fs, f.data.length ≤ 1000000) :
    Calls Try.prog 14 #[.slice A n c, .slice B n d] W fun e W' => e = .returned (.bool true) ∧ ∃ q, W' = W.drewN q := by
  have H1 := Lib.hid h1
  have H2 := Lib.hid h2
  have HD := Lib.hid hd
  clear h1 h2 hd
  go_enter Try.func14, Try.ntmps14
  go_wp2_with fail
  go_loopw [5] (fun i wr => ∃ k q : Nat, k ≤ n ∧ i = .int .i64 k ∧ Hid (wr = W.drewN q)) (fun i _ => n - (intOf i).toNat)
  case atStart => exact ⟨0, 0, Nat.zero_le _, rfl, Lib.hid rfl⟩
  case round =>
    obtain ⟨k, q, hk, rfl, HW⟩ := hrel
    by_cases hlt : k < n
    · obtain ⟨f, hf⟩ : ∃ f, fs[k]? = some f := ⟨_, List.getElem?_eq_getElem (by have := H1.out.1; omega)⟩
      have hdf := HD.out f (List.mem_of_getElem? hf)
      obtain ⟨b, o, rfl, _, hfa⟩ := (H1.out.turn ((Turn.refl S W).drewN q)).2 (by omega)
      obtain ⟨y0, y1, y2, p0, p1, p2, hv⟩ := hfa k f hf
      obtain ⟨b', o', rfl, _, hfa'⟩ := (H2.out.turn ((Turn.refl S' W).drewN q)).2 (by omega)
      obtain ⟨z0, z1, z2, q0, q1, q2, hv'⟩ := hfa' k f hf
      rw [← HW.out] at p0 p1 p2 q0 q1 q2 hv hv'
      obtain ⟨A2, n2, c2, rfl, rfl, rfl, hby, _⟩ := fl_parts hv
      obtain ⟨A3, n3, c3, rfl, rfl, rfl, hby', _⟩ := fl_parts hv'
      have hS := fun r => same_any A2 A3 n2 c2 n3 c3 f.data f.data wr.heap.size (wr.drewN r) ((hby.turn ((Turn.refl S wr).drewN r)).byt) ((hby'.turn ((Turn.refl S' wr).drewN r)).byt) (by have := hby.1; omega)
      simp only [decide_true] at hS
      clear hfa hfa' hv hv' hby hby' hf hdf
      have i1 : (k : Int) < (n : Int) := by omega
      have i0 : (0 : Int) ≤ (k : Int) := by omega
      go_wp2_with fail
      go_quiet ((go_at_call 13; exact Calls.quiet_of (hS _)))
      have HN : Hid (wr.drewN nq = W.drewN (q + nq)) := Lib.hid (by rw [HW.out]; simp [World.drewN]; omega)
      revert HN
      generalize wr.drewN nq = w5
      intro HN
      clear p0 p1 p2 q0 q1 q2 hS i0 i1
      go_wp2
      go_roundw
      case rel => exact ⟨k + 1, q + nq, by omega, by go_num, HN⟩
      case measure => simp [intOf]; omega
    · go_wp2
      go_ret
      exact ⟨rfl, q, HW.out⟩

end Go.Proofs.Ytnjkilmhphcocaa
