/-
  The law NameWords.
-/
import Derived.Test.YtcjpnhfbnckhhaaDoorNaW
import Derived.Test.YtcjpnhfbnckhhaaDoorNaN
namespace Go.Proofs.YtcjpnhfbnckhhaaDoor
open Go.RowKit
set_option linter.unusedVariables false
set_option linter.unusedSimpArgs false

theorem lineW_len (l : List UInt8) : (lineW l).length ≤ l.length + 1 := by
  have hc : ∀ l : List UInt8, (cutL l).length ≤ l.length + 1 := by
    intro l
    induction l with
    | nil => simp [cutL]
    | cons c r ih =>
      rw [cutL_cons]
      split
      · simp; omega
      · obtain ⟨w, ws, h⟩ := cutL_ne r
        rw [h] at ih ⊢
        simp [onHead] at ih ⊢
        omega
  unfold lineW
  by_cases h : l = []
  · subst h; simp [wordsL]
  · rw [wordsL_eq l h]
    split
    · exact hc l
    · simp

theorem lineE_of (l : List UInt8) : lineE l = if lineIs l then 0 else 2 := rfl

set_option maxRecDepth 100000 in
set_option maxHeartbeats 4000000 in
theorem nameWords_law (s : ByteArray) (W : World) (hs : s.size ≤ maxLen) (hM : MV W) :
    Calls Tryd.prog 4 #[.string s] W fun e W' => e = .returned (.bool true) ∧ Below W.heap.size W W' := by
  unfold maxLen at hs
  by_cases h300 : 300 < s.size
  · have d1 : decide ((300 : Int) < (s.size : Int)) = true := decide_eq_true (by omega)
    go_enter Tryd.func4, Tryd.ntmps4
    go_wp2_with fail
    refine (awake7_any _).mono ?_
    rintro e W1 ⟨rfl, hb1⟩
    go_wp2_with fail
    go_ret
    exact ⟨rfl, hb1⟩
  · have d1 : decide ((300 : Int) < (s.size : Int)) = false := decide_eq_false (by omega)
    have hlen : s.data.toList.length = s.size := by simp
    have hLL := lineW_len s.data.toList
    have hWd := fun w h => words_any s (by omega) w h
    have hRW := fun w => refWords_any s (by omega) w
    rw [lineE_of] at hWd
    have hnil : lineIs s.data.toList = false → lineW s.data.toList = [] := by
      intro h
      unfold lineIs at h
      unfold lineW
      cases hw : wordsL s.data.toList with
      | none => rfl
      | some x => rw [hw] at h; cases h
    generalize lineW s.data.toList = L at hLL hWd hRW hnil
    cases hi : lineIs s.data.toList
    · rw [hi] at hWd hRW hnil
      have hL0 := hnil rfl
      subst hL0
      clear hi hnil hlen hLL
      go_enter Tryd.func4, Tryd.ntmps4
      go_wp2_with fail
      refine (hWd _ hM).mono ?_
      rintro e W1 ⟨v1, rfl, A1, n1, c1, rfl, hv1, hb1⟩
      obtain rfl : n1 = 0 := hv1.1.symm
      go_wp2_with fail
      refine (hRW _).mono ?_
      rintro e W2 ⟨v2, rfl, A2, n2, c2, rfl, hv2, hb2⟩
      have hb12 := bthen hb1 hb2
      clear hv1 hv2 hb1 hb2 hWd hRW
      go_wp2_with fail
      refine (awake7_any _).mono ?_
      rintro e W3 ⟨rfl, hb3⟩
      go_wp2_with fail
      go_ret
      exact ⟨rfl, bthen hb12 hb3⟩
    · rw [hi] at hWd hRW
      clear hi hnil
      go_enter Tryd.func4, Tryd.ntmps4
      go_wp2_with fail
      refine (hWd _ hM).mono ?_
      rintro e W1 ⟨v1, rfl, A1, n1, c1, rfl, hv1, hb1⟩
      go_wp2_with fail
      refine (hRW _).mono ?_
      rintro e W2 ⟨v2, rfl, A2, n2, c2, rfl, hv2, hb2⟩
      have hb12 := bthen hb1 hb2
      have hv3 : Vals W2 W2.heap.size A1 n1 (wsV L) := (hv1.below hb2).more hb2.size
      have hn1 : n1 ≤ 10000 := by
        have h1 := hv1.1
        unfold wsV at h1
        rw [List.length_map] at h1
        omega
      clear hv1 hb1 hb2 hWd hRW hLL hlen
      go_wp2_with fail
      refine (texts_any A1 A2 n1 c1 n2 c2 L W2.heap.size W2 hv3 hv2 hn1).mono ?_
      rintro e W3 ⟨rfl, q, hq⟩
      have hb3 : Below W2.heap.size W2 W3 := by rw [hq]; exact below_drewN (Below.refl _ _) q
      clear hq hv3 hv2
      go_wp2_with fail
      refine (awake7_any _).mono ?_
      rintro e W4 ⟨rfl, hb4⟩
      go_wp2_with fail
      go_ret
      exact ⟨rfl, bthen (bthen hb12 hb3) hb4⟩

end Go.Proofs.YtcjpnhfbnckhhaaDoor
