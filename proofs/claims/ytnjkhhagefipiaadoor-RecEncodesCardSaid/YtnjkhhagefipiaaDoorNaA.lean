/-
  Package name: signs of names and digits, asked one by one; its reference's.
-/
import Derived.Test.YtnjkhhagefipiaaDoorNaM
import Derived.BigCall
import Derived.Shelf.Abstract
import Derived.BigGuard
namespace Go.Proofs.YtnjkhhagefipiaaDoor
open Go.RowKit
set_option linter.unusedVariables false
set_option linter.unusedSimpArgs false

set_option maxRecDepth 100000 in
theorem within_any (s : ByteArray) (n : Nat) (hs : s.size ≤ maxLen) (W : World) :
    Calls Tryd.prog 35 #[.string s, .int .i64 n] W fun e W' => e = .returned (.bool (decide (1 ≤ s.size) && decide (s.size ≤ n))) ∧ W' = W := by
  unfold maxLen at hs
  go_enter Tryd.func35, Tryd.ntmps35
  by_cases h1 : 0 < s.size
  · have h2 : decide ((0 : Int) < (s.size : Int)) = true := decide_eq_true (by omega)
    go_wp2
    go_ret
    refine ⟨?_, rfl⟩
    congr 2
    simp
    omega
  · have h2 : decide ((0 : Int) < (s.size : Int)) = false := decide_eq_false (by omega)
    go_wp2
    go_ret
    refine ⟨?_, rfl⟩
    congr 2
    simp
    omega

set_option maxRecDepth 100000 in
theorem isLetter_any (r : Int) (W : World) :
    Calls Tryd.prog 37 #[.int .i32 r] W fun e W' => e = .returned (.bool (letR r)) ∧ W' = W := by
  go_enter Tryd.func37, Tryd.ntmps37
  by_cases h1 : (97 : Int) ≤ r
  · have h2 : decide ((97 : Int) ≤ r) = true := by simpa using h1
    go_wp2
    go_ret
    exact ⟨by simp [letR] <;> omega, rfl⟩
  · have h2 : decide ((97 : Int) ≤ r) = false := by simpa using h1
    go_wp2
    go_ret
    exact ⟨by simp [letR] <;> omega, rfl⟩

set_option maxRecDepth 100000 in
theorem isDigit_any (r : Int) (W : World) :
    Calls Tryd.prog 47 #[.int .i32 r] W fun e W' => e = .returned (.bool (digR r)) ∧ W' = W := by
  go_enter Tryd.func47, Tryd.ntmps47
  by_cases h1 : (48 : Int) ≤ r
  · have h2 : decide ((48 : Int) ≤ r) = true := by simpa using h1
    go_wp2
    go_ret
    exact ⟨by simp [digR] <;> omega, rfl⟩
  · have h2 : decide ((48 : Int) ≤ r) = false := by simpa using h1
    go_wp2
    go_ret
    exact ⟨by simp [digR] <;> omega, rfl⟩

set_option maxRecDepth 100000 in
theorem isOfTenant_any (r : Int) (W : World) :
    Calls Tryd.prog 38 #[.int .i32 r] W fun e W' => e = .returned (.bool (tenR r)) ∧ W' = W := by
  go_enter Tryd.func38, Tryd.ntmps38
  go_wp2_with fail
  refine (isLetter_any r W).mono ?_
  rintro e W1 ⟨rfl, rfl⟩
  cases h1 : letR r
  · go_wp2_with fail
    refine (isDigit_any r _).mono ?_
    rintro e W2 ⟨rfl, rfl⟩
    cases h2 : digR r
    · go_wp2
      go_ret
      refine ⟨?_, rfl⟩
      simp [tenR, h1, h2]
      rfl
    · go_wp2
      go_ret
      exact ⟨by simp [tenR, h1, h2], rfl⟩
  · go_wp2
    go_ret
    exact ⟨by simp [tenR, h1], rfl⟩

set_option maxRecDepth 100000 in
set_option maxHeartbeats 2000000 in
/-- Each rune of a text is asked, up to the first one that is none of p's: of p only what is below 128 may be. -/
theorem only_any (f : FuncId) (p : Int → Bool) (hh : ∀ r : Int, 128 ≤ r → p r = false)
    (he : ∀ args w, (callFunc f args).run Tryd.prog w = .ok (.enter f args) w)
    (hp : ∀ (r : Nat) (w : World), r ≤ 1114111 → Calls Tryd.prog f #[.int .i32 ((r : Nat) : Int)] w fun e w' => e = .returned (.bool (p ((r : Nat) : Int))) ∧ Below w.heap.size w w')
    (s : ByteArray) (W : World) :
    Calls Tryd.prog 36 #[.string s, .func (.func f) #[] #[]] W fun e W' => e = .returned (.bool (allR p s.data.toList)) ∧ Below W.heap.size W W' := by
  go_enter Tryd.func36, Tryd.ntmps36
  go_wp2
  go_loopw [] (fun wr => ∃ pos : Nat, wr.heap[W.heap.size]? = some (.stringIter s pos) ∧ Below W.heap.size W wr ∧ allR p (s.data.toList.take pos) = true) (fun wr => s.size - wr.iterPos W.heap.size)
  case atStart =>
    refine ⟨0, ?_, (Below.refl _ W).alloc (Nat.le_refl _) _, by simp [allR]⟩
    have := World.iter_heap W s 0
    simpa using this
  case round =>
    obtain ⟨pos, hit, hbw, hall⟩ := hrel
    have hsz : W.heap.size < wr.heap.size := (Array.getElem?_eq_some_iff.1 hit).1
    by_cases hp' : pos < s.size
    · have hnx : ∀ ty, (Instr.next (.pointer (some ⟨W.heap.size, 0, none⟩)) true ty).run Tryd.prog wr = _ := fun ty => Lib.run_next_any_at wr W.heap.size s pos ty hit hp'
      have hmx := decode_max s pos
      have hit2 := Lib.iterAt_heap wr W.heap.size s pos (pos + (Utf8.decode s pos).2) hit
      have hbw2 := Lib.below_iterAt hbw (k := W.heap.size) (Nat.le_refl _) s (pos + (Utf8.decode s pos).2)
      have hsz2 : W.heap.size < (wr.iterAt W.heap.size s (pos + (Utf8.decode s pos).2)).heap.size := by rw [Lib.iterAt_size]; exact hsz
      have hby := byte_at s pos hp'
      by_cases ha : (s[pos]'hp').toNat < 128
      · have hd := decode_ascii s pos hp' ha
        rw [hd] at hnx hmx hit2 hbw2 hsz2
        dsimp only at hnx hmx hit2 hbw2 hsz2
        obtain ⟨x, hx⟩ : ∃ x, s[pos]'hp' = x := ⟨_, rfl⟩
        rw [hx] at hnx hmx hby ha
        clear hd hx
        have HA := allR_take p _ _ _ hby
        rw [hall] at HA
        have hfin : ∀ W1 : World, Below (wr.iterAt W.heap.size s (pos + 1)).heap.size (wr.iterAt W.heap.size s (pos + 1)) W1 → W1.heap[W.heap.size]? = some (.stringIter s (pos + 1)) ∧ Below W.heap.size W W1 := fun W1 hb1 =>
          ⟨by rw [hb1.block _ hsz2]; exact hit2, hbw2.trans (hb1.mono (Nat.le_of_lt hsz2))⟩
        cases hpx : p ((x.toNat : Nat) : Int)
        · have HF := Lib.hid (allR_out p _ _ _ hby hpx)
          clear HA hall
          go_wp2_with (go_at_fn f; refine (hp x.toNat _ hmx).mono ?_; rintro e W1 ⟨rfl, hb1⟩)
          go_ret
          exact ⟨by rw [HF.out]; rfl, (hfin _ hb1).2⟩
        · rw [hpx] at HA
          have HT := Lib.hid HA
          clear HA hall
          go_wp2_with (go_at_fn f; refine (hp x.toNat _ hmx).mono ?_; rintro e W1 ⟨rfl, hb1⟩)
          go_roundw
          case rel => exact ⟨pos + 1, (hfin _ hb1).1, (hfin _ hb1).2, by rw [HT.out]; rfl⟩
          case measure =>
            rw [iterPos_of (hfin _ hb1).1, iterPos_of hit]
            omega
      · have hd := decode_high s pos hp' (by omega)
        obtain ⟨r, hr⟩ : ∃ r, (Utf8.decode s pos).1 = r := ⟨_, rfl⟩
        obtain ⟨k, hk⟩ : ∃ k, (Utf8.decode s pos).2 = k := ⟨_, rfl⟩
        rw [hr] at hnx hmx hd
        rw [hk] at hnx hit2 hbw2 hsz2 hd
        have HF := Lib.hid (allR_out p _ _ _ hby (hh _ (by omega)))
        have hpr : p ((r : Nat) : Int) = false := hh _ (by omega)
        clear hr hk hall
        go_wp2_with (go_at_fn f; refine (hp r _ hmx).mono ?_; rintro e W1 ⟨rfl, hb1⟩)
        have hb3 : Below W.heap.size W W1 := hbw2.trans (hb1.mono (Nat.le_of_lt hsz2))
        go_wp2
        go_ret
        exact ⟨by rw [HF.out]; rfl, hb3⟩
    · have hnx : ∀ ty, (Instr.next (.pointer (some ⟨W.heap.size, 0, none⟩)) true ty).run Tryd.prog wr = _ := fun ty => Lib.run_next_end_at wr W.heap.size s pos ty hit hp'
      have HT := Lib.hid hall
      clear hall
      go_wp2
      go_ret
      refine ⟨?_, hbw⟩
      have := HT.out
      rw [List.take_of_length_le (by simp; omega)] at this
      rw [this]
      rfl

end Go.Proofs.YtnjkhhagefipiaaDoor
