/-
  The reference's disk: whether a call begins.
-/
import Derived.Test.YtnjkilmhphcocaaDkE
import Derived.IntWalk
namespace Go.Proofs.Ytnjkilmhphcocaa
open Go.RowKit
set_option linter.unusedVariables false
set_option linter.unusedSimpArgs false

/-- What stands behind the asking. -/
def BeginPost (S : Nat → Prop) (p : Nat) (b : Bool × Dk) (W : World) (e : Ending) (W' : World) : Prop := e = .returned (.bool b.1) ∧ RD W' S p b.2 ∧ Turn (fun k => k = p) W W'
theorem begin_down (m : Dk) (h : m.down = true) : beginD m = (false, m) := by unfold beginD; rw [h]; rfl
theorem begin_crash (m : Dk) (h : m.down = false) (ha : m.armed = true) (hl : m.left = 0) : beginD m = (false, crashD m.keep m) := by unfold beginD; rw [h, ha, hl]; rfl
theorem begin_armed (m : Dk) (h : m.down = false) (ha : m.armed = true) (hl : m.left ≠ 0) : beginD m = (true, ⟨m.files, m.cap, m.calls + 1, true, m.left - 1, m.keep, false⟩) := by
  unfold beginD
  rw [h, ha, decide_eq_false hl]
  rfl
theorem begin_free (m : Dk) (h : m.down = false) (ha : m.armed = false) : beginD m = (true, ⟨m.files, m.cap, m.calls + 1, false, m.left, m.keep, false⟩) := by
  unfold beginD
  rw [h, ha]
  rfl

theorem dkL_calls (m : Dk) (A : Option Addr) (n c : Nat) : (dkL m A n c).set 2 (.int .u64 (((m.calls : Nat) : Int) + 1)) = dkL ⟨m.files, m.cap, m.calls + 1, m.armed, m.left, m.keep, m.down⟩ A n c := by simp [dkL]
theorem dkL_left (m : Dk) (A : Option Addr) (n c : Nat) (h : m.left ≠ 0) : (dkL m A n c).set 4 (.int .u64 (((m.left : Nat) : Int) - 1)) = dkL ⟨m.files, m.cap, m.calls, m.armed, m.left - 1, m.keep, m.down⟩ A n c := by
  have : ((m.left : Nat) : Int) - 1 = ((m.left - 1 : Nat) : Int) := by omega
  rw [this]
  simp [dkL]

set_option maxRecDepth 100000 in
set_option maxHeartbeats 2000000 in
theorem rbegin_any (S : Nat → Prop) (p : Nat) (m : Dk) (W : World) (h : RD W S p m) (hG : GoodD m) (hcl : m.calls ≤ 1000000) (hlf : m.left < 18446744073709551616) :
    Calls Try.prog 30 #[.pointer (some ⟨p, 0, none⟩)] W (BeginPost S p (beginD m) W) := by
  have HR := Lib.hid h
  obtain ⟨A, n, c, hB, hF, hSp, hSo⟩ := h
  have HF := Lib.hid hF
  have HSO := Lib.hid (And.intro hSp hSo)
  have e6 : W.cell? ⟨p, 6, none⟩ = some (.bool m.down) := hB.cell 6
  have e3 : W.cell? ⟨p, 3, none⟩ = some (.bool m.armed) := hB.cell 3
  have e4 : W.cell? ⟨p, 4, none⟩ = some (.int .u64 ((m.left : Nat) : Int)) := hB.cell 4
  have e5 : W.cell? ⟨p, 5, none⟩ = some (.int .i64 m.keep) := hB.cell 5
  have e2 : W.cell? ⟨p, 2, none⟩ = some (.int .u64 ((m.calls : Nat) : Int)) := hB.cell 2
  have hfz := hB.frozen
  have HB := Lib.hid hB
  clear hB hF hSp hSo
  cases hd : m.down
  · rw [hd] at e6
    cases ha : m.armed
    · rw [ha] at e3
      have HE := Lib.hid (begin_free m hd ha)
      have HD := Lib.hid (And.intro hd ha)
      obtain ⟨C, hC⟩ : ∃ C : Nat, m.calls = C := ⟨_, rfl⟩
      rw [hC] at e2 hcl
      have HC := Lib.hid hC
      clear hd ha hC e4 e5
      go_enter Try.func30, Try.ntmps30
      go_wp2_with fail
      go_ret
      obtain ⟨hSp, hSo⟩ := HSO.out
      have ht : Turn (fun k => k = p) W (W.setCell ⟨p, 2, none⟩ (.int .u64 ((C : Int) + 1))) := (Turn.refl (fun k => k = p) W).setCell (p := ⟨p, 2, none⟩) rfl _
      have hBf := HB.out.set 2 (.int .u64 ((C : Int) + 1))
      rw [← HC.out, dkL_calls, HD.out.1, HD.out.2, HC.out] at hBf
      rw [HE.out, HC.out]
      exact ⟨rfl, ⟨A, n, c, hBf, HF.out.turn (ht.mono fun k hk => by rw [hk]; exact hSp), hSp, fun k hk => Nat.lt_of_lt_of_le (hSo k hk) ht.size⟩, ht⟩
    · rw [ha] at e3
      by_cases hl : m.left = 0
      · rw [hl] at e4
        have HE := Lib.hid (begin_crash m hd ha hl)
        have hCr := rcrash_any S p m m.keep W HR.out hG
        clear hd ha hl e2 hcl hlf
        go_enter Try.func30, Try.ntmps30
        go_wp2_with fail
        refine hCr.mono ?_
        rintro e W1 ⟨rfl, hr1, ht1⟩
        have HX := Lib.hid (And.intro hr1 ht1)
        clear hCr hr1 ht1 e3 e4 e5 e6 hfz
        go_wp2_with fail
        go_ret
        rw [HE.out]
        exact ⟨rfl, HX.out.1, HX.out.2⟩
      · have HE := Lib.hid (begin_armed m hd ha hl)
        have HD := Lib.hid (And.intro hd (And.intro ha hl))
        obtain ⟨C, hC⟩ : ∃ C : Nat, m.calls = C := ⟨_, rfl⟩
        obtain ⟨L, hL⟩ : ∃ L : Nat, m.left = L := ⟨_, rfl⟩
        rw [hC] at e2 hcl
        rw [hL] at e4 hlf hl
        have HC := Lib.hid hC
        have HL := Lib.hid hL
        have hw : IntKind.u64.wrap ((L : Int) - 1) = (L : Int) - 1 := IntWalk.u64_in _ ⟨by omega, by omega⟩
        have d4 : (((L : Nat) : Int) == 0) = false := by simp; omega
        clear hd ha hC hL e5 hl hlf
        go_enter Try.func30, Try.ntmps30
        go_wp2_with fail
        go_ret
        obtain ⟨hSp, hSo⟩ := HSO.out
        have ht : Turn (fun k => k = p) W ((W.setCell ⟨p, 4, none⟩ (.int .u64 ((L : Int) - 1))).setCell ⟨p, 2, none⟩ (.int .u64 ((C : Int) + 1))) := ((Turn.refl (fun k => k = p) W).setCell (p := ⟨p, 4, none⟩) rfl _).setCell (p := ⟨p, 2, none⟩) rfl _
        have hB1 := HB.out.set 4 (.int .u64 ((L : Int) - 1))
        rw [← HL.out, dkL_left _ _ _ _ HD.out.2.2, HL.out] at hB1
        have hBf := hB1.set 2 (.int .u64 ((C : Int) + 1))
        have e9 : (dkL ⟨m.files, m.cap, m.calls, m.armed, L - 1, m.keep, m.down⟩ A n c).set 2 (.int .u64 ((C : Int) + 1)) = dkL ⟨m.files, m.cap, C + 1, true, L - 1, m.keep, false⟩ A n c := by
          have := dkL_calls ⟨m.files, m.cap, m.calls, m.armed, L - 1, m.keep, m.down⟩ A n c
          rw [HC.out, HD.out.1, HD.out.2.1] at this
          rw [HC.out, HD.out.1, HD.out.2.1]
          exact this
        rw [e9] at hBf
        rw [HE.out, HC.out, HL.out]
        exact ⟨rfl, ⟨A, n, c, hBf, HF.out.turn (ht.mono fun k hk => by rw [hk]; exact hSp), hSp, fun k hk => Nat.lt_of_lt_of_le (hSo k hk) ht.size⟩, ht⟩
  · rw [hd] at e6
    have HE := Lib.hid (begin_down m hd)
    clear hd
    go_enter Try.func30, Try.ntmps30
    go_wp2_with fail
    go_ret
    rw [HE.out]
    exact ⟨rfl, HR.out, Turn.refl _ _⟩

end Go.Proofs.Ytnjkilmhphcocaa
