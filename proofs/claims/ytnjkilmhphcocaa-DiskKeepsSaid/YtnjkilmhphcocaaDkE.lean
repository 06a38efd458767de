/-
  The reference's disk: a crash; whether a call begins.
-/
import Derived.Test.YtnjkilmhphcocaaDkD
import Derived.Test.YtnjkilmhphcocaaDkC
namespace Go.Proofs.Ytnjkilmhphcocaa
open Go.RowKit
set_option linter.unusedVariables false
set_option linter.unusedSimpArgs false

/-- A disk. -/
structure Dk where
  files : List Fl
  cap : Int
  calls : Nat
  armed : Bool
  left : Nat
  keep : Int
  down : Bool
/-- Few files, of few bytes, no more sure than there are. -/
def GoodD (m : Dk) : Prop := m.files.length ≤ 2000 ∧ sizeF m.files ≤ 100000 ∧ ∀ f ∈ m.files, f.sure ≤ f.data.length
def crashD (keep : Int) (m : Dk) : Dk := ⟨m.files.map (cutF keep), m.cap, m.calls, false, m.left, m.keep, true⟩
/-- The cells of the reference's disk. -/
def dkL (m : Dk) (A : Option Addr) (n c : Nat) : List Value := [.slice A n c, .int .i64 m.cap, .int .u64 ((m.calls : Nat) : Int), .bool m.armed, .int .u64 ((m.left : Nat) : Int), .int .i64 m.keep, .bool m.down]
/-- Block p is the reference's disk m, its files off S, which was there. -/
def RD (w : World) (S : Nat → Prop) (p : Nat) (m : Dk) : Prop :=
  ∃ A n c, Blk w p 31 (dkL m A n c) ∧ Fls w S A n m.files ∧ S p ∧ ∀ k, S k → k < w.heap.size
theorem RD.turn {w w' : World} {S S' : Nat → Prop} {p : Nat} {m : Dk} (h : RD w S p m) (ht : Turn S' w w') (hs : ∀ k, S' k → S k) (hp : ¬ S' p) : RD w' S p m := by
  obtain ⟨A, n, c, h1, h2, h3, h4⟩ := h
  exact ⟨A, n, c, ht.blk h1 hp, h2.turn (ht.mono hs), h3, fun k hk => Nat.lt_of_lt_of_le (h4 k hk) ht.size⟩

theorem mem_size (l : List Fl) (f : Fl) (h : f ∈ l) : f.data.length ≤ sizeF l := by
  induction l with
  | nil => cases h
  | cons g r ih =>
    have e : sizeF (g :: r) = g.data.length + sizeF r := by simp [sizeF]
    rcases List.mem_cons.1 h with rfl | h
    · omega
    · have := ih h
      omega

set_option maxRecDepth 100000 in
set_option maxHeartbeats 2000000 in
theorem rcrash_any (S : Nat → Prop) (p : Nat) (m : Dk) (keep : Int) (W : World) (h : RD W S p m) (hG : GoodD m) :
    Calls Try.prog 29 #[.pointer (some ⟨p, 0, none⟩), .int .i64 keep] W fun e W' => e = .returned (.tuple #[]) ∧ RD W' S p (crashD keep m) ∧ Turn (fun k => k = p) W W' := by
  obtain ⟨A, n, c, hB, hF, hSp, hSo⟩ := h
  have hnl := hF.1
  have hn : n ≤ 2000 := by have := hG.1; omega
  have hC := cut_any A n c m.files keep (fun k => S k ∨ W.heap.size ≤ k) W (hF.more fun k hk hl => by
    rcases hk with h | h
    · exact h
    · omega) (fun k hk => .inr hk) (by omega) (fun f hf => ⟨hG.2.2 f hf, by have h1 := mem_size m.files f hf; have h2 := hG.2.1; omega⟩)
  have hc0 : W.cell? ⟨p, 0, none⟩ = some (.slice A n c) := hB.cell 0
  have hlt := hB.lt
  have HBL := Lib.hid hB
  have HSO := Lib.hid (And.intro hSp hSo)
  clear hF hnl hSp hSo hB
  go_enter Try.func29, Try.ntmps29
  go_wp2_with fail
  refine hC.mono ?_
  rintro e W1 ⟨v, xs, rfl, hown, hx, hb⟩
  obtain ⟨A1, c1, rfl, hn1, hl1, hm1⟩ := own_formk hown
  have hB1 := HBL.out.below hb hlt
  have hF1 : Fls W1 S A1 (m.files.map (cutF keep)).length (m.files.map (cutF keep)) := Fls.of_own hown (hx.less fun k hk => .inl hk) HSO.out.2
  have e0 : W1.cell? ⟨p, 0, none⟩ = some (.slice A n c) := hB1.cell 0
  have e3 : W1.cell? ⟨p, 3, none⟩ = some (.bool m.armed) := hB1.cell 3
  have e6 : W1.cell? ⟨p, 6, none⟩ = some (.bool m.down) := hB1.cell 6
  have hfz := hB1.frozen
  have HH := Lib.hid (And.intro hB1 (And.intro hF1 hb))
  clear hC hown hx hn1 hl1 hm1 hB1 hF1 hb hc0
  go_wp2_with fail
  go_end0
  obtain ⟨hB1, hF1, hb⟩ := HH.out
  obtain ⟨hSp, hSo⟩ := HSO.out
  have ht : Turn (fun k => k = p) W1 (((W1.setCell ⟨p, 0, none⟩ (.slice A1 m.files.length c1)).setCell ⟨p, 3, none⟩ (.bool false)).setCell ⟨p, 6, none⟩ (.bool true)) :=
    (((Turn.refl (fun k => k = p) W1).setCell (p := ⟨p, 0, none⟩) rfl _).setCell (p := ⟨p, 3, none⟩) rfl _).setCell (p := ⟨p, 6, none⟩) rfl _
  have hBf := ((hB1.set 0 (.slice A1 m.files.length c1)).set 3 (.bool false)).set 6 (.bool true)
  rw [List.length_map] at hF1
  refine ⟨rfl, ⟨A1, m.files.length, c1, hBf, hF1.turn (ht.mono fun k hk => by rw [hk]; exact hSp), hSp, fun k hk => ?_⟩, (Turn.of_below hb).trans ht⟩
  exact Nat.lt_of_lt_of_le (Nat.lt_of_lt_of_le (hSo k hk) hb.size) ht.size

theorem crash_good (keep : Int) (m : Dk) (h : GoodD m) : GoodD (crashD keep m) := by
  refine ⟨by show (m.files.map _).length ≤ _; rw [List.length_map]; exact h.1, ?_, ?_⟩
  · refine Nat.le_trans ?_ h.2.1
    show sizeF (m.files.map (cutF keep)) ≤ sizeF m.files
    generalize m.files = l
    induction l with
    | nil => exact Nat.le_refl _
    | cons f r ih =>
      have e1 : sizeF (f :: r) = f.data.length + sizeF r := by simp [sizeF]
      have e2 : sizeF ((f :: r).map (cutF keep)) = (cutF keep f).data.length + sizeF (r.map (cutF keep)) := by simp [sizeF]
      have e3 : (cutF keep f).data.length ≤ f.data.length := by
        show (f.data.take _).length ≤ _
        rw [List.length_take]
        omega
      omega
  · intro g hg
    obtain ⟨f, hf, rfl⟩ := List.mem_map.1 hg
    show leftF keep f ≤ (f.data.take (leftF keep f)).length
    rw [List.length_take]
    unfold leftF
    omega

/-- Whether a call begins, and how the disk stands then. -/
def beginD (m : Dk) : Bool × Dk :=
  if m.down then (false, m) else if m.armed && decide (m.left = 0) then (false, crashD m.keep m) else (true, ⟨m.files, m.cap, m.calls + 1, m.armed, if m.armed then m.left - 1 else m.left, m.keep, m.down⟩)

end Go.Proofs.Ytnjkilmhphcocaa
