/-
  A commit on a disk: what it answers, and what it leaves. No program stands here.
-/
import Derived.Test.YthjikbhjciphiaaGreatDoorZz25
import Derived.Test.YthjikbhjciphiaaGreatDoorZz22
import Derived.Deep.AppendLies
import Derived.Deep.RegionHeld3
import Derived.Deep.RegionLaw
import Derived.Deep.CutRange
import Derived.BigQuiet
import Derived.Test.YthjikbhjciphiaaGreatDoorZz16
import Derived.ChangeArms
import Derived.Test.YthjikbhjciphiaaGreatDoorZz8
namespace Go.Proofs.YthjikbhjciphiaaGreatDoor
open Go.RowKit
set_option linter.unusedVariables false
set_option linter.unusedSimpArgs false

theorem hex_tar (k n : Nat) : allR tarR (hexL k n) = true := by
  induction k with
  | zero => rfl
  | succ k ih =>
    have h := (hd_ten ⟨n / 16 ^ k % 16, Nat.mod_lt _ (by decide)⟩).2
    unfold allR at ih ⊢
    show (_ && _) = true
    rw [Bool.and_eq_true]
    exact ⟨h, ih⟩
/-- A segment's name may be a file's. -/
theorem target_name (n : Nat) : targetB (nameL n) = true := by
  have h := hex_tar 16 n
  unfold targetB
  rw [nameL_len]
  unfold nameL
  unfold allR at h ⊢
  rw [List.all_cons, h]
  rfl
theorem begin_cases (m : Dk) (h : m.down = false) : (beginD m = (false, crashD m.keep m) ∧ m.armed = true) ∨ ∃ m1 : Dk, beginD m = (true, m1) ∧ m1.files = m.files ∧ m1.cap = m.cap ∧ m1.down = false ∧ m1.armed = m.armed := by
  unfold beginD
  rw [h]
  by_cases hc : (m.armed && decide (m.left = 0)) = true
  · left
    rw [if_neg (by decide), if_pos hc]
    exact ⟨rfl, by rw [Bool.and_eq_true] at hc; exact hc.1⟩
  · right
    rw [if_neg (by decide), if_neg hc]
    exact ⟨_, rfl, rfl, rfl, rfl, rfl⟩
/-- An Append to a disk that is up. -/
theorem do_append (m : Dk) (h : m.down = false) (name data : List UInt8) (ht : targetB name = true) (hf : m.files.length < 1024) :
    (doD m ⟨1, name, [], data, 0, 0⟩ = (19, crashD m.keep m) ∧ m.armed = true) ∨
    (∃ m1 : Dk, doD m ⟨1, name, [], data, 0, 0⟩ = (10, m1) ∧ m1.files = m.files ∧ m1.cap = m.cap ∧ m1.down = false ∧ m1.armed = m.armed ∧ m.cap - sizeF m.files < (data.length : Int)) ∨
    (∃ m1 : Dk, doD m ⟨1, name, [], data, 0, 0⟩ = (0, m1) ∧ m1.files = withF ⟨name, (fileF name m.files).data ++ data, (fileF name m.files).sure⟩ false m.files ∧ m1.cap = m.cap ∧ m1.down = false ∧ m1.armed = m.armed ∧ ¬ m.cap - sizeF m.files < (data.length : Int)) := by
  have e : doD m ⟨1, name, [], data, 0, 0⟩ = if (beginD m).1 then callD (beginD m).2 ⟨1, name, [], data, 0, 0⟩ else (19, (beginD m).2) := by
    unfold doD isCall
    simp
  rw [e]
  rcases begin_cases m h with ⟨hb, harm⟩ | ⟨m1, hb, h1, h2, h3, h4⟩
  · left
    rw [hb]
    exact ⟨rfl, harm⟩
  · right
    rw [hb]
    have e3 : (if (true, m1).1 then callD (true, m1).2 ⟨1, name, [], data, 0, 0⟩ else (19, (true, m1).2)) = callD m1 ⟨1, name, [], data, 0, 0⟩ := rfl
    rw [e3]
    unfold callD
    rw [ht, h1, h2]
    simp only [Bool.not_true, Bool.false_or]
    rw [if_neg (by simp)]
    first | rw [if_pos rfl] | rw [if_pos trivial]
    rw [decide_eq_false (show ¬ 1024 ≤ m.files.length by omega), Bool.and_false, if_neg (by decide)]
    by_cases hr : m.cap - (sizeF m.files : Int) < (data.length : Int)
    · left
      rw [if_pos hr]
      exact ⟨m1, rfl, h1, h2, h3, h4, hr⟩
    · right
      rw [if_neg hr]
      exact ⟨_, rfl, rfl, h2, h3, h4, hr⟩
/-- A Sync of a file that is there. -/
theorem do_sync (m : Dk) (h : m.down = false) (name : List UInt8) (ht : targetB name = true) (hf : (lookF name m.files).isSome = true) :
    (doD m ⟨2, name, [], [], 0, 0⟩ = (19, crashD m.keep m) ∧ m.armed = true) ∨
    ∃ m1 : Dk, doD m ⟨2, name, [], [], 0, 0⟩ = (0, m1) ∧ m1.files = withF ⟨name, (fileF name m.files).data, (fileF name m.files).data.length⟩ false m.files ∧ m1.cap = m.cap ∧ m1.down = false ∧ m1.armed = m.armed := by
  have e : doD m ⟨2, name, [], [], 0, 0⟩ = if (beginD m).1 then callD (beginD m).2 ⟨2, name, [], [], 0, 0⟩ else (19, (beginD m).2) := by
    unfold doD isCall
    simp
  rw [e]
  rcases begin_cases m h with ⟨hb, harm⟩ | ⟨m1, hb, h1, h2, h3, h4⟩
  · left
    rw [hb]
    exact ⟨rfl, harm⟩
  · right
    rw [hb]
    have e3 : (if (true, m1).1 then callD (true, m1).2 ⟨2, name, [], [], 0, 0⟩ else (19, (true, m1).2)) = callD m1 ⟨2, name, [], [], 0, 0⟩ := rfl
    rw [e3]
    unfold callD
    rw [ht, h1, hf]
    simp only [Bool.not_true, Bool.false_or]
    rw [if_neg (by simp), if_neg (by decide), if_neg (by decide)]
    first | rw [if_pos rfl] | rw [if_pos trivial]
    exact ⟨_, rfl, rfl, h2, h3, h4⟩

/-- A commit of records to a segment: the disk's answer, and the disk behind it. -/
def commitD (m : Dk) (own : Nat) (new : List Rc) : Int × Dk :=
  if new = [] then (0, m)
  else if (doD m ⟨1, nameL own, [], segB new, 0, 0⟩).1 ≠ 0 then doD m ⟨1, nameL own, [], segB new, 0, 0⟩
  else doD (doD m ⟨1, nameL own, [], segB new, 0, 0⟩).2 ⟨2, nameL own, [], [], 0, 0⟩

theorem look_last (own : Nat) (h : own < 9223372036854775808) (l : List Fl) (f : Fl) (hl : ∀ g ∈ l, g.name ≠ nameL own) (hf : f.name = nameL own) : lookF (nameL own) (l ++ [f]) = some f := by
  rw [lookF_behind _ _ _ hl]
  unfold lookF
  rw [List.find?_cons, decide_eq_true hf]

/-- How many calls there were, what else stands. -/
def OkX (k : Nat) (m : Dk) : Prop := m.calls ≤ k ∧ m.left < 18446744073709551616 ∧ 0 ≤ m.cap ∧ m.cap < 9223372036854775808
theorem OkX.begins {k : Nat} {m : Dk} (h : OkX k m) : OkX (k + 1) (beginD m).2 := by
  obtain ⟨h1, h2, h3⟩ := h
  unfold beginD
  split
  · exact ⟨by show m.calls ≤ _; omega, h2, h3⟩
  · split
    · exact ⟨by show m.calls ≤ _; omega, h2, h3⟩
    · exact ⟨by show m.calls + 1 ≤ _; omega, by show (if m.armed = true then m.left - 1 else m.left) < _; split <;> omega, h3⟩
theorem OkX.calls {k : Nat} {m : Dk} (s : Sp) (h : OkX k m) : OkX k (callD m s).2 := by
  unfold callD
  split
  · exact h
  split
  · split
    · exact h
    split <;> exact h
  split
  · exact h
  split
  · exact h
  split <;> exact h
theorem OkX.does {k : Nat} {m : Dk} (s : Sp) (h : OkX k m) (hk : isCall s = true) : OkX (k + 1) (doD m s).2 := by
  have e : doD m s = if (beginD m).1 then callD (beginD m).2 s else (19, (beginD m).2) := by
    have h5 : s.kind ≠ 5 ∧ s.kind ≠ 6 ∧ s.kind ≠ 7 := by
      unfold isCall at hk
      rw [Bool.and_eq_true, decide_eq_true_eq, decide_eq_true_eq] at hk
      exact ⟨by omega, by omega, by omega⟩
    unfold doD
    rw [if_neg h5.1, if_neg h5.2.1, if_neg h5.2.2, hk]
    rfl
  rw [e]
  split
  · exact h.begins.calls s
  · exact h.begins
theorem OkX.commit {k : Nat} {m : Dk} (own : Nat) (new : List Rc) (h : OkX k m) : OkX (k + 2) (commitD m own new).2 := by
  have hm : ∀ {a b : Nat} {x : Dk}, OkX a x → a ≤ b → OkX b x := fun hx hab => ⟨Nat.le_trans hx.1 hab, hx.2⟩
  unfold commitD
  split
  · exact hm h (by omega)
  split
  · exact hm (h.does _ rfl) (by omega)
  · exact (h.does _ rfl).does _ rfl

/-- What a commit does. -/
theorem commit_does {m : Dk} {own : Nat} {pre : List (Nat × List UInt8)} {R0 cur : List Rc} (h : HeldJ m.files own pre R0 cur) (hd : m.down = false) (hf : m.files.length < 1024) (new : List Rc) (hn : new ≠ []) :
    ((commitD m own new).1 = 0 ∧ (commitD m own new).2.down = false ∧ (commitD m own new).2.cap = m.cap ∧ (commitD m own new).2.armed = m.armed ∧ (commitD m own new).2.files = pre.map sgF ++ [sgF (own, segB (cur ++ new))] ∧ ¬ m.cap - sizeF m.files < ((segB new).length : Int)) ∨
    ((commitD m own new).1 = 10 ∧ (commitD m own new).2.down = false ∧ (commitD m own new).2.cap = m.cap ∧ (commitD m own new).2.armed = m.armed ∧ (commitD m own new).2.files = m.files ∧ m.cap - sizeF m.files < ((segB new).length : Int)) ∨
    ((commitD m own new).1 = 19 ∧ m.armed = true ∧ (commitD m own new).2.down = true ∧ (commitD m own new).2.cap = m.cap ∧ ((commitD m own new).2.files = m.files ∨ ∃ keep, (commitD m own new).2.files = (pre.map sgF ++ [(⟨nameL own, segB (cur ++ new), (segB cur).length⟩ : Fl)]).map (cutF keep))) := by
  have hsm := h.small
  have hs : (fileF (nameL own) m.files).sure = (segB cur).length := by
    unfold fileF
    rw [h.files, lookF_behind _ _ _ fun g hg => (h.ahead g hg).2]
    by_cases hc : cur = []
    · rw [if_pos hc, hc]; rfl
    · rw [if_neg hc]
      unfold lookF
      rw [List.find?_cons, decide_eq_true (show (sgF (own, segB cur)).name = nameL own from rfl)]
      rfl
  unfold commitD
  rw [if_neg hn]
  rcases do_append m hd (nameL own) (segB new) (target_name own) hf with ⟨ha, harm⟩ | ⟨m1, ha, h1, h2, h3, h5, h4⟩ | ⟨m1, ha, h1, h2, h3, h5, h4⟩
  · right; right
    rw [ha]
    refine ⟨rfl, harm, rfl, rfl, .inl ?_⟩
    show m.files.map (cutF m.keep) = m.files
    exact h.crash m.keep
  · right; left
    rw [ha]
    exact ⟨rfl, h3, h2, h5, h1, h4⟩
  · rw [hs, h.append new] at h1
    rw [ha]
    rw [if_neg (by simp)]
    have hahead : ∀ g ∈ pre.map sgF, Op.bytesLess g.name (nameL own) = true ∧ g.name ≠ nameL own := h.ahead
    have hlk := look_last own hsm (pre.map sgF) ⟨nameL own, segB (cur ++ new), (segB cur).length⟩ (fun g hg => (hahead g hg).2) rfl
    rcases do_sync m1 h3 (nameL own) (target_name own) (by rw [h1, hlk]; rfl) with ⟨hb, harm⟩ | ⟨m2, hb, k1, k2, k3, k4⟩
    · right; right
      rw [hb]
      refine ⟨rfl, h5.symm.trans harm, rfl, h2, .inr ⟨m1.keep, ?_⟩⟩
      show m1.files.map (cutF m1.keep) = _
      rw [h1]
    · left
      rw [hb]
      refine ⟨rfl, k3, k2.trans h2, k4.trans h5, ?_, h4⟩
      show m2.files = _
      rw [k1]
      have e : fileF (nameL own) m1.files = ⟨nameL own, segB (cur ++ new), (segB cur).length⟩ := by
        unfold fileF
        rw [h1, hlk]
        rfl
      rw [e, h1, withF_behind _ _ _ hahead, withF_last ⟨nameL own, segB (cur ++ new), (segB (cur ++ new)).length⟩ ⟨nameL own, segB (cur ++ new), (segB cur).length⟩ rfl (less_self own (by omega))]
      rfl

end Go.Proofs.YthjikbhjciphiaaGreatDoor

/-
  The reference's disk: Append. Made by wip/tools/gendkj.py.
-/
namespace Go.Proofs.YthjikbhjciphiaaGreatDoor
open Go.RowKit
set_option linter.unusedVariables false
set_option linter.unusedSimpArgs false

theorem step_append_byt {P : Program} {w : World} {ops : Array Oper} {o : Oper} {a : Act} {K : Act → World → Prop} {Q : Exit → Act → World → Prop} {E : Prop} (hgd : o.guard = none) (s x : Operand) (t : TypeId)
    (ho : o.op = .call { callee := .builtin .append, args := #[s, x], argTypes := #[t, t] })
    (base : Nat) (e : TypeId) (i : TypeInfo) (z : Value) (ht : P.underlying t = some (.slice e)) (hi : P.info? e = some i) (hz : i.zero = some z)
    (hsize : i.size = 1) (hby : i.bytes = 1) (hzs : z.cells.size = 1)
    (v : Value) (n : Nat) (xs : List Value) (hs : a.eval s = v) (hown : w.ownsRow base e 1 v n xs)
    (B : Nat) (A : Option Addr) (m c : Nat) (l : List UInt8) (hx : a.eval x = .slice A m c) (hr : Byt w B A m l) (hnil : A = none → c = 0)
    (h47 : n + m ≤ 140737488355328) (hbase : base ≤ w.heap.size)
    (h : ∀ v' w', w'.ownsRow base e 1 v' (n + m) (xs ++ l.map bv) → w.grownBy w' v.ownBlock → K (a.put o.dst v') w') :
    if Region.wanted o (yielded ops a.tmps) = true then Oper.wp P o a w K Q else E := by
  have hw : Region.wanted o (yielded ops a.tmps) = true := by simp [Region.wanted, hgd]
  rw [if_pos hw]
  obtain ⟨v', w', hr, h2, h3⟩ := run_append_byt (P := P) w base t o.type e i z ht hi hz hsize hby hzs v n xs hown B A m c l hr hnil h47 hbase
  unfold Oper.wp execOp
  simp only [ho, resolve, invoke, builtin, Sem.run_bind, Sem.run_pure, Result.andThen_ok, List.map_toArray, List.map_cons, List.map_nil, hs, hx, hr]
  exact h v' w' h2 h3

theorem BytS.of_own {w : World} {base : Nat} {e : TypeId} {A : Option Addr} {n c : Nat} {l : List UInt8} {S : Nat → Prop} (h : w.ownsRow base e 1 (.slice A n c) n (l.map bv)) (hS : ∀ k, S k → k < base) : BytS w S A n l := by
  refine ⟨by have := h.1; simpa using this, fun hn => ?_⟩
  rcases h.2 with ⟨_, h0⟩ | ⟨g, cap, cur, hv, hg, hh, _⟩
  · omega
  · injection hv with hA
    subst hA
    refine ⟨g, 0, rfl, fun x => by have := hS g x; omega, fun j x hx => ?_⟩
    have := h.cells (g := g) rfl j (bv x) (by rw [List.getElem?_map, hx]; rfl)
    rw [Addr.add_lit] at this
    exact this

theorem fileF_none (l : List UInt8) (fs : List Fl) (h : lookF l fs = none) : fileF l fs = ⟨l, [], 0⟩ := by unfold fileF; rw [h]; rfl
theorem fileF_some (l : List UInt8) (fs : List Fl) (f : Fl) (h : lookF l fs = some f) : fileF l fs = f := by unfold fileF; rw [h]; rfl
theorem call_app (m : Dk) (s : Sp) (hn : targetB s.name = true) (hK : s.kind = 1) (hf : (!(lookF s.name m.files).isSome && decide (1024 ≤ m.files.length)) = false) (hc : ¬ m.cap - sizeF m.files < (s.data.length : Int)) :
    callD m s = (0, withFs m (withF ⟨s.name, (fileF s.name m.files).data ++ s.data, (fileF s.name m.files).sure⟩ false m.files)) := by
  unfold callD
  rw [hn, hK, hf, if_neg hc]
  simp
theorem call_full (m : Dk) (s : Sp) (hn : targetB s.name = true) (hK : s.kind = 1) (hf : (!(lookF s.name m.files).isSome && decide (1024 ≤ m.files.length)) = false) (hc : m.cap - sizeF m.files < (s.data.length : Int)) :
    callD m s = (10, m) := by
  unfold callD
  rw [hn, hK, hf, if_pos hc]
  simp
theorem call_room (m : Dk) (s : Sp) (hn : targetB s.name = true) (hK : s.kind = 1) (hf : (!(lookF s.name m.files).isSome && decide (1024 ≤ m.files.length)) = true) :
    callD m s = (15, m) := by
  unfold callD
  rw [hn, hK, hf]
  simp

end Go.Proofs.YthjikbhjciphiaaGreatDoor

/-
  The reference's disk: Append to a file that is there. Made by wip/tools/mkk.py.
-/
namespace Go.Proofs.YthjikbhjciphiaaGreatDoor
open Go.RowKit
set_option linter.unusedVariables false
set_option linter.unusedSimpArgs false

end Go.Proofs.YthjikbhjciphiaaGreatDoor

/-
  The reference's disk: Sync, Remove. Made by wip/tools/mkl.py.
-/
namespace Go.Proofs.YthjikbhjciphiaaGreatDoor
open Go.RowKit
set_option linter.unusedVariables false
set_option linter.unusedSimpArgs false

theorem call_sync (m : Dk) (s : Sp) (f : Fl) (hn : targetB s.name = true) (hK : s.kind = 2) (hlo : lookF s.name m.files = some f) :
    callD m s = (0, withFs m (withF ⟨s.name, f.data, f.data.length⟩ false m.files)) := by
  unfold callD fileF
  rw [hn, hK, hlo]
  simp
theorem call_rem (m : Dk) (s : Sp) (f : Fl) (hn : targetB s.name = true) (hK : s.kind = 4) (hlo : lookF s.name m.files = some f) :
    callD m s = (0, withFs m (withoutF s.name m.files)) := by
  unfold callD
  rw [hn, hK, hlo]
  simp
theorem call_ren (m : Dk) (s : Sp) (f : Fl) (hn : targetB s.name = true) (htt : targetB s.to = true) (hK : s.kind = 3) (hlo : lookF s.name m.files = some f) :
    callD m s = (0, withFs m (withF ⟨s.to, f.data, f.sure⟩ false (withoutF s.name m.files))) := by
  unfold callD fileF
  rw [hn, htt, hK, hlo]
  simp

end Go.Proofs.YthjikbhjciphiaaGreatDoor

/-
  The reference's disk: Rename. Made by wip/tools/mkn.py.
-/
namespace Go.Proofs.YthjikbhjciphiaaGreatDoor
open Go.RowKit
set_option linter.unusedVariables false
set_option linter.unusedSimpArgs false

theorem Turn.fewer {S S' : Nat → Prop} {w w' : World} (h : Turn S' w w') (hs : ∀ k, S' k → k < w.heap.size → S k) : Turn S w w' := ⟨h.os, h.tape, h.output, h.size, fun k hk hn => h.block k hk fun e => hn (hs k e hk)⟩

end Go.Proofs.YthjikbhjciphiaaGreatDoor

/-
  The reference's disk: any step; what stays good.
-/
namespace Go.Proofs.YthjikbhjciphiaaGreatDoor
open Go.RowKit
set_option linter.unusedVariables false
set_option linter.unusedSimpArgs false

end Go.Proofs.YthjikbhjciphiaaGreatDoor

/-
  Arithmetic of a disk: what a step leaves within bounds. No program stands here.
-/
namespace Go.Proofs.YthjikbhjciphiaaGreatDoor
open Go.RowKit
set_option linter.unusedVariables false
set_option linter.unusedSimpArgs false

theorem sizeF_append (a b : List Fl) : sizeF (a ++ b) = sizeF a + sizeF b := by simp [sizeF]
theorem sizeF_cons (f : Fl) (l : List Fl) : sizeF (f :: l) = f.data.length + sizeF l := by simp [sizeF]
theorem withoutF_cons (s : List UInt8) (g : Fl) (r : List Fl) : withoutF s (g :: r) = (if g.name = s then [] else [g]) ++ withoutF s r := by
  unfold withoutF
  by_cases h : g.name = s <;> simp [h]
theorem withF_cons (f : Fl) (d : Bool) (g : Fl) (r : List Fl) : withF f d (g :: r) = (if !d && !Op.bytesLess g.name f.name then [f] else []) ++ (if g.name = f.name then [] else [g]) ++ withF f (d || !Op.bytesLess g.name f.name) r := rfl
theorem len_without (s : List UInt8) (l : List Fl) : (withoutF s l).length ≤ l.length := List.length_filter_le _ _
theorem size_without (s : List UInt8) (l : List Fl) : sizeF (withoutF s l) ≤ sizeF l := by
  induction l with
  | nil => exact Nat.le_refl _
  | cons g r ih =>
    rw [withoutF_cons, sizeF_append, sizeF_cons]
    by_cases h : g.name = s
    · rw [if_pos h]; simp [sizeF] at ih ⊢; omega
    · rw [if_neg h, sizeF_cons]; simp [sizeF] at ih ⊢; omega
theorem size_look (s : List UInt8) (l : List Fl) (f : Fl) (h : lookF s l = some f) : sizeF (withoutF s l) + f.data.length ≤ sizeF l := by
  induction l with
  | nil => cases h
  | cons g r ih =>
    rw [withoutF_cons, sizeF_append, sizeF_cons]
    by_cases hg : g.name = s
    · have e : g = f := by
        unfold lookF at h
        rw [List.find?_cons, decide_eq_true hg] at h
        exact Option.some.inj h
      rw [if_pos hg, ← e]
      have := size_without s r
      simp only [sizeF, List.map_nil, List.sum_nil] at this ⊢
      omega
    · have e : lookF s r = some f := by
        unfold lookF at h ⊢
        rw [List.find?_cons, decide_eq_false hg] at h
        exact h
      have h2 := ih e
      rw [if_neg hg, sizeF_cons]
      have h0 : sizeF [] = 0 := rfl
      omega
theorem size_with (f : Fl) (l : List Fl) : ∀ d : Bool, sizeF (withF f d l) ≤ sizeF (withoutF f.name l) + (if d then 0 else f.data.length) := by
  induction l with
  | nil =>
    intro d
    cases d
    · show sizeF [f] ≤ 0 + f.data.length
      rw [sizeF_cons]
      show f.data.length + 0 ≤ _
      omega
    · exact Nat.zero_le _
  | cons g r ih =>
    intro d
    rw [withF_cons, withoutF_cons, sizeF_append, sizeF_append, sizeF_append]
    have h0 : sizeF [] = 0 := rfl
    have h1 : sizeF [f] = f.data.length := by rw [sizeF_cons]; omega
    cases d <;> cases hb : Op.bytesLess g.name f.name
    · have := ih true
      simp at this ⊢
      omega
    · have := ih false
      simp at this ⊢
      omega
    · have := ih true
      simp at this ⊢
      omega
    · have := ih true
      simp at this ⊢
      omega
theorem len_with (f : Fl) (l : List Fl) : ∀ d : Bool, (withF f d l).length ≤ l.length + (if d then 0 else 1) := by
  induction l with
  | nil =>
    intro d
    cases d
    · exact Nat.le_refl _
    · exact Nat.le_refl _
  | cons g r ih =>
    intro d
    rw [withF_cons, List.length_append, List.length_append]
    have h2 : (if g.name = f.name then ([] : List Fl) else [g]).length ≤ 1 := by split <;> simp
    cases d <;> cases hb : Op.bytesLess g.name f.name
    · have := ih true
      simp at this ⊢
      omega
    · have := ih false
      simp at this ⊢
      omega
    · have := ih true
      simp at this ⊢
      omega
    · have := ih true
      simp at this ⊢
      omega
theorem mem_with (f g : Fl) (l : List Fl) : ∀ d : Bool, g ∈ withF f d l → g = f ∨ g ∈ l := by
  induction l with
  | nil =>
    intro d h
    cases d
    · exact .inl (by simpa using (show g ∈ [f] from h))
    · cases h
  | cons a r ih =>
    intro d h
    rw [withF_cons, List.mem_append, List.mem_append] at h
    rcases h with (h | h) | h
    · split at h
      · exact .inl (by simpa using h)
      · cases h
    · split at h
      · cases h
      · exact .inr (by rw [List.mem_singleton.1 h]; exact List.mem_cons_self)
    · rcases ih _ h with h | h
      · exact .inl h
      · exact .inr (List.mem_cons_of_mem _ h)
theorem mem_without (s : List UInt8) (g : Fl) (l : List Fl) (h : g ∈ withoutF s l) : g ∈ l := (List.mem_filter.1 h).1
theorem look_mem (s : List UInt8) (l : List Fl) (f : Fl) (h : lookF s l = some f) : f ∈ l := List.mem_of_find?_eq_some h

/-- What stands behind k steps. -/
structure OkD (k : Nat) (m : Dk) : Prop where
  len : m.files.length ≤ k
  size : sizeF m.files ≤ 200 * k
  sure : ∀ f ∈ m.files, f.sure ≤ f.data.length
  calls : m.calls ≤ k
  left : m.left < 18446744073709551616
  cap : 0 ≤ m.cap ∧ m.cap < 9223372036854775808
theorem OkD.good {k : Nat} {m : Dk} (h : OkD k m) (hk : k ≤ 200) : GoodD m := ⟨by have := h.len; omega, by have := h.size; omega, h.sure⟩
theorem OkD.mono {k : Nat} {m : Dk} (h : OkD k m) : OkD (k + 1) m := ⟨by have := h.len; omega, by have := h.size; omega, h.sure, by have := h.calls; omega, h.left, h.cap⟩

theorem OkD.crash {k : Nat} {m : Dk} (keep : Int) (h : OkD k m) : OkD k (crashD keep m) := by
  refine ⟨?_, ?_, ?_, h.calls, h.left, h.cap⟩
  · show (m.files.map _).length ≤ _
    rw [List.length_map]; exact h.len
  · refine Nat.le_trans ?_ h.size
    show sizeF (m.files.map (cutF keep)) ≤ sizeF m.files
    generalize m.files = l
    induction l with
    | nil => exact Nat.le_refl _
    | cons f r ih =>
      rw [List.map_cons, sizeF_cons, sizeF_cons]
      have e3 : (cutF keep f).data.length ≤ f.data.length := by
        show (f.data.take _).length ≤ _
        rw [List.length_take]
        omega
      omega
  · intro g hg
    obtain ⟨f, hf, rfl⟩ := List.mem_map.1 hg
    show leftF keep f ≤ (f.data.take (leftF keep f)).length
    rw [List.length_take]
    unfold leftF
    omega

theorem begin_ok {k : Nat} {m : Dk} (h : OkD k m) : OkD (k + 1) (beginD m).2 := by
  unfold beginD
  split
  · exact h.mono
  · split
    · exact (h.crash _).mono
    · refine ⟨by have := h.len; show m.files.length ≤ _; omega, by have := h.size; show sizeF m.files ≤ _; omega, h.sure, by have := h.calls; show m.calls + 1 ≤ _; omega, ?_, h.cap⟩
      show (if m.armed = true then m.left - 1 else m.left) < _
      have := h.left
      split <;> omega

theorem do_ok {k : Nat} {m : Dk} (s : Sp) (h : OkD k m) (hd : s.data.length ≤ 200) (hn : s.n < 18446744073709551616) : OkD (k + 1) (doD m s).2 := by
  unfold doD
  split
  · exact ⟨by have := h.len; show m.files.length ≤ _; omega, by have := h.size; show sizeF m.files ≤ _; omega, h.sure, by have := h.calls; show m.calls ≤ _; omega, hn, h.cap⟩
  split
  · exact (h.crash _).mono
  split
  · exact ⟨by have := h.len; show m.files.length ≤ _; omega, by have := h.size; show sizeF m.files ≤ _; omega, h.sure, by have := h.calls; show m.calls ≤ _; omega, h.left, h.cap⟩
  split
  · exact h.mono
  split
  · rename_i hb
    have hO := begin_ok h
    obtain ⟨hf, hc⟩ := begin_same m hb
    have hl0 := h.len
    have hs0 := h.size
    rw [← hf] at hl0 hs0
    have hsu := h.sure
    rw [← hf] at hsu
    generalize (beginD m).2 = m1 at hO hl0 hs0 hsu
    have key : ∀ l : List Fl, l.length ≤ k + 1 → sizeF l ≤ 200 * (k + 1) → (∀ f ∈ l, f.sure ≤ f.data.length) → OkD (k + 1) (withFs m1 l) := fun l h1 h2 h3 => ⟨h1, h2, h3, hO.calls, hO.left, hO.cap⟩
    unfold callD
    split
    · exact hO
    split
    · split
      · exact hO
      split
      · exact hO
      · have hfi : (fileF s.name m1.files).data.length + sizeF (withoutF s.name m1.files) ≤ sizeF m1.files ∧ (fileF s.name m1.files).sure ≤ (fileF s.name m1.files).data.length := by
          unfold fileF
          rcases hlo : lookF s.name m1.files with _ | f
          · refine ⟨?_, Nat.le_refl _⟩
            have := size_without s.name m1.files
            show 0 + _ ≤ _
            omega
          · have := size_look s.name m1.files f hlo
            exact ⟨by show f.data.length + _ ≤ _; omega, hsu f (look_mem _ _ _ hlo)⟩
        refine key _ ?_ ?_ fun g hg => ?_
        · have := len_with ⟨s.name, (fileF s.name m1.files).data ++ s.data, (fileF s.name m1.files).sure⟩ m1.files false
          simp at this
          omega
        · have := size_with ⟨s.name, (fileF s.name m1.files).data ++ s.data, (fileF s.name m1.files).sure⟩ m1.files false
          simp at this
          have h1 := hfi.1
          omega
        · rcases mem_with _ g _ _ hg with rfl | h'
          · show (fileF s.name m1.files).sure ≤ ((fileF s.name m1.files).data ++ s.data).length
            have h2 := hfi.2
            rw [List.length_append]
            omega
          · exact hsu g h'
    split
    · exact hO
    · rename_i hsome
      obtain ⟨f, hlo⟩ : ∃ f, lookF s.name m1.files = some f := by
        cases hx : lookF s.name m1.files with
        | none => rw [hx] at hsome; exact absurd rfl hsome
        | some f => exact ⟨f, rfl⟩
      have hfe : fileF s.name m1.files = f := fileF_some _ _ _ hlo
      have hsl := size_look s.name m1.files f hlo
      have hfs := hsu f (look_mem _ _ _ hlo)
      have hlw := len_without s.name m1.files
      rw [hfe]
      split
      · refine key _ ?_ ?_ fun g hg => ?_
        · have := len_with ⟨s.name, f.data, f.data.length⟩ m1.files false
          simp at this
          omega
        · have := size_with ⟨s.name, f.data, f.data.length⟩ m1.files false
          simp at this
          omega
        · rcases mem_with _ g _ _ hg with rfl | h'
          · exact Nat.le_refl _
          · exact hsu g h'
      split
      · refine key _ ?_ ?_ fun g hg => ?_
        · have := len_with ⟨s.to, f.data, f.sure⟩ (withoutF s.name m1.files) false
          simp at this
          omega
        · have := size_with ⟨s.to, f.data, f.sure⟩ (withoutF s.name m1.files) false
          have h2 := size_without s.to (withoutF s.name m1.files)
          simp at this
          omega
        · rcases mem_with _ g _ _ hg with rfl | h'
          · exact hfs
          · exact hsu g (mem_without _ _ _ h')
      · refine key _ (by omega) (by omega) fun g hg => hsu g (mem_without _ _ _ hg)
  · exact begin_ok h

end Go.Proofs.YthjikbhjciphiaaGreatDoor

/-
  The reference's disk: what a step keeps in order; Same of files.
-/
namespace Go.Proofs.YthjikbhjciphiaaGreatDoor
open Go.RowKit
set_option linter.unusedVariables false
set_option linter.unusedSimpArgs false

theorem crash_srt (keep : Int) (m : Dk) (h : SrtF m.files) : SrtF (crashD keep m).files := srt_map (cutF keep) m.files (fun f => rfl) h
theorem begin_srt (m : Dk) (h : SrtF m.files) : SrtF (beginD m).2.files := by
  unfold beginD
  split
  · exact h
  · split
    · exact crash_srt _ m h
    · exact h
theorem call_srt (m : Dk) (s : Sp) (h : SrtF m.files) : SrtF (callD m s).2.files := by
  unfold callD
  split
  · exact h
  split
  · split
    · exact h
    split
    · exact h
    · exact srt_with _ _ false h (fun h => by cases h)
  split
  · exact h
  split
  · exact srt_with _ _ false h (fun h => by cases h)
  split
  · exact srt_with _ _ false (srt_without _ _ h) (fun h => by cases h)
  · exact srt_without _ _ h
theorem do_srt (m : Dk) (s : Sp) (h : SrtF m.files) : SrtF (doD m s).2.files := by
  unfold doD
  split
  · exact h
  split
  · exact crash_srt _ m h
  split
  · exact h
  split
  · exact h
  split
  · exact call_srt _ s (begin_srt m h)
  · exact begin_srt m h

end Go.Proofs.YthjikbhjciphiaaGreatDoor

/-
  Steps in memory; the reference's answer: are there too many, or too long ones?
-/
namespace Go.Proofs.YthjikbhjciphiaaGreatDoor
open Go.RowKit
set_option linter.unusedVariables false
set_option linter.unusedSimpArgs false

/-- The value of a step, its bytes off S. -/
def SpV (w : World) (S : Nat → Prop) (v : Value) (s : Sp) : Prop :=
  ∃ A n c, v = spV s A n c ∧ BytS w S A n s.data ∧ (A = none → n = 0 ∧ c = 0) ∧ n ≤ c ∧ c ≤ maxLen
/-- The slice value '.slice A n c' reads as the steps ss, all of it off S. -/
def Sps (w : World) (S : Nat → Prop) (A : Option Addr) (n : Nat) (ss : List Sp) : Prop :=
  ss.length = n ∧ (0 < n → ∃ b o, A = some ⟨b, o, none⟩ ∧ ¬ S b ∧ ∀ (j : Nat) (s : Sp), ss[j]? = some s → ∃ y0 y1 y2 y3 y4 y5, (w.cell? ⟨b, o + j * 6, none⟩ = some y0 ∧ w.cell? ⟨b, o + j * 6 + 1, none⟩ = some y1 ∧ w.cell? ⟨b, o + j * 6 + 2, none⟩ = some y2 ∧ w.cell? ⟨b, o + j * 6 + 3, none⟩ = some y3 ∧ w.cell? ⟨b, o + j * 6 + 4, none⟩ = some y4 ∧ w.cell? ⟨b, o + j * 6 + 5, none⟩ = some y5) ∧ SpV w S (.agg #[y0, y1, y2, y3, y4, y5]) s)
theorem SpV.turn {w w' : World} {S : Nat → Prop} {v : Value} {s : Sp} (h : SpV w S v s) (ht : Turn S w w') : SpV w' S v s := by
  obtain ⟨A, n, c, h1, h2, h3⟩ := h
  exact ⟨A, n, c, h1, h2.turn ht, h3⟩
theorem SpV.more {w : World} {S S' : Nat → Prop} {v : Value} {s : Sp} (h : SpV w S v s) (hs : ∀ k, S' k → k < w.heap.size → S k) : SpV w S' v s := by
  obtain ⟨A, n, c, h1, h2, h3⟩ := h
  exact ⟨A, n, c, h1, h2.more hs, h3⟩
theorem Sps.turn {w w' : World} {S : Nat → Prop} {n : Nat} {A : Option Addr} {ss : List Sp} (h : Sps w S A n ss) (ht : Turn S w w') : Sps w' S A n ss :=
  ⟨h.1, fun hn => by
    obtain ⟨b, o, e, hb, hf⟩ := h.2 hn
    refine ⟨b, o, e, hb, fun j s hj => ?_⟩
    obtain ⟨y0, y1, y2, y3, y4, y5, ⟨h0, h1, h2, h3, h4, h5⟩, hv⟩ := hf j s hj
    exact ⟨y0, y1, y2, y3, y4, y5, ⟨ht.at_ h0 hb, ht.at_ h1 hb, ht.at_ h2 hb, ht.at_ h3 hb, ht.at_ h4 hb, ht.at_ h5 hb⟩, hv.turn ht⟩⟩
theorem Sps.more {w : World} {S S' : Nat → Prop} {n : Nat} {A : Option Addr} {ss : List Sp} (h : Sps w S A n ss) (hs : ∀ k, S' k → k < w.heap.size → S k) : Sps w S' A n ss :=
  ⟨h.1, fun hn => by
    obtain ⟨b, o, e, hb, hf⟩ := h.2 hn
    have hb2 : ¬ S' b := fun x => hb (hs b x (by
      obtain ⟨_, _, _, _, _, _, ⟨h0, _⟩, _⟩ := hf 0 _ (List.getElem?_eq_getElem (by have := h.1; omega))
      exact block_lt_of_cell h0))
    refine ⟨b, o, e, hb2, fun j s hj => ?_⟩
    obtain ⟨y0, y1, y2, y3, y4, y5, hc, hv⟩ := hf j s hj
    exact ⟨y0, y1, y2, y3, y4, y5, hc, hv.more hs⟩⟩
theorem sp_parts {y0 y1 y2 y3 y4 y5 : Value} {w : World} {S : Nat → Prop} {s : Sp} (h : SpV w S (.agg #[y0, y1, y2, y3, y4, y5]) s) :
    ∃ A n c, y0 = .int .i64 s.kind ∧ y1 = .string ⟨s.name.toArray⟩ ∧ y2 = .string ⟨s.to.toArray⟩ ∧ y3 = .slice A n c ∧ y4 = .int .u64 ((s.n : Nat) : Int) ∧ y5 = .int .i64 s.m ∧ BytS w S A n s.data ∧ (A = none → n = 0 ∧ c = 0) ∧ n ≤ c ∧ c ≤ maxLen := by
  obtain ⟨A, n, c, e, h1⟩ := h
  have e2 : y0 = .int .i64 s.kind ∧ y1 = .string ⟨s.name.toArray⟩ ∧ y2 = .string ⟨s.to.toArray⟩ ∧ y3 = .slice A n c ∧ y4 = .int .u64 ((s.n : Nat) : Int) ∧ y5 = .int .i64 s.m := by simpa [spV] using e
  exact ⟨A, n, c, e2.1, e2.2.1, e2.2.2.1, e2.2.2.2.1, e2.2.2.2.2.1, e2.2.2.2.2.2, h1⟩

def smallS (s : Sp) : Bool := decide (s.data.length ≤ 200) && (decide (s.name.length ≤ 100) && decide (s.to.length ≤ 100))
def largeS (ss : List Sp) : Bool := !((ss.take 90).all smallS) || decide (90 < ss.length)
theorem largeS_false (ss : List Sp) (h : largeS ss = false) : ss.length ≤ 90 ∧ ∀ s ∈ ss, s.data.length ≤ 200 ∧ s.name.length ≤ 100 ∧ s.to.length ≤ 100 := by
  unfold largeS at h
  rw [Bool.or_eq_false_iff] at h
  obtain ⟨h1, h2⟩ := h
  have h3 : ss.length ≤ 90 := by
    have := of_decide_eq_false h2
    omega
  refine ⟨h3, fun s hs => ?_⟩
  rw [List.take_of_length_le h3] at h1
  have h4 : ss.all smallS = true := by simpa using h1
  have := List.all_eq_true.1 h4 s hs
  simpa [smallS] using this
theorem largeS_out (ss : List Sp) (k : Nat) (s : Sp) (hk : k < 90) (hs : ss[k]? = some s) (h : smallS s = false) : largeS ss = true := by
  unfold largeS
  have : (ss.take 90).all smallS = false := by
    rw [List.all_eq_false]
    exact ⟨s, List.mem_of_getElem? (i := k) (by rw [List.getElem?_take_of_lt hk]; exact hs), by simp [h]⟩
  rw [this]
  rfl
theorem largeS_end (ss : List Sp) (k : Nat) (h : (ss.take k).all smallS = true) (hk : k = ss.length ∧ k ≤ 90 ∨ k = 90) : largeS ss = decide (90 < ss.length) := by
  unfold largeS
  have : (ss.take 90).all smallS = true := by
    rcases hk with ⟨rfl, h2⟩ | rfl
    · rw [List.take_of_length_le h2]
      rw [List.take_length] at h
      exact h
    · exact h
  rw [this]
  rfl

end Go.Proofs.YthjikbhjciphiaaGreatDoor

/-
  An argument that is a slice of steps, opened.
-/
namespace Go.Proofs.YthjikbhjciphiaaGreatDoor
open Go.RowKit
open Go.ChangeShapes Go.WideShapes Go.ChangeAt
set_option linter.unusedVariables false
set_option linter.unusedSimpArgs false

section
variable {H : Type} {enc : TypeId × Value → H} {w : World} {held : Bool}

end

end Go.Proofs.YthjikbhjciphiaaGreatDoor

/-
  The program's disk, by its contracts alone; a step of the statements.
-/
namespace Go.Proofs.YthjikbhjciphiaaGreatDoor
open Go.RowKit
set_option linter.unusedVariables false
set_option linter.unusedSimpArgs false

/-- What a call leaves: its answer, the disk, only blocks of it turned, and new ones. -/
def StepPost (PD : World → (Nat → Prop) → Nat → Dk → Prop) (S : Nat → Prop) (q : Nat) (r : Int × Dk) (W : World) (e : Ending) (W' : World) : Prop :=
  ∃ S', e = .returned (.int .i64 r.1) ∧ PD W' S' q r.2 ∧ (∀ k, S' k → S k ∨ W.heap.size ≤ k) ∧ Turn S W W'
def MovePost (PD : World → (Nat → Prop) → Nat → Dk → Prop) (S : Nat → Prop) (q : Nat) (m : Dk) (W : World) (e : Ending) (W' : World) : Prop :=
  ∃ S', e = .returned (.tuple #[]) ∧ PD W' S' q m ∧ (∀ k, S' k → S k ∨ W.heap.size ≤ k) ∧ Turn S W W'

/-- What reading a file answers. -/
def readD (m : Dk) (name : List UInt8) : Int × List UInt8 := if m.down then (19, []) else match lookF name m.files with | none => (8, []) | some f => (0, f.data)
def newD (cap : Int) : Dk := ⟨[], max cap 0, 0, false, 0, 0, false⟩

theorem doD_app (m : Dk) (s : Sp) (h : s.kind = 1) : doD m s = doD m ⟨1, s.name, [], s.data, 0, 0⟩ := by
  unfold doD callD isCall
  rw [h]
  simp
theorem doD_sync (m : Dk) (s : Sp) (h : s.kind = 2) : doD m s = doD m ⟨2, s.name, [], [], 0, 0⟩ := by
  unfold doD callD isCall
  rw [h]
  simp
theorem doD_ren (m : Dk) (s : Sp) (h : s.kind = 3) : doD m s = doD m ⟨3, s.name, s.to, [], 0, 0⟩ := by
  unfold doD callD isCall
  rw [h]
  simp
theorem doD_rem (m : Dk) (s : Sp) (h : s.kind = 4) : doD m s = doD m ⟨4, s.name, [], [], 0, 0⟩ := by
  unfold doD callD isCall
  rw [h]
  simp
theorem StepPost.back {PD : World → (Nat → Prop) → Nat → Dk → Prop} {S : Nat → Prop} {q : Nat} {r : Int × Dk} {W : World} {o : Obj} {e : Ending} {W' : World} (h : StepPost PD S q r (W.alloc o) e W') : StepPost PD S q r W e W' := by
  obtain ⟨S', h1, h2, h3, h4⟩ := h
  refine ⟨S', h1, h2, fun k hk => ?_, ((Turn.refl S W).alloc o).trans h4⟩
  rcases h3 k hk with h | h
  · exact .inl h
  · refine .inr ?_
    simp at h
    omega

end Go.Proofs.YthjikbhjciphiaaGreatDoor
