/-
  The program's disk, by its contracts alone; a step of the statements.
-/
import Derived.Test.YtnjkilmhphcocaaDkU
import Derived.Test.YtnjkilmhphcocaaNaTx
namespace Go.Proofs.Ytnjkilmhphcocaa
open Go.RowKit
set_option linter.unusedVariables false
set_option linter.unusedSimpArgs false

/-- What a call leaves: its answer, the disk, only blocks of it turned, and new ones. -/
def StepPost (PD : World → (Nat → Prop) → Nat → Dk → Prop) (S : Nat → Prop) (q : Nat) (r : Int × Dk) (W : World) (e : Ending) (W' : World) : Prop :=
  ∃ S', e = .returned (.int .i64 r.1) ∧ PD W' S' q r.2 ∧ (∀ k, S' k → S k ∨ W.heap.size ≤ k) ∧ Turn S W W'
def MovePost (PD : World → (Nat → Prop) → Nat → Dk → Prop) (S : Nat → Prop) (q : Nat) (m : Dk) (W : World) (e : Ending) (W' : World) : Prop :=
  ∃ S', e = .returned (.tuple #[]) ∧ PD W' S' q m ∧ (∀ k, S' k → S k ∨ W.heap.size ≤ k) ∧ Turn S W W'

/-- What is known of the program's disk: PD w S q m: block q is the disk m, S its blocks; what lies below N is the library's; I: what stands of the library's variables. -/
structure DiskC (N : Nat) (I : World → Prop) (PD : World → (Nat → Prop) → Nat → Dk → Prop) : Prop where
  iturn : ∀ {w w' : World} {S' : Nat → Prop}, I w → Turn S' w w' → (∀ k, S' k → N ≤ k) → I w'
  turn : ∀ {w w' : World} {S S' : Nat → Prop} {q : Nat} {m : Dk}, PD w S q m → Turn S' w w' → (∀ k, S' k → N ≤ k ∧ ¬ S k) → PD w' S q m
  here : ∀ {w : World} {S : Nat → Prop} {q : Nat} {m : Dk}, PD w S q m → S q ∧ ∀ k, S k → N ≤ k ∧ k < w.heap.size
  append : ∀ (W : World) (S : Nat → Prop) (q : Nat) (m : Dk) (name data : List UInt8) (A : Option Addr) (n c : Nat), PD W S q m → OkD 200 m → name.length ≤ 100 → data.length ≤ 200 → BytS W S A n data → (A = none → n = 0 ∧ c = 0) → n ≤ c → c ≤ maxLen →
    Calls Try.prog 23 #[.pointer (some ⟨q, 0, none⟩), .string ⟨name.toArray⟩, .slice A n c] W (StepPost PD S q (doD m ⟨1, name, [], data, 0, 0⟩) W)
  sync : ∀ (W : World) (S : Nat → Prop) (q : Nat) (m : Dk) (name : List UInt8), PD W S q m → OkD 200 m → name.length ≤ 100 →
    Calls Try.prog 24 #[.pointer (some ⟨q, 0, none⟩), .string ⟨name.toArray⟩] W (StepPost PD S q (doD m ⟨2, name, [], [], 0, 0⟩) W)
  rename : ∀ (W : World) (S : Nat → Prop) (q : Nat) (m : Dk) (name dest : List UInt8), PD W S q m → OkD 200 m → name.length ≤ 100 → dest.length ≤ 100 →
    Calls Try.prog 25 #[.pointer (some ⟨q, 0, none⟩), .string ⟨name.toArray⟩, .string ⟨dest.toArray⟩] W (StepPost PD S q (doD m ⟨3, name, dest, [], 0, 0⟩) W)
  remove : ∀ (W : World) (S : Nat → Prop) (q : Nat) (m : Dk) (name : List UInt8), PD W S q m → OkD 200 m → name.length ≤ 100 →
    Calls Try.prog 26 #[.pointer (some ⟨q, 0, none⟩), .string ⟨name.toArray⟩] W (StepPost PD S q (doD m ⟨4, name, [], [], 0, 0⟩) W)
  arm : ∀ (W : World) (S : Nat → Prop) (q : Nat) (m : Dk) (n : Nat) (keep : Int), PD W S q m → OkD 200 m → n < 18446744073709551616 →
    Calls Try.prog 27 #[.pointer (some ⟨q, 0, none⟩), .int .u64 ((n : Nat) : Int), .int .i64 keep] W (MovePost PD S q ⟨m.files, m.cap, m.calls, true, n, keep, m.down⟩ W)
  crash : ∀ (W : World) (S : Nat → Prop) (q : Nat) (m : Dk) (keep : Int), PD W S q m → OkD 200 m →
    Calls Try.prog 22 #[.pointer (some ⟨q, 0, none⟩), .int .i64 keep] W (MovePost PD S q (crashD keep m) W)
  up : ∀ (W : World) (S : Nat → Prop) (q : Nat) (m : Dk), PD W S q m → OkD 200 m →
    Calls Try.prog 28 #[.pointer (some ⟨q, 0, none⟩)] W (MovePost PD S q ⟨m.files, m.cap, m.calls, m.armed, m.left, m.keep, false⟩ W)

/-- What reading a file answers. -/
def readD (m : Dk) (name : List UInt8) : Int × List UInt8 := if m.down then (19, []) else match lookF name m.files with | none => (8, []) | some f => (0, f.data)
def newD (cap : Int) : Dk := ⟨[], max cap 0, 0, false, 0, 0, false⟩
/-- What else is known of it: what makes it, and what only asks it. -/
structure DiskA (N : Nat) (I : World → Prop) (PD : World → (Nat → Prop) → Nat → Dk → Prop) : Prop where
  new : ∀ (W : World) (cap : Int), I W → N ≤ W.heap.size → cap < 9223372036854775808 →
    Calls Try.prog 8 #[.int .i64 cap] W fun e W' => ∃ q S, e = .returned (.pointer (some ⟨q, 0, none⟩)) ∧ PD W' S q (newD cap) ∧ (∀ k, S k → W.heap.size ≤ k) ∧ Below W.heap.size W W'
  read : ∀ (W : World) (S : Nat → Prop) (q : Nat) (m : Dk) (name : List UInt8), PD W S q m → OkD 200 m → name.length ≤ 100 →
    Calls Try.prog 11 #[.pointer (some ⟨q, 0, none⟩), .string ⟨name.toArray⟩] W fun e W' => ∃ v, e = .returned (.tuple #[v, .int .i64 (readD m name).1]) ∧ W'.ownsRow W.heap.size 5 1 v (readD m name).2.length ((readD m name).2.map bv) ∧ Below W.heap.size W W'
  list : ∀ (W : World) (S : Nat → Prop) (q : Nat) (m : Dk), PD W S q m → OkD 200 m → SrtF m.files →
    Calls Try.prog 21 #[.pointer (some ⟨q, 0, none⟩)] W fun e W' => ∃ v, e = .returned v ∧ W'.ownsRow W.heap.size 9 1 v m.files.length (wsV (m.files.map Fl.name)) ∧ Below W.heap.size W W'
  files : ∀ (W : World) (S : Nat → Prop) (q : Nat) (m : Dk), PD W S q m → OkD 200 m → SrtF m.files →
    Calls Try.prog 15 #[.pointer (some ⟨q, 0, none⟩)] W fun e W' => ∃ v xs, e = .returned v ∧ W'.ownsRow W.heap.size 43 3 v m.files.length xs ∧ Fx W' (fun k => k < W.heap.size) xs m.files ∧ Below W.heap.size W W'
  size : ∀ (W : World) (S : Nat → Prop) (q : Nat) (m : Dk), PD W S q m → OkD 200 m →
    Calls Try.prog 18 #[.pointer (some ⟨q, 0, none⟩)] W fun e W' => e = .returned (.int .i64 ((sizeF m.files : Nat) : Int)) ∧ Below W.heap.size W W'
  calls : ∀ (W : World) (S : Nat → Prop) (q : Nat) (m : Dk), PD W S q m → OkD 200 m →
    Calls Try.prog 16 #[.pointer (some ⟨q, 0, none⟩)] W fun e W' => e = .returned (.int .u64 ((m.calls : Nat) : Int)) ∧ Below W.heap.size W W'
  down : ∀ (W : World) (S : Nat → Prop) (q : Nat) (m : Dk), PD W S q m → OkD 200 m →
    Calls Try.prog 17 #[.pointer (some ⟨q, 0, none⟩)] W fun e W' => e = .returned (.bool m.down) ∧ Below W.heap.size W W'

theorem doD_app (m : Dk) (s : Sp) (h : s.kind = 1) : doD m s = doD m ⟨1, s.name, [], s.data, 0, 0⟩ := by
  unfold doD callD isCall
  rw [h]
  simp
theorem doD_sync (m : Dk) (s : Sp) (h : s.kind = 2) : doD m s = doD m ⟨2, s.name, [], [], 0, 0⟩ := by
  unfold doD callD isCall
  rw [h]
  simp
theorem doD_ren (m : Dk) (s : Sp) (h : s.kind = 3) : doD m s = doD m ⟨3, s.name, s.to, [], 0, 0⟩ := by
  unfold doD callD isCall
  rw [h]
  simp
theorem doD_rem (m : Dk) (s : Sp) (h : s.kind = 4) : doD m s = doD m ⟨4, s.name, [], [], 0, 0⟩ := by
  unfold doD callD isCall
  rw [h]
  simp
theorem StepPost.back {PD : World → (Nat → Prop) → Nat → Dk → Prop} {S : Nat → Prop} {q : Nat} {r : Int × Dk} {W : World} {o : Obj} {e : Ending} {W' : World} (h : StepPost PD S q r (W.alloc o) e W') : StepPost PD S q r W e W' := by
  obtain ⟨S', h1, h2, h3, h4⟩ := h
  refine ⟨S', h1, h2, fun k hk => ?_, ((Turn.refl S W).alloc o).trans h4⟩
  rcases h3 k hk with h | h
  · exact .inl h
  · refine .inr ?_
    simp at h
    omega

set_option maxRecDepth 100000 in
set_option maxHeartbeats 4000000 in
theorem do9_any {N : Nat} {I : World → Prop} {PD : World → (Nat → Prop) → Nat → Dk → Prop} (C : DiskC N I PD) (W : World) (S : Nat → Prop) (q : Nat) (m : Dk) (s : Sp) (A : Option Addr) (n c : Nat) (h : PD W S q m) (hO : OkD 200 m)
    (hl : s.name.length ≤ 100) (hl2 : s.to.length ≤ 100) (hd : s.data.length ≤ 200) (hsn : s.n < 18446744073709551616) (hda : BytS W S A n s.data) (hnil : A = none → n = 0 ∧ c = 0) (hnc : n ≤ c) (hcm : c ≤ maxLen) :
    Calls Try.prog 9 #[.pointer (some ⟨q, 0, none⟩), spV s A n c] W (StepPost PD S q (doD m s) W) := by
  unfold spV
  obtain ⟨K, hK⟩ : ∃ K, s.kind = K := ⟨_, rfl⟩
  rw [hK]
  obtain ⟨o, ho⟩ : ∃ o : Obj, o = .cells #[.int .i64 K, .string ⟨s.name.toArray⟩, .string ⟨s.to.toArray⟩, .slice A n c, .int .u64 ((s.n : Nat) : Int), .int .i64 s.m] 36 := ⟨_, rfl⟩
  have hT : Turn (fun _ => False) W (W.alloc o) := (Turn.refl _ W).alloc o
  have h0 : PD (W.alloc o) S q m := C.turn h hT (fun k hk => hk.elim)
  have hda0 : BytS (W.alloc o) S A n s.data := hda.turn ((Turn.refl S W).alloc o)
  by_cases k1 : K = 1
  · subst k1
    have hC := C.append (W.alloc o) S q m s.name s.data A n c h0 hO hl hd hda0 hnil hnc hcm
    rw [← doD_app m s hK] at hC
    rw [ho] at hC
    clear hK ho hT h0 hda0
    go_enter Try.func9, Try.ntmps9
    go_wp2_with fail
    refine hC.mono ?_
    intro e W' hp
    obtain ⟨S', rfl, h2, h3, h4⟩ := hp.back
    have HP := Lib.hid (show StepPost PD S q (doD m s) W _ W' from ⟨S', rfl, h2, h3, h4⟩)
    clear hC hp h2 h3 h4
    go_wp2_with fail
    go_ret
    exact HP.out
  by_cases k2 : K = 2
  · subst k2
    have hC := C.sync (W.alloc o) S q m s.name h0 hO hl
    rw [← doD_sync m s hK] at hC
    rw [ho] at hC
    clear hK ho hT h0 hda0
    go_enter Try.func9, Try.ntmps9
    go_wp2_with fail
    refine hC.mono ?_
    intro e W' hp
    obtain ⟨S', rfl, h2, h3, h4⟩ := hp.back
    have HP := Lib.hid (show StepPost PD S q (doD m s) W _ W' from ⟨S', rfl, h2, h3, h4⟩)
    clear hC hp h2 h3 h4
    go_wp2_with fail
    go_ret
    exact HP.out
  by_cases k3 : K = 3
  · subst k3
    have hC := C.rename (W.alloc o) S q m s.name s.to h0 hO hl hl2
    rw [← doD_ren m s hK] at hC
    rw [ho] at hC
    clear hK ho hT h0 hda0
    go_enter Try.func9, Try.ntmps9
    go_wp2_with fail
    refine hC.mono ?_
    intro e W' hp
    obtain ⟨S', rfl, h2, h3, h4⟩ := hp.back
    have HP := Lib.hid (show StepPost PD S q (doD m s) W _ W' from ⟨S', rfl, h2, h3, h4⟩)
    clear hC hp h2 h3 h4
    go_wp2_with fail
    go_ret
    exact HP.out
  by_cases k4 : K = 4
  · subst k4
    have hC := C.remove (W.alloc o) S q m s.name h0 hO hl
    rw [← doD_rem m s hK] at hC
    rw [ho] at hC
    clear hK ho hT h0 hda0
    go_enter Try.func9, Try.ntmps9
    go_wp2_with fail
    refine hC.mono ?_
    intro e W' hp
    obtain ⟨S', rfl, h2, h3, h4⟩ := hp.back
    have HP := Lib.hid (show StepPost PD S q (doD m s) W _ W' from ⟨S', rfl, h2, h3, h4⟩)
    clear hC hp h2 h3 h4
    go_wp2_with fail
    go_ret
    exact HP.out
  have mv : ∀ (m' : Dk) (e : Ending) (W' : World), doD m s = (0, m') → MovePost PD S q m' (W.alloc o) e W' → StepPost PD S q (doD m s) W (.returned (.int .i64 0)) W' ∧ e = .returned (.tuple #[]) := fun m' e W' hm hp => by
    obtain ⟨S', h1, h2, h3, h4⟩ := hp
    refine ⟨?_, h1⟩
    rw [hm]
    exact StepPost.back (o := o) ⟨S', rfl, h2, h3, h4⟩
  by_cases k5 : K = 5
  · subst k5
    have hC := C.arm (W.alloc o) S q m s.n s.m h0 hO hsn
    have HM := Lib.hid (fun e W' => mv _ e W' (do_arm m s hK))
    rw [ho] at hC HM
    clear hK ho hT h0 hda0 mv
    go_enter Try.func9, Try.ntmps9
    go_wp2_with fail
    refine hC.mono ?_
    intro e W' hp
    obtain ⟨hq, rfl⟩ := HM.out e W' hp
    have HP := Lib.hid hq
    clear hC hp hq HM
    go_wp2_with fail
    go_ret
    exact HP.out
  by_cases k6 : K = 6
  · subst k6
    have hC := C.crash (W.alloc o) S q m s.m h0 hO
    have HM := Lib.hid (fun e W' => mv _ e W' (do_crash m s hK))
    rw [ho] at hC HM
    clear hK ho hT h0 hda0 mv
    go_enter Try.func9, Try.ntmps9
    go_wp2_with fail
    refine hC.mono ?_
    intro e W' hp
    obtain ⟨hq, rfl⟩ := HM.out e W' hp
    have HP := Lib.hid hq
    clear hC hp hq HM
    go_wp2_with fail
    go_ret
    exact HP.out
  by_cases k7 : K = 7
  · subst k7
    have hC := C.up (W.alloc o) S q m h0 hO
    have HM := Lib.hid (fun e W' => mv _ e W' (do_up m s hK))
    rw [ho] at hC HM
    clear hK ho hT h0 hda0 mv
    go_enter Try.func9, Try.ntmps9
    go_wp2_with fail
    refine hC.mono ?_
    intro e W' hp
    obtain ⟨hq, rfl⟩ := HM.out e W' hp
    have HP := Lib.hid hq
    clear hC hp hq HM
    go_wp2_with fail
    go_ret
    exact HP.out
  have hn : doD m s = (0, m) := do_none m s (by unfold isCall; rw [hK]; simp; omega) (by omega) (by omega) (by omega)
  have HP : Hid (StepPost PD S q (doD m s) W (.returned (.int .i64 0)) (W.alloc o)) := Lib.hid (by
    rw [hn]
    exact StepPost.back (o := o) ⟨S, rfl, h0, fun k hk => .inl hk, Turn.refl _ _⟩)
  have d1 : (K == 1) = false := by simpa using k1
  have d2 : (K == 2) = false := by simpa using k2
  have d3 : (K == 3) = false := by simpa using k3
  have d4 : (K == 4) = false := by simpa using k4
  have d5 : (K == 5) = false := by simpa using k5
  have d6 : (K == 6) = false := by simpa using k6
  have d7 : (K == 7) = false := by simpa using k7
  rw [ho] at HP
  clear hK ho hT h0 hda0 mv hn k1 k2 k3 k4 k5 k6 k7
  go_enter Try.func9, Try.ntmps9
  go_wp2_with fail
  go_ret
  exact HP.out

end Go.Proofs.Ytnjkilmhphcocaa
