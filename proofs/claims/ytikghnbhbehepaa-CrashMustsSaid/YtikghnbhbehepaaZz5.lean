/-
  The reference's disk: a step.
-/
import Derived.Test.YtikghnbhbehepaaZz4
namespace Go.Proofs.Ytikghnbhbehepaa
open Go.RowKit
set_option linter.unusedVariables false
set_option linter.unusedSimpArgs false

/-- A step. -/
structure Sp where
  kind : Int
  name : List UInt8
  to : List UInt8
  data : List UInt8
  n : Nat
  m : Int
/-- The value of a step. -/
def spV (s : Sp) (A : Option Addr) (n c : Nat) : Value := .agg #[.int .i64 s.kind, .string ⟨s.name.toArray⟩, .string ⟨s.to.toArray⟩, .slice A n c, .int .u64 ((s.n : Nat) : Int), .int .i64 s.m]
def isCall (s : Sp) : Bool := decide (1 ≤ s.kind) && decide (s.kind ≤ 4)
def withFs (m : Dk) (l : List Fl) : Dk := ⟨l, m.cap, m.calls, m.armed, m.left, m.keep, m.down⟩
/-- The file of a name, or one without bytes. -/
def fileF (s : List UInt8) (l : List Fl) : Fl := (lookF s l).getD ⟨s, [], 0⟩
/-- What a call that begins answers, and what is there behind it. -/
def callD (m : Dk) (s : Sp) : Int × Dk :=
  if !targetB s.name || (decide (s.kind = 3) && !targetB s.to) then (7, m)
  else if s.kind = 1 then
    (if !(lookF s.name m.files).isSome && decide (1024 ≤ m.files.length) then (15, m)
    else if m.cap - sizeF m.files < (s.data.length : Int) then (10, m)
    else (0, withFs m (withF ⟨s.name, (fileF s.name m.files).data ++ s.data, (fileF s.name m.files).sure⟩ false m.files)))
  else if !(lookF s.name m.files).isSome then (8, m)
  else if s.kind = 2 then (0, withFs m (withF ⟨s.name, (fileF s.name m.files).data, (fileF s.name m.files).data.length⟩ false m.files))
  else if s.kind = 3 then (0, withFs m (withF ⟨s.to, (fileF s.name m.files).data, (fileF s.name m.files).sure⟩ false (withoutF s.name m.files)))
  else (0, withFs m (withoutF s.name m.files))
/-- A step's answer, and how the disk stands behind it. -/
def doD (m : Dk) (s : Sp) : Int × Dk :=
  if s.kind = 5 then (0, ⟨m.files, m.cap, m.calls, true, s.n, s.m, m.down⟩)
  else if s.kind = 6 then (0, crashD s.m m)
  else if s.kind = 7 then (0, ⟨m.files, m.cap, m.calls, m.armed, m.left, m.keep, false⟩)
  else if !isCall s then (0, m)
  else if (beginD m).1 then callD (beginD m).2 s else (19, (beginD m).2)
def DoPost (S : Nat → Prop) (p : Nat) (r : Int × Dk) (W : World) (e : Ending) (W' : World) : Prop := e = .returned (.int .i64 r.1) ∧ RD W' S p r.2 ∧ Turn (fun k => k = p) W W'

theorem do_arm (m : Dk) (s : Sp) (h : s.kind = 5) : doD m s = (0, ⟨m.files, m.cap, m.calls, true, s.n, s.m, m.down⟩) := by unfold doD; rw [if_pos h]
theorem do_crash (m : Dk) (s : Sp) (h : s.kind = 6) : doD m s = (0, crashD s.m m) := by unfold doD; rw [if_neg (by omega), if_pos h]
theorem do_up (m : Dk) (s : Sp) (h : s.kind = 7) : doD m s = (0, ⟨m.files, m.cap, m.calls, m.armed, m.left, m.keep, false⟩) := by unfold doD; rw [if_neg (by omega), if_neg (by omega), if_pos h]
theorem do_none (m : Dk) (s : Sp) (h : isCall s = false) (h5 : s.kind ≠ 5) (h6 : s.kind ≠ 6) (h7 : s.kind ≠ 7) : doD m s = (0, m) := by unfold doD; rw [if_neg h5, if_neg h6, if_neg h7, h]; rfl

set_option maxRecDepth 100000 in
set_option maxHeartbeats 2000000 in
/-- A step that is no call. -/
theorem rdo_other (S : Nat → Prop) (p : Nat) (m : Dk) (s : Sp) (A : Option Addr) (n c : Nat) (W : World) (h : RD W S p m) (hG : GoodD m) (hk : isCall s = false) :
    Calls Try.prog 16 #[.pointer (some ⟨p, 0, none⟩), spV s A n c] W (DoPost S p (doD m s) W) := by
  have HR := Lib.hid h
  obtain ⟨A1, n1, c1, hB, hF, hSp, hSo⟩ := h
  have hlt := hB.lt
  have HF := Lib.hid hF
  have HSO := Lib.hid (And.intro hSp hSo)
  have HB := Lib.hid hB
  have hkk : s.kind < 1 ∨ 4 < s.kind := by
    unfold isCall at hk
    simp at hk
    omega
  have HK := Lib.hid hk
  clear hB hF hSp hSo hk
  unfold spV
  obtain ⟨K, hK⟩ : ∃ K, s.kind = K := ⟨_, rfl⟩
  rw [hK] at hkk ⊢
  have hBa : ∀ i, W.cell? ⟨p, i, none⟩ = (dkL m A1 n1 c1)[i]? := HB.out.cell
  have hfz := HB.out.frozen
  by_cases h5 : K = 5
  · have HE := Lib.hid (do_arm m s (hK.trans h5))
    subst h5
    have e3 : W.cell? ⟨p, 3, none⟩ = some (.bool m.armed) := hBa 3
    have e4 : W.cell? ⟨p, 4, none⟩ = some (.int .u64 ((m.left : Nat) : Int)) := hBa 4
    have e5 : W.cell? ⟨p, 5, none⟩ = some (.int .i64 m.keep) := hBa 5
    clear hBa hkk hK
    go_enter Try.func16, Try.ntmps16
    go_wp2_with fail
    go_ret
    rw [HE.out]
    obtain ⟨hSp, hSo⟩ := HSO.out
    have ht : Turn (fun k => k = p) W (((W.setCell ⟨p, 3, none⟩ (.bool true)).setCell ⟨p, 4, none⟩ (.int .u64 ((s.n : Nat) : Int))).setCell ⟨p, 5, none⟩ (.int .i64 s.m)) := (((Turn.refl (fun k => k = p) W).setCell (p := ⟨p, 3, none⟩) rfl _).setCell (p := ⟨p, 4, none⟩) rfl _).setCell (p := ⟨p, 5, none⟩) rfl _
    have hBf := (((HB.out.set 3 (.bool true)).set 4 (.int .u64 ((s.n : Nat) : Int))).set 5 (.int .i64 s.m)).alloc (.cells #[.int .i64 5, .string ⟨s.name.toArray⟩, .string ⟨s.to.toArray⟩, .slice A n c, .int .u64 ((s.n : Nat) : Int), .int .i64 s.m] 46)
    have ht2 := ht.alloc (.cells #[.int .i64 5, .string ⟨s.name.toArray⟩, .string ⟨s.to.toArray⟩, .slice A n c, .int .u64 ((s.n : Nat) : Int), .int .i64 s.m] 46)
    exact ⟨rfl, ⟨A1, n1, c1, hBf, HF.out.turn (ht2.mono fun k hk => by rw [hk]; exact hSp), hSp, fun k hk => Nat.lt_of_lt_of_le (hSo k hk) ht2.size⟩, ht2⟩
  by_cases h6 : K = 6
  · have HE := Lib.hid (do_crash m s (hK.trans h6))
    subst h6
    have ht0 : Turn (fun k => k = p) W (W.alloc (.cells #[.int .i64 6, .string ⟨s.name.toArray⟩, .string ⟨s.to.toArray⟩, .slice A n c, .int .u64 ((s.n : Nat) : Int), .int .i64 s.m] 46)) := (Turn.refl _ W).alloc _
    have hCr := rcrash_any S p m s.m _ (HR.out.turn (S' := fun _ => False) ((Turn.refl (fun _ => False) W).alloc (.cells #[.int .i64 6, .string ⟨s.name.toArray⟩, .string ⟨s.to.toArray⟩, .slice A n c, .int .u64 ((s.n : Nat) : Int), .int .i64 s.m] 46)) (fun k hk => hk.elim) (fun hk => hk)) hG
    have b0 : (W.alloc (.cells #[.int .i64 6, .string ⟨s.name.toArray⟩, .string ⟨s.to.toArray⟩, .slice A n c, .int .u64 ((s.n : Nat) : Int), .int .i64 s.m] 46)).cell? ⟨W.heap.size, 0, none⟩ = some (.int .i64 6) := (Blk.new W 46 (cs := [.int .i64 6, .string ⟨s.name.toArray⟩, .string ⟨s.to.toArray⟩, .slice A n c, .int .u64 ((s.n : Nat) : Int), .int .i64 s.m]) _ rfl).cell 0
    have HB0 := Lib.hid b0
    have HT0 := Lib.hid ht0
    clear hBa hkk hK b0 ht0
    go_enter Try.func16, Try.ntmps16
    go_wp2_with fail
    refine hCr.mono ?_
    rintro e W1 ⟨rfl, hr1, ht1⟩
    have c0 : W1.cell? ⟨W.heap.size, 0, none⟩ = some (.int .i64 6) := ht1.at_ HB0.out (by
      show ¬ W.heap.size = p
      omega)
    have HX := Lib.hid (And.intro hr1 ht1)
    clear hCr hr1 ht1
    go_wp2_with fail
    go_ret
    rw [HE.out]
    exact ⟨rfl, HX.out.1, HT0.out.trans HX.out.2⟩
  by_cases h7 : K = 7
  · have HE := Lib.hid (do_up m s (hK.trans h7))
    subst h7
    have e6 : W.cell? ⟨p, 6, none⟩ = some (.bool m.down) := hBa 6
    clear hBa hkk hK
    go_enter Try.func16, Try.ntmps16
    go_wp2_with fail
    go_ret
    rw [HE.out]
    obtain ⟨hSp, hSo⟩ := HSO.out
    have ht : Turn (fun k => k = p) W (W.setCell ⟨p, 6, none⟩ (.bool false)) := (Turn.refl (fun k => k = p) W).setCell (p := ⟨p, 6, none⟩) rfl _
    have hBf := (HB.out.set 6 (.bool false)).alloc (.cells #[.int .i64 7, .string ⟨s.name.toArray⟩, .string ⟨s.to.toArray⟩, .slice A n c, .int .u64 ((s.n : Nat) : Int), .int .i64 s.m] 46)
    have ht2 := ht.alloc (.cells #[.int .i64 7, .string ⟨s.name.toArray⟩, .string ⟨s.to.toArray⟩, .slice A n c, .int .u64 ((s.n : Nat) : Int), .int .i64 s.m] 46)
    exact ⟨rfl, ⟨A1, n1, c1, hBf, HF.out.turn (ht2.mono fun k hk => by rw [hk]; exact hSp), hSp, fun k hk => Nat.lt_of_lt_of_le (hSo k hk) ht2.size⟩, ht2⟩
  have HE := Lib.hid (do_none m s HK.out (by omega) (by omega) (by omega))
  have d1 : (decide (K < 1) || decide (4 < K)) = true := by
    rcases hkk with h | h <;> simp [h]
  have d5 : (K == 5) = false := by simpa using h5
  have d6 : (K == 6) = false := by simpa using h6
  have d7 : (K == 7) = false := by simpa using h7
  clear hBa hK
  rcases hkk with hk | hk
  · have d2 : decide (K < 1) = true := decide_eq_true hk
    clear hk
    go_enter Try.func16, Try.ntmps16
    go_wp2_with fail
    go_ret
    rw [HE.out]
    exact ⟨rfl, HR.out.turn (S' := fun _ => False) ((Turn.refl (fun _ => False) W).alloc _) (fun k hk => hk.elim) (fun hk => hk), (Turn.refl _ W).alloc _⟩
  · have d2 : decide (K < 1) = false := decide_eq_false (by omega)
    have d3 : decide (K > 4) = true := decide_eq_true hk
    have d4 : decide (4 < K) = true := decide_eq_true hk
    clear hk
    go_enter Try.func16, Try.ntmps16
    go_wp2_with fail
    go_ret
    rw [HE.out]
    exact ⟨rfl, HR.out.turn (S' := fun _ => False) ((Turn.refl (fun _ => False) W).alloc _) (fun k hk => hk.elim) (fun hk => hk), (Turn.refl _ W).alloc _⟩

end Go.Proofs.Ytikghnbhbehepaa

/-
  The reference's disk: calls that do not begin, and such with a name that is none.
-/
namespace Go.Proofs.Ytikghnbhbehepaa
open Go.RowKit
set_option linter.unusedVariables false
set_option linter.unusedSimpArgs false

theorem do_refused (m : Dk) (s : Sp) (h : isCall s = true) (hb : (beginD m).1 = false) : doD m s = (19, (beginD m).2) := by
  have h2 : 1 ≤ s.kind ∧ s.kind ≤ 4 := by unfold isCall at h; simpa using h
  unfold doD
  rw [if_neg (by omega), if_neg (by omega), if_neg (by omega), h, hb]
  rfl
theorem do_call (m : Dk) (s : Sp) (h : isCall s = true) (hb : (beginD m).1 = true) : doD m s = callD (beginD m).2 s := by
  have h2 : 1 ≤ s.kind ∧ s.kind ≤ 4 := by unfold isCall at h; simpa using h
  unfold doD
  rw [if_neg (by omega), if_neg (by omega), if_neg (by omega), h, hb]
  rfl
theorem begin_same (m : Dk) (h : (beginD m).1 = true) : (beginD m).2.files = m.files ∧ (beginD m).2.cap = m.cap := by
  unfold beginD at h ⊢
  split at h
  · cases h
  · split at h
    · cases h
    · rename_i h1 h2
      rw [if_neg h1, if_neg h2]
      exact ⟨rfl, rfl⟩
/-- The cells of a step. -/
def spL (K : Int) (s : Sp) (A : Option Addr) (n c : Nat) : List Value := [.int .i64 K, .string ⟨s.name.toArray⟩, .string ⟨s.to.toArray⟩, .slice A n c, .int .u64 ((s.n : Nat) : Int), .int .i64 s.m]
/-- How it stands behind the asking whether the call begins: g is the step's block. -/
structure Begun (W W1 : World) (S : Nat → Prop) (p : Nat) (m1 : Dk) (K : Int) (s : Sp) (A : Option Addr) (n c : Nat) : Prop where
  rd : RD W1 S p m1
  box : Blk W1 W.heap.size 46 (spL K s A n c)
  turn : Turn (fun k => k = p) W W1

set_option maxRecDepth 100000 in
set_option maxHeartbeats 2000000 in
/-- The asking. -/
theorem begun_any (S : Nat → Prop) (p : Nat) (m : Dk) (K : Int) (s : Sp) (A : Option Addr) (n c : Nat) (W : World) (h : RD W S p m) (hG : GoodD m) (hcl : m.calls ≤ 1000000) (hlf : m.left < 18446744073709551616) :
    Calls Try.prog 30 #[.pointer (some ⟨p, 0, none⟩)] (W.alloc (.cells #[.int .i64 K, .string ⟨s.name.toArray⟩, .string ⟨s.to.toArray⟩, .slice A n c, .int .u64 ((s.n : Nat) : Int), .int .i64 s.m] 46))
      fun e W1 => e = .returned (.bool (beginD m).1) ∧ Begun W W1 S p (beginD m).2 K s A n c := by
  have h0 : RD (W.alloc (.cells #[.int .i64 K, .string ⟨s.name.toArray⟩, .string ⟨s.to.toArray⟩, .slice A n c, .int .u64 ((s.n : Nat) : Int), .int .i64 s.m] 46)) S p m := h.turn (S' := fun _ => False) ((Turn.refl (fun _ => False) W).alloc _) (fun k hk => hk.elim) (fun hk => hk)
  refine (rbegin_any S p m _ h0 hG hcl hlf).mono ?_
  rintro e W1 ⟨he, hr, ht⟩
  have hlt : p < W.heap.size := by
    obtain ⟨A1, n1, c1, hB, _⟩ := h
    exact hB.lt
  exact ⟨he, hr, ht.blk (Blk.new W _ _ rfl) (by omega), ((Turn.refl _ W).alloc _).trans ht⟩

set_option maxRecDepth 100000 in
set_option maxHeartbeats 2000000 in
theorem rdo_refused (S : Nat → Prop) (p : Nat) (m : Dk) (s : Sp) (A : Option Addr) (n c : Nat) (W : World) (h : RD W S p m) (hG : GoodD m) (hcl : m.calls ≤ 1000000) (hlf : m.left < 18446744073709551616) (hk : isCall s = true) (hb : (beginD m).1 = false) :
    Calls Try.prog 16 #[.pointer (some ⟨p, 0, none⟩), spV s A n c] W (DoPost S p (doD m s) W) := by
  have HE := Lib.hid (do_refused m s hk hb)
  have hkk : 1 ≤ s.kind ∧ s.kind ≤ 4 := by
    unfold isCall at hk
    simpa using hk
  have HB := begun_any S p m s.kind s A n c W h hG hcl hlf
  rw [hb] at HB
  obtain ⟨K, hK⟩ : ∃ K, s.kind = K := ⟨_, rfl⟩
  unfold spV
  rw [hK] at hkk HB ⊢
  have d5 : (K == 5) = false := by simp; omega
  have d6 : (K == 6) = false := by simp; omega
  have d7 : (K == 7) = false := by simp; omega
  have d1 : decide (K < 1) = false := decide_eq_false (by omega)
  have d2 : decide (4 < K) = false := decide_eq_false (by omega)
  have d3 : decide (K > 4) = false := decide_eq_false (by omega)
  clear hK hkk hk hb h
  go_enter Try.func16, Try.ntmps16
  go_wp2_with fail
  refine HB.mono ?_
  rintro e W1 ⟨rfl, hr⟩
  have HX := Lib.hid hr
  clear HB hr
  go_wp2_with fail
  go_ret
  rw [HE.out]
  exact ⟨rfl, HX.out.rd, HX.out.turn⟩

theorem call_name (m : Dk) (s : Sp) (h : targetB s.name = false) : callD m s = (7, m) := by unfold callD; rw [h]; rfl
theorem call_to (m : Dk) (s : Sp) (h : s.kind = 3) (ht : targetB s.to = false) : callD m s = (7, m) := by unfold callD; rw [h, ht]; simp

set_option maxRecDepth 100000 in
set_option maxHeartbeats 2000000 in
/-- The name is none. -/
theorem rdo_name (S : Nat → Prop) (p : Nat) (m : Dk) (s : Sp) (A : Option Addr) (n c : Nat) (W : World) (h : RD W S p m) (hG : GoodD m) (hcl : m.calls ≤ 1000000) (hlf : m.left < 18446744073709551616) (hk : isCall s = true) (hb : (beginD m).1 = true)
    (hl : s.name.length ≤ 10000) (hn : targetB s.name = false) :
    Calls Try.prog 16 #[.pointer (some ⟨p, 0, none⟩), spV s A n c] W (DoPost S p (doD m s) W) := by
  have HE := Lib.hid ((do_call m s hk hb).trans (call_name _ s hn))
  have hkk : 1 ≤ s.kind ∧ s.kind ≤ 4 := by
    unfold isCall at hk
    simpa using hk
  have HB := begun_any S p m s.kind s A n c W h hG hcl hlf
  rw [hb] at HB
  obtain ⟨K, hK⟩ : ∃ K, s.kind = K := ⟨_, rfl⟩
  unfold spV
  rw [hK] at hkk HB ⊢
  have d5 : (K == 5) = false := by simp; omega
  have d6 : (K == 6) = false := by simp; omega
  have d7 : (K == 7) = false := by simp; omega
  have d1 : decide (K < 1) = false := decide_eq_false (by omega)
  have d2 : decide (4 < K) = false := decide_eq_false (by omega)
  have d3 : decide (K > 4) = false := decide_eq_false (by omega)
  clear hK hkk hk hb h
  go_enter Try.func16, Try.ntmps16
  go_wp2_with fail
  refine HB.mono ?_
  rintro e W1 ⟨rfl, hr⟩
  have b1 : W1.cell? ⟨W.heap.size, 1, none⟩ = some (.string ⟨s.name.toArray⟩) := hr.box.cell 1
  have hT := refTarget_any ⟨s.name.toArray⟩ (by simpa [ByteArray.size] using hl) W1
  simp only [List.toList_toArray] at hT
  rw [hn] at hT
  have HX := Lib.hid hr
  clear HB hr
  go_wp2_with fail
  refine hT.mono ?_
  rintro e W2 ⟨rfl, rfl⟩
  clear hT
  go_wp2_with fail
  go_ret
  rw [HE.out]
  exact ⟨rfl, HX.out.rd, HX.out.turn⟩

end Go.Proofs.Ytikghnbhbehepaa

/-
  The reference's disk: calls on a file that is not there.
-/
namespace Go.Proofs.Ytikghnbhbehepaa
open Go.RowKit
set_option linter.unusedVariables false
set_option linter.unusedSimpArgs false

theorem RD.drewN {w : World} {S : Nat → Prop} {p : Nat} {m : Dk} (h : RD w S p m) (q : Nat) : RD (w.drewN q) S p m :=
  h.turn (S' := fun _ => False) ((Turn.refl (fun _ => False) w).drewN q) (fun k hk => hk.elim) (fun hk => hk)
theorem Begun.drewN {W W1 : World} {S : Nat → Prop} {p : Nat} {m1 : Dk} {K : Int} {s : Sp} {A : Option Addr} {n c : Nat} (h : Begun W W1 S p m1 K s A n c) (q : Nat) : Begun W (W1.drewN q) S p m1 K s A n c :=
  ⟨h.rd.drewN q, h.box.drewN q, h.turn.drewN q⟩
theorem call_to_ok (s : Sp) (h : s.kind = 3 → targetB s.to = true) : (decide (s.kind = 3) && !targetB s.to) = false := by
  by_cases h3 : s.kind = 3
  · rw [h h3]; simp
  · simp [h3]
theorem call_none (m : Dk) (s : Sp) (hn : targetB s.name = true) (ht : s.kind = 3 → targetB s.to = true) (h1 : s.kind ≠ 1) (hlo : lookF s.name m.files = none) : callD m s = (8, m) := by
  unfold callD
  rw [hn, call_to_ok s ht, if_neg h1, hlo]
  rfl

set_option maxRecDepth 100000 in
set_option maxHeartbeats 2000000 in
/-- There is no such file: Sync, Rename, Remove. -/
theorem rdo_none (S : Nat → Prop) (p : Nat) (m : Dk) (s : Sp) (A : Option Addr) (n c : Nat) (W : World) (h : RD W S p m) (hG : GoodD m) (hcl : m.calls ≤ 1000000) (hlf : m.left < 18446744073709551616) (hk : isCall s = true) (hb : (beginD m).1 = true)
    (hl : s.name.length ≤ 10000) (hl2 : s.to.length ≤ 10000) (hn : targetB s.name = true) (ht : s.kind = 3 → targetB s.to = true) (h1 : s.kind ≠ 1) (hlo : lookF s.name m.files = none) :
    Calls Try.prog 16 #[.pointer (some ⟨p, 0, none⟩), spV s A n c] W (DoPost S p (doD m s) W) := by
  have HE := Lib.hid ((do_call m s hk hb).trans (call_none _ s hn ht h1 (by rw [(begin_same m hb).1]; exact hlo)))
  have hkk : 1 ≤ s.kind ∧ s.kind ≤ 4 := by
    unfold isCall at hk
    simpa using hk
  have HB := begun_any S p m s.kind s A n c W h hG hcl hlf
  rw [hb] at HB
  have hmf := (begin_same m hb).1
  obtain ⟨m1, hm1⟩ : ∃ m1, (beginD m).2 = m1 := ⟨_, rfl⟩
  rw [hm1] at HB hmf HE
  have hlo1 : lookF s.name m1.files = none := by rw [hmf]; exact hlo
  have hfl1 : m1.files.length ≤ 2000 := by rw [hmf]; exact hG.1
  obtain ⟨K, hK⟩ : ∃ K, s.kind = K := ⟨_, rfl⟩
  unfold spV
  rw [hK] at hkk HB ht h1 ⊢
  have d5 : (K == 5) = false := by simp; omega
  have d6 : (K == 6) = false := by simp; omega
  have d7 : (K == 7) = false := by simp; omega
  have d1 : decide (K < 1) = false := decide_eq_false (by omega)
  have d2 : decide (4 < K) = false := decide_eq_false (by omega)
  have d3 : decide (K > 4) = false := decide_eq_false (by omega)
  have d8 : (K == 1) = false := by simp; omega
  clear hK hkk hk hb h hmf hm1 hlo h1
  go_enter Try.func16, Try.ntmps16
  go_wp2_with fail
  refine HB.mono ?_
  rintro e W1 ⟨rfl, hr⟩
  have b0 : W1.cell? ⟨W.heap.size, 0, none⟩ = some (.int .i64 K) := hr.box.cell 0
  have b1 : W1.cell? ⟨W.heap.size, 1, none⟩ = some (.string ⟨s.name.toArray⟩) := hr.box.cell 1
  have b2 : W1.cell? ⟨W.heap.size, 2, none⟩ = some (.string ⟨s.to.toArray⟩) := hr.box.cell 2
  have hT := refTarget_any ⟨s.name.toArray⟩ (by simpa [ByteArray.size] using hl) W1
  simp only [List.toList_toArray] at hT
  rw [hn] at hT
  have hT2 := refTarget_any ⟨s.to.toArray⟩ (by simpa [ByteArray.size] using hl2) W1
  simp only [List.toList_toArray] at hT2
  obtain ⟨A1, n1, c1, hB1, hF1, hSp, hSo⟩ := hr.rd
  have hfz := hB1.frozen
  have e0 : W1.cell? ⟨p, 0, none⟩ = some (.slice A1 n1 c1) := hB1.cell 0
  have hn1 : n1 ≤ 1000000 := by have := hF1.1; omega
  have hFi := fun q => find_any A1 n1 c1 m1.files ⟨s.name.toArray⟩ S (W1.drewN q) (hF1.turn ((Turn.refl S W1).drewN q)) hn1
  simp only [List.toList_toArray] at hFi
  have hfn : findN s.name m1.files 0 = -1 := by
    rcases findN_spec s.name m1.files 0 with ⟨h1, _⟩ | ⟨j, f, _, _, h3⟩
    · exact h1
    · rw [hlo1] at h3; cases h3
  rw [hfn] at hFi
  have HX := Lib.hid hr
  clear HB hr hB1 hF1 hSp hSo hfn hlo1 hn1 hfl1
  go_wp2_with fail
  refine hT.mono ?_
  rintro e W2 ⟨rfl, rfl⟩
  clear hT
  by_cases h3 : K = 3
  · subst h3
    rw [ht rfl] at hT2
    go_wp2_with fail
    refine hT2.mono ?_
    rintro e W2 ⟨rfl, rfl⟩
    clear hT2
    go_wp2_with fail
    go_quiet ((go_at_call 32; exact Calls.quiet_of_same (hFi _)))
    have HX2 := Lib.hid (HX.out.drewN nq)
    revert HX2
    have c0 : (W2.drewN nq).cell? ⟨W.heap.size, 0, none⟩ = some (.int .i64 3) := b0
    have c1 : (W2.drewN nq).cell? ⟨W.heap.size, 1, none⟩ = some (.string ⟨s.name.toArray⟩) := b1
    revert c0 c1
    generalize W2.drewN nq = w3
    intro c0 c1 HX2
    have hlt := HX2.out.box.lt
    clear b0 b1 b2 e0 hfz HX hFi
    go_wp2_with fail
    go_ret
    rw [HE.out]
    exact ⟨rfl, HX2.out.rd.turn (S' := fun _ => False) ((Turn.refl (fun _ => False) w3).alloc _) (fun k hk => hk.elim) (fun hk => hk), HX2.out.turn.alloc _⟩
  · have d9 : (K == 3) = false := by simpa using h3
    clear hT2 h3 ht
    go_wp2_with fail
    go_quiet ((go_at_call 32; exact Calls.quiet_of_same (hFi _)))
    have HX2 := Lib.hid (HX.out.drewN nq)
    revert HX2
    have c0 : (W2.drewN nq).cell? ⟨W.heap.size, 0, none⟩ = some (.int .i64 K) := b0
    have c1 : (W2.drewN nq).cell? ⟨W.heap.size, 1, none⟩ = some (.string ⟨s.name.toArray⟩) := b1
    revert c0 c1
    generalize W2.drewN nq = w3
    intro c0 c1 HX2
    have hlt := HX2.out.box.lt
    clear b0 b1 b2 e0 hfz HX hFi
    go_wp2_with fail
    go_ret
    rw [HE.out]
    exact ⟨rfl, HX2.out.rd.turn (S' := fun _ => False) ((Turn.refl (fun _ => False) w3).alloc _) (fun k hk => hk.elim) (fun hk => hk), HX2.out.turn.alloc _⟩

end Go.Proofs.Ytikghnbhbehepaa
