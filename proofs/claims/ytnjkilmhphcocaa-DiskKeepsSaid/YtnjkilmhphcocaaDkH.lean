/-
  The reference's disk: calls that do not begin, and such with a name that is none.
-/
import Derived.Test.YtnjkilmhphcocaaDkG
namespace Go.Proofs.Ytnjkilmhphcocaa
open Go.RowKit
set_option linter.unusedVariables false
set_option linter.unusedSimpArgs false

theorem do_refused (m : Dk) (s : Sp) (h : isCall s = true) (hb : (beginD m).1 = false) : doD m s = (19, (beginD m).2) := by
  have h2 : 1 ≤ s.kind ∧ s.kind ≤ 4 := by unfold isCall at h; simpa using h
  unfold doD
  rw [if_neg (by omega), if_neg (by omega), if_neg (by omega), h, hb]
  rfl
theorem do_call (m : Dk) (s : Sp) (h : isCall s = true) (hb : (beginD m).1 = true) : doD m s = callD (beginD m).2 s := by
  have h2 : 1 ≤ s.kind ∧ s.kind ≤ 4 := by unfold isCall at h; simpa using h
  unfold doD
  rw [if_neg (by omega), if_neg (by omega), if_neg (by omega), h, hb]
  rfl
theorem begin_same (m : Dk) (h : (beginD m).1 = true) : (beginD m).2.files = m.files ∧ (beginD m).2.cap = m.cap := by
  unfold beginD at h ⊢
  split at h
  · cases h
  · split at h
    · cases h
    · rename_i h1 h2
      rw [if_neg h1, if_neg h2]
      exact ⟨rfl, rfl⟩
/-- The cells of a step. -/
def spL (K : Int) (s : Sp) (A : Option Addr) (n c : Nat) : List Value := [.int .i64 K, .string ⟨s.name.toArray⟩, .string ⟨s.to.toArray⟩, .slice A n c, .int .u64 ((s.n : Nat) : Int), .int .i64 s.m]
/-- How it stands behind the asking whether the call begins: g is the step's block. -/
structure Begun (W W1 : World) (S : Nat → Prop) (p : Nat) (m1 : Dk) (K : Int) (s : Sp) (A : Option Addr) (n c : Nat) : Prop where
  rd : RD W1 S p m1
  box : Blk W1 W.heap.size 36 (spL K s A n c)
  turn : Turn (fun k => k = p) W W1

set_option maxRecDepth 100000 in
set_option maxHeartbeats 2000000 in
/-- The asking. -/
theorem begun_any (S : Nat → Prop) (p : Nat) (m : Dk) (K : Int) (s : Sp) (A : Option Addr) (n c : Nat) (W : World) (h : RD W S p m) (hG : GoodD m) (hcl : m.calls ≤ 1000000) (hlf : m.left < 18446744073709551616) :
    Calls Try.prog 30 #[.pointer (some ⟨p, 0, none⟩)] (W.alloc (.cells #[.int .i64 K, .string ⟨s.name.toArray⟩, .string ⟨s.to.toArray⟩, .slice A n c, .int .u64 ((s.n : Nat) : Int), .int .i64 s.m] 36))
      fun e W1 => e = .returned (.bool (beginD m).1) ∧ Begun W W1 S p (beginD m).2 K s A n c := by
  have h0 : RD (W.alloc (.cells #[.int .i64 K, .string ⟨s.name.toArray⟩, .string ⟨s.to.toArray⟩, .slice A n c, .int .u64 ((s.n : Nat) : Int), .int .i64 s.m] 36)) S p m := h.turn (S' := fun _ => False) ((Turn.refl (fun _ => False) W).alloc _) (fun k hk => hk.elim) (fun hk => hk)
  refine (rbegin_any S p m _ h0 hG hcl hlf).mono ?_
  rintro e W1 ⟨he, hr, ht⟩
  have hlt : p < W.heap.size := by
    obtain ⟨A1, n1, c1, hB, _⟩ := h
    exact hB.lt
  exact ⟨he, hr, ht.blk (Blk.new W _ _ rfl) (by omega), ((Turn.refl _ W).alloc _).trans ht⟩

set_option maxRecDepth 100000 in
set_option maxHeartbeats 2000000 in
theorem rdo_refused (S : Nat → Prop) (p : Nat) (m : Dk) (s : Sp) (A : Option Addr) (n c : Nat) (W : World) (h : RD W S p m) (hG : GoodD m) (hcl : m.calls ≤ 1000000) (hlf : m.left < 18446744073709551616) (hk : isCall s = true) (hb : (beginD m).1 = false) :
    Calls Try.prog 10 #[.pointer (some ⟨p, 0, none⟩), spV s A n c] W (DoPost S p (doD m s) W) := by
  have HE := Lib.hid (do_refused m s hk hb)
  have hkk : 1 ≤ s.kind ∧ s.kind ≤ 4 := by
    unfold isCall at hk
    simpa using hk
  have HB := begun_any S p m s.kind s A n c W h hG hcl hlf
  rw [hb] at HB
  obtain ⟨K, hK⟩ : ∃ K, s.kind = K := ⟨_, rfl⟩
  unfold spV
  rw [hK] at hkk HB ⊢
  have d5 : (K == 5) = false := by simp; omega
  have d6 : (K == 6) = false := by simp; omega
  have d7 : (K == 7) = false := by simp; omega
  have d1 : decide (K < 1) = false := decide_eq_false (by omega)
  have d2 : decide (4 < K) = false := decide_eq_false (by omega)
  have d3 : decide (K > 4) = false := decide_eq_false (by omega)
  clear hK hkk hk hb h
  go_enter Try.func10, Try.ntmps10
  go_wp2_with fail
  refine HB.mono ?_
  rintro e W1 ⟨rfl, hr⟩
  have HX := Lib.hid hr
  clear HB hr
  go_wp2_with fail
  go_ret
  rw [HE.out]
  exact ⟨rfl, HX.out.rd, HX.out.turn⟩

theorem call_name (m : Dk) (s : Sp) (h : targetB s.name = false) : callD m s = (7, m) := by unfold callD; rw [h]; rfl
theorem call_to (m : Dk) (s : Sp) (h : s.kind = 3) (ht : targetB s.to = false) : callD m s = (7, m) := by unfold callD; rw [h, ht]; simp

set_option maxRecDepth 100000 in
set_option maxHeartbeats 2000000 in
/-- The name is none. -/
theorem rdo_name (S : Nat → Prop) (p : Nat) (m : Dk) (s : Sp) (A : Option Addr) (n c : Nat) (W : World) (h : RD W S p m) (hG : GoodD m) (hcl : m.calls ≤ 1000000) (hlf : m.left < 18446744073709551616) (hk : isCall s = true) (hb : (beginD m).1 = true)
    (hl : s.name.length ≤ 10000) (hn : targetB s.name = false) :
    Calls Try.prog 10 #[.pointer (some ⟨p, 0, none⟩), spV s A n c] W (DoPost S p (doD m s) W) := by
  have HE := Lib.hid ((do_call m s hk hb).trans (call_name _ s hn))
  have hkk : 1 ≤ s.kind ∧ s.kind ≤ 4 := by
    unfold isCall at hk
    simpa using hk
  have HB := begun_any S p m s.kind s A n c W h hG hcl hlf
  rw [hb] at HB
  obtain ⟨K, hK⟩ : ∃ K, s.kind = K := ⟨_, rfl⟩
  unfold spV
  rw [hK] at hkk HB ⊢
  have d5 : (K == 5) = false := by simp; omega
  have d6 : (K == 6) = false := by simp; omega
  have d7 : (K == 7) = false := by simp; omega
  have d1 : decide (K < 1) = false := decide_eq_false (by omega)
  have d2 : decide (4 < K) = false := decide_eq_false (by omega)
  have d3 : decide (K > 4) = false := decide_eq_false (by omega)
  clear hK hkk hk hb h
  go_enter Try.func10, Try.ntmps10
  go_wp2_with fail
  refine HB.mono ?_
  rintro e W1 ⟨rfl, hr⟩
  have b1 : W1.cell? ⟨W.heap.size, 1, none⟩ = some (.string ⟨s.name.toArray⟩) := hr.box.cell 1
  have hT := refTarget_any ⟨s.name.toArray⟩ (by simpa [ByteArray.size] using hl) W1
  simp only [List.toList_toArray] at hT
  rw [hn] at hT
  have HX := Lib.hid hr
  clear HB hr
  go_wp2_with fail
  refine hT.mono ?_
  rintro e W2 ⟨rfl, rfl⟩
  clear hT
  go_wp2_with fail
  go_ret
  rw [HE.out]
  exact ⟨rfl, HX.out.rd, HX.out.turn⟩

end Go.Proofs.Ytnjkilmhphcocaa
