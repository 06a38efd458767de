/-
  The reference's disk: calls on a file that is not there.
-/
import Derived.Test.YtnjkilmhphcocaaDkH
namespace Go.Proofs.Ytnjkilmhphcocaa
open Go.RowKit
set_option linter.unusedVariables false
set_option linter.unusedSimpArgs false

theorem RD.drewN {w : World} {S : Nat → Prop} {p : Nat} {m : Dk} (h : RD w S p m) (q : Nat) : RD (w.drewN q) S p m :=
  h.turn (S' := fun _ => False) ((Turn.refl (fun _ => False) w).drewN q) (fun k hk => hk.elim) (fun hk => hk)
theorem Begun.drewN {W W1 : World} {S : Nat → Prop} {p : Nat} {m1 : Dk} {K : Int} {s : Sp} {A : Option Addr} {n c : Nat} (h : Begun W W1 S p m1 K s A n c) (q : Nat) : Begun W (W1.drewN q) S p m1 K s A n c :=
  ⟨h.rd.drewN q, h.box.drewN q, h.turn.drewN q⟩
theorem call_to_ok (s : Sp) (h : s.kind = 3 → targetB s.to = true) : (decide (s.kind = 3) && !targetB s.to) = false := by
  by_cases h3 : s.kind = 3
  · rw [h h3]; simp
  · simp [h3]
theorem call_none (m : Dk) (s : Sp) (hn : targetB s.name = true) (ht : s.kind = 3 → targetB s.to = true) (h1 : s.kind ≠ 1) (hlo : lookF s.name m.files = none) : callD m s = (8, m) := by
  unfold callD
  rw [hn, call_to_ok s ht, if_neg h1, hlo]
  rfl

set_option maxRecDepth 100000 in
set_option maxHeartbeats 2000000 in
/-- There is no such file: Sync, Rename, Remove. -/
theorem rdo_none (S : Nat → Prop) (p : Nat) (m : Dk) (s : Sp) (A : Option Addr) (n c : Nat) (W : World) (h : RD W S p m) (hG : GoodD m) (hcl : m.calls ≤ 1000000) (hlf : m.left < 18446744073709551616) (hk : isCall s = true) (hb : (beginD m).1 = true)
    (hl : s.name.length ≤ 10000) (hl2 : s.to.length ≤ 10000) (hn : targetB s.name = true) (ht : s.kind = 3 → targetB s.to = true) (h1 : s.kind ≠ 1) (hlo : lookF s.name m.files = none) :
    Calls Try.prog 10 #[.pointer (some ⟨p, 0, none⟩), spV s A n c] W (DoPost S p (doD m s) W) := by
  have HE := Lib.hid ((do_call m s hk hb).trans (call_none _ s hn ht h1 (by rw [(begin_same m hb).1]; exact hlo)))
  have hkk : 1 ≤ s.kind ∧ s.kind ≤ 4 := by
    unfold isCall at hk
    simpa using hk
  have HB := begun_any S p m s.kind s A n c W h hG hcl hlf
  rw [hb] at HB
  have hmf := (begin_same m hb).1
  obtain ⟨m1, hm1⟩ : ∃ m1, (beginD m).2 = m1 := ⟨_, rfl⟩
  rw [hm1] at HB hmf HE
  have hlo1 : lookF s.name m1.files = none := by rw [hmf]; exact hlo
  have hfl1 : m1.files.length ≤ 2000 := by rw [hmf]; exact hG.1
  obtain ⟨K, hK⟩ : ∃ K, s.kind = K := ⟨_, rfl⟩
  unfold spV
  rw [hK] at hkk HB ht h1 ⊢
  have d5 : (K == 5) = false := by simp; omega
  have d6 : (K == 6) = false := by simp; omega
  have d7 : (K == 7) = false := by simp; omega
  have d1 : decide (K < 1) = false := decide_eq_false (by omega)
  have d2 : decide (4 < K) = false := decide_eq_false (by omega)
  have d3 : decide (K > 4) = false := decide_eq_false (by omega)
  have d8 : (K == 1) = false := by simp; omega
  clear hK hkk hk hb h hmf hm1 hlo h1
  go_enter Try.func10, Try.ntmps10
  go_wp2_with fail
  refine HB.mono ?_
  rintro e W1 ⟨rfl, hr⟩
  have b0 : W1.cell? ⟨W.heap.size, 0, none⟩ = some (.int .i64 K) := hr.box.cell 0
  have b1 : W1.cell? ⟨W.heap.size, 1, none⟩ = some (.string ⟨s.name.toArray⟩) := hr.box.cell 1
  have b2 : W1.cell? ⟨W.heap.size, 2, none⟩ = some (.string ⟨s.to.toArray⟩) := hr.box.cell 2
  have hT := refTarget_any ⟨s.name.toArray⟩ (by simpa [ByteArray.size] using hl) W1
  simp only [List.toList_toArray] at hT
  rw [hn] at hT
  have hT2 := refTarget_any ⟨s.to.toArray⟩ (by simpa [ByteArray.size] using hl2) W1
  simp only [List.toList_toArray] at hT2
  obtain ⟨A1, n1, c1, hB1, hF1, hSp, hSo⟩ := hr.rd
  have hfz := hB1.frozen
  have e0 : W1.cell? ⟨p, 0, none⟩ = some (.slice A1 n1 c1) := hB1.cell 0
  have hn1 : n1 ≤ 1000000 := by have := hF1.1; omega
  have hFi := fun q => find_any A1 n1 c1 m1.files ⟨s.name.toArray⟩ S (W1.drewN q) (hF1.turn ((Turn.refl S W1).drewN q)) hn1
  simp only [List.toList_toArray] at hFi
  have hfn : findN s.name m1.files 0 = -1 := by
    rcases findN_spec s.name m1.files 0 with ⟨h1, _⟩ | ⟨j, f, _, _, h3⟩
    · exact h1
    · rw [hlo1] at h3; cases h3
  rw [hfn] at hFi
  have HX := Lib.hid hr
  clear HB hr hB1 hF1 hSp hSo hfn hlo1 hn1 hfl1
  go_wp2_with fail
  refine hT.mono ?_
  rintro e W2 ⟨rfl, rfl⟩
  clear hT
  by_cases h3 : K = 3
  · subst h3
    rw [ht rfl] at hT2
    go_wp2_with fail
    refine hT2.mono ?_
    rintro e W2 ⟨rfl, rfl⟩
    clear hT2
    go_wp2_with fail
    go_quiet ((go_at_call 12; exact Calls.quiet_of_same (hFi _)))
    have HX2 := Lib.hid (HX.out.drewN nq)
    revert HX2
    have c0 : (W2.drewN nq).cell? ⟨W.heap.size, 0, none⟩ = some (.int .i64 3) := b0
    have c1 : (W2.drewN nq).cell? ⟨W.heap.size, 1, none⟩ = some (.string ⟨s.name.toArray⟩) := b1
    revert c0 c1
    generalize W2.drewN nq = w3
    intro c0 c1 HX2
    have hlt := HX2.out.box.lt
    clear b0 b1 b2 e0 hfz HX hFi
    go_wp2_with fail
    go_ret
    rw [HE.out]
    exact ⟨rfl, HX2.out.rd.turn (S' := fun _ => False) ((Turn.refl (fun _ => False) w3).alloc _) (fun k hk => hk.elim) (fun hk => hk), HX2.out.turn.alloc _⟩
  · have d9 : (K == 3) = false := by simpa using h3
    clear hT2 h3 ht
    go_wp2_with fail
    go_quiet ((go_at_call 12; exact Calls.quiet_of_same (hFi _)))
    have HX2 := Lib.hid (HX.out.drewN nq)
    revert HX2
    have c0 : (W2.drewN nq).cell? ⟨W.heap.size, 0, none⟩ = some (.int .i64 K) := b0
    have c1 : (W2.drewN nq).cell? ⟨W.heap.size, 1, none⟩ = some (.string ⟨s.name.toArray⟩) := b1
    revert c0 c1
    generalize W2.drewN nq = w3
    intro c0 c1 HX2
    have hlt := HX2.out.box.lt
    clear b0 b1 b2 e0 hfz HX hFi
    go_wp2_with fail
    go_ret
    rw [HE.out]
    exact ⟨rfl, HX2.out.rd.turn (S' := fun _ => False) ((Turn.refl (fun _ => False) w3).alloc _) (fun k hk => hk.elim) (fun hk => hk), HX2.out.turn.alloc _⟩

end Go.Proofs.Ytnjkilmhphcocaa
