/-
  The program's disk: does a call begin?
-/
import Derived.Test.YtnjkilmhphcocaaDpE
namespace Go.Proofs.Ytnjkilmhphcocaa
open Go.RowKit
set_option linter.unusedVariables false
set_option linter.unusedSimpArgs false

/-- How a disk stands behind a call that its arming lets by, or not. -/
def sprD (m : Dk) : Dk := if m.armed then (if m.left = 0 then crashD m.keep m else ⟨m.files, m.cap, m.calls, m.armed, m.left - 1, m.keep, m.down⟩) else m

section
variable {S : Nat → Prop} {q mb l : Nat} {m : Dk} {kp : Int} {L : List (List UInt8 × Value)} {G : List UInt8 → Option FM}
set_option maxRecDepth 100000 in
set_option maxHeartbeats 2000000 in
theorem pspr_any (W : World) (h : PDat W S q m mb l kp L G) (hO : GoodD m) (hlf : m.left < 18446744073709551616) :
    Calls Try.prog 44 #[.pointer (some ⟨q, 0, none⟩)] W fun e W' => e = .returned (.bool (m.armed && decide (m.left = 0))) ∧ PD W' S q (sprD m) ∧ Turn S W W' := by
  have c3 : W.cell? ⟨q, 3, none⟩ = some (.bool m.armed) := h.blk.cell 3
  have c4 : W.cell? ⟨q, 4, none⟩ = some (.int .u64 ((l : Nat) : Int)) := h.blk.cell 4
  have c5 : W.cell? ⟨q, 5, none⟩ = some (.int .i64 kp) := h.blk.cell 5
  have z4 := h.blk.frozen 4
  have hcr := pcrash_any W kp h hO
  have HH := Lib.hid h
  have harm := h.arm
  clear h
  cases ha : m.armed
  · have HE : Hid (sprD m = m) := Lib.hid (by unfold sprD; rw [ha]; rfl)
    rw [ha] at c3
    clear hcr harm ha c4 c5 z4
    go_enter Try.func44, Try.ntmps44
    go_wp2
    go_ret
    exact ⟨rfl, by rw [HE.out]; exact ⟨_, _, _, _, _, HH.out⟩, Turn.refl _ _⟩
  · obtain ⟨hl1, hk1⟩ := harm ha
    rw [ha] at c3
    by_cases h0 : m.left = 0
    · have HE : Hid (sprD m = crashD m.keep m) := Lib.hid (by unfold sprD; rw [ha, if_pos rfl, if_pos h0])
      have HK := Lib.hid hk1
      obtain rfl : l = 0 := hl1.trans h0
      have HD : Hid (decide (m.left = 0) = true) := Lib.hid (decide_eq_true h0)
      clear ha harm hl1 h0 hk1
      go_enter Try.func44, Try.ntmps44
      go_wp2_with fail
      refine hcr.mono ?_
      rintro e W1 ⟨rfl, ⟨G', h1⟩, h2⟩
      have H1 := Lib.hid (And.intro h1 h2)
      clear hcr h1 h2
      go_wp2_with fail
      go_ret
      exact ⟨by rw [HD.out]; rfl, by rw [HE.out, ← HK.out]; exact ⟨_, _, _, _, _, H1.out.1⟩, H1.out.2⟩
    · have HE : Hid (sprD m = ⟨m.files, m.cap, m.calls, m.armed, m.left - 1, m.keep, m.down⟩) := Lib.hid (by unfold sprD; rw [ha, if_pos rfl, if_neg h0])
      have HK := Lib.hid hk1
      have HA := Lib.hid ha
      have HD : Hid (decide (m.left = 0) = false) := Lib.hid (decide_eq_false h0)
      obtain ⟨l2, hl2⟩ : ∃ l2, l = l2 + 1 := ⟨l - 1, by omega⟩
      subst hl2
      have HL : Hid (l2 = m.left - 1) := Lib.hid (by omega)
      have hlt : l2 < 18446744073709551615 := by omega
      have d0 : (((l2 + 1 : Nat) : Int) == 0) = false := by simp; omega
      have d1 : (((l2 + 1 : Nat) : Int)) - 1 = ((l2 : Nat) : Int) := by omega
      clear hcr harm ha hl1 h0 hk1
      go_enter Try.func44, Try.ntmps44
      go_wp2_with fail
      go_ret
      have hB := HH.out.blk.set 4 (.int .u64 ((l2 : Nat) : Int))
      have ht : Turn (fun k => k = q) W (W.setCell ⟨q, 4, none⟩ (.int .u64 ((l2 : Nat) : Int))) := (Turn.refl (fun k => k = q) W).setCell (p := ⟨q, 4, none⟩) rfl _
      refine ⟨by rw [HD.out]; rfl, ?_, ht.mono fun k e => by rw [e]; exact HH.out.sq⟩
      rw [HE.out]
      exact ⟨mb, l2, kp, L, G, HH.out.cells ht hB rfl (fun _ => ⟨HL.out, HK.out⟩) (by omega)⟩

/-- What a call's beginning answers. -/
def beginR (m : Dk) (ns : List (List UInt8)) : Int := if (beginD m).1 then (if ns.all targetB then 0 else 7) else 19
/-- Texts in a block of their own. -/
def Txs (w : World) (b : Nat) (ns : List (List UInt8)) : Prop := ∀ (j : Nat) (s : List UInt8), ns[j]? = some s → w.cell? ⟨b, 0 + j, none⟩ = some (.string ⟨s.toArray⟩)
theorem Txs.turn {w w' : World} {T : Nat → Prop} {b : Nat} {ns : List (List UInt8)} (h : Txs w b ns) (ht : Turn T w w') (hb : ¬ T b) : Txs w' b ns := fun j s hs => ht.at_ (h j s hs) hb
theorem all_take (ns : List (List UInt8)) (k : Nat) (s : List UInt8) (h : ns[k]? = some s) : (ns.take (k + 1)).all targetB = ((ns.take k).all targetB && targetB s) := by
  rw [List.take_add_one, h, List.all_append]
  simp
theorem all_not (ns : List (List UInt8)) (k : Nat) (s : List UInt8) (h : ns[k]? = some s) (hs : targetB s = false) : ns.all targetB = false := by
  cases hx : ns.all targetB
  · rfl
  · rw [List.all_eq_true] at hx
    rw [hx s (List.mem_of_getElem? h)] at hs
    cases hs

set_option maxRecDepth 100000 in
set_option maxHeartbeats 2000000 in
theorem pbegin_any (W : World) (b : Nat) (ns : List (List UInt8)) (n : Nat) (h : PD W S q m) (hO : GoodD m) (hlf : m.left < 18446744073709551616) (hcl : m.calls ≤ 1000000) (hn : ns.length = n) (hn2 : n ≤ 10) (hns : ∀ s ∈ ns, s.length ≤ 10000) (hb : ¬ S b) (hT : Txs W b ns) :
    Calls Try.prog 38 #[.pointer (some ⟨q, 0, none⟩), .slice (some ⟨b, 0, none⟩) n n] W fun e W' => e = .returned (.int .i64 (beginR m ns)) ∧ PD W' S q (beginD m).2 ∧ Turn S W W' := by
  obtain ⟨mb, l, kp, L, G, h⟩ := h
  have hdn := pdown_any W h
  have hsp := pspr_any W h hO hlf
  have HH := Lib.hid h
  have HT := Lib.hid (And.intro hb (And.intro hT (And.intro hn hns)))
  clear h hb hT hn hns
  cases hd : m.down
  · rw [hd] at hdn
    cases ha : (m.armed && decide (m.left = 0))
    · rw [ha] at hsp
      have HE : Hid ((beginD m).1 = true ∧ (beginD m).2 = ⟨(sprD m).files, (sprD m).cap, m.calls + 1, (sprD m).armed, (sprD m).left, (sprD m).keep, (sprD m).down⟩ ∧ (sprD m).calls = m.calls) := Lib.hid (by
        unfold beginD sprD
        rw [hd, ha]
        cases h1 : m.armed
        · refine ⟨rfl, ?_, rfl⟩
          simp [h1, hd]
        · have h2 : ¬ m.left = 0 := fun e => by rw [h1, e] at ha; cases ha
          simp [h1, h2, hd])
      clear ha hd
      go_enter Try.func38, Try.ntmps38
      go_wp2_with fail
      refine hdn.mono ?_
      rintro e W1 ⟨rfl, rfl⟩
      clear hdn
      go_wp2_with fail
      refine hsp.mono ?_
      rintro e W2 ⟨rfl, ⟨mb2, l2, kp2, L2, G2, h2⟩, ht2⟩
      have c2 : W2.cell? ⟨q, 2, none⟩ = some (.int .u64 (((sprD m).calls : Nat) : Int)) := h2.blk.cell 2
      have z2 := h2.blk.frozen 2
      rw [HE.out.2.2] at c2
      obtain ⟨cl, hcl2⟩ : ∃ cl, m.calls = cl := ⟨_, rfl⟩
      have HC := Lib.hid hcl2
      rw [hcl2] at c2 hcl
      have H2 := Lib.hid (And.intro h2 ht2)
      clear hsp h2 ht2 hcl2
      go_wp2_with fail
      have H3 : Hid (PD (W2.setCell ⟨q, 2, none⟩ (.int .u64 ((cl : Nat) + 1))) S q (beginD m).2 ∧ Turn S W1 (W2.setCell ⟨q, 2, none⟩ (.int .u64 ((cl : Nat) + 1)))) := Lib.hid (by
        obtain ⟨h2, ht2⟩ := H2.out
        have hB := h2.blk.set 2 (.int .u64 ((cl : Nat) + 1))
        have ht : Turn (fun k => k = q) W2 (W2.setCell ⟨q, 2, none⟩ (.int .u64 ((cl : Nat) + 1))) := (Turn.refl (fun k => k = q) W2).setCell (p := ⟨q, 2, none⟩) rfl _
        refine ⟨?_, ht2.trans (ht.mono fun k e => by rw [e]; exact h2.sq)⟩
        rw [HE.out.2.1]
        refine ⟨mb2, l2, kp2, L2, G2, h2.cells ht ?_ rfl h2.arm h2.left⟩
        rw [HC.out]
        exact hB)
      revert H3
      generalize W2.setCell ⟨q, 2, none⟩ (.int .u64 ((cl : Nat) + 1)) = w3
      intro H3
      clear c2 z2 H2
      go_loopw [22] (fun i wr => ∃ k : Nat, k ≤ n ∧ i = .int .i64 k ∧ Hid ((ns.take k).all targetB = true) ∧ Below w3.heap.size w3 wr) (fun i _ => n - (intOf i).toNat)
      case atStart => exact ⟨0, Nat.zero_le _, rfl, Lib.hid rfl, Below.refl _ _⟩
      case round =>
        obtain ⟨k, hk, rfl, HA, hbl⟩ := hrel
        have hF : ∀ w', Below w3.heap.size w3 w' → PD w' S q (beginD m).2 ∧ Turn S W1 w' := fun w' hb => ⟨H3.out.1.below hb, H3.out.2.trans (Turn.of_below hb)⟩
        have HF := Lib.hid hF
        clear hF
        by_cases hlt : k < n
        · obtain ⟨hb, hT, hnn, hns⟩ := HT.out
          obtain ⟨s, hs⟩ : ∃ s, ns[k]? = some s := ⟨_, List.getElem?_eq_getElem (by omega)⟩
          have c0 : wr.cell? ⟨b, 0 + k, none⟩ = some (.string ⟨s.toArray⟩) := (hT.turn (HF.out wr hbl).2 hb) k s hs
          have hsl := hns s (List.mem_of_getElem? hs)
          have hta := target_any ⟨s.toArray⟩ (by show s.toArray.size ≤ _; unfold maxLen; simp; omega) wr
          have e1 : (⟨s.toArray⟩ : ByteArray).data.toList = s := by simp
          rw [e1] at hta
          obtain ⟨T, hT2⟩ : ∃ T : ByteArray, ⟨s.toArray⟩ = T := ⟨_, rfl⟩
          rw [hT2] at c0 hta
          have HS := Lib.hid hs
          rw [Nat.zero_add] at c0
          have i0 : (0 : Int) ≤ (k : Int) := by omega
          have i1 : (k : Int) < (n : Int) := by omega
          clear hT2 e1 hsl hs hb hT hnn hns
          go_wp2_with fail
          refine hta.mono ?_
          rintro e w4 ⟨rfl, hb4⟩
          have hb5 : Below w3.heap.size w3 w4 := bthen hbl hb4
          clear hta hb4 c0
          cases ht : targetB s
          · have HR : Hid (beginR m ns = 7) := Lib.hid (by unfold beginR; rw [HE.out.1, all_not ns k s HS.out ht]; rfl)
            clear ht
            go_wp2_with fail
            go_ret
            exact ⟨by rw [HR.out]; rfl, HF.out w4 hb5⟩
          · have HA2 : Hid ((ns.take (k + 1)).all targetB = true) := Lib.hid (by rw [all_take ns k s HS.out, HA.out, ht]; rfl)
            clear ht
            go_wp2_with fail
            go_roundw
            case rel => exact ⟨k + 1, by omega, by go_num, HA2, hb5⟩
            case measure => simp [intOf]; omega
        · have HR : Hid (beginR m ns = 0) := Lib.hid (by
            have h1 := HA.out
            rw [List.take_of_length_le (by have := HT.out.2.2.1; omega)] at h1
            unfold beginR; rw [HE.out.1, h1]; rfl)
          go_wp2_with fail
          go_ret
          exact ⟨by rw [HR.out]; rfl, HF.out wr hbl⟩
    · rw [ha] at hsp
      have HE : Hid ((beginD m).1 = false ∧ (beginD m).2 = sprD m) := Lib.hid (by
        have h1 : m.armed = true ∧ m.left = 0 := by simpa using ha
        unfold beginD sprD
        rw [hd, ha, h1.1, if_pos rfl, if_pos h1.2]
        exact ⟨rfl, rfl⟩)
      clear ha hd
      go_enter Try.func38, Try.ntmps38
      go_wp2_with fail
      refine hdn.mono ?_
      rintro e W1 ⟨rfl, rfl⟩
      clear hdn
      go_wp2_with fail
      refine hsp.mono ?_
      rintro e W2 ⟨rfl, h2⟩
      have H2 := Lib.hid h2
      clear hsp h2
      go_wp2_with fail
      go_ret
      exact ⟨by unfold beginR; rw [HE.out.1]; rfl, by rw [HE.out.2]; exact H2.out⟩
  · rw [hd] at hdn
    have HE : Hid ((beginD m).1 = false ∧ (beginD m).2 = m) := Lib.hid (by unfold beginD; rw [hd]; exact ⟨rfl, rfl⟩)
    clear hd hsp
    go_enter Try.func38, Try.ntmps38
    go_wp2_with fail
    refine hdn.mono ?_
    rintro e W1 ⟨rfl, rfl⟩
    clear hdn
    go_wp2_with fail
    go_ret
    exact ⟨by unfold beginR; rw [HE.out.1]; rfl, by rw [HE.out.2]; exact ⟨_, _, _, _, _, HH.out⟩, Turn.refl _ _⟩
end

end Go.Proofs.Ytnjkilmhphcocaa
