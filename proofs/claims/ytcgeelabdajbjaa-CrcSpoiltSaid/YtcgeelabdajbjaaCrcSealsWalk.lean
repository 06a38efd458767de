/-
  The walk of the law CrcSeals.
-/
import Derived.Test.YtcgeelabdajbjaaCrcB
namespace Go.Proofs.Ytcgeelabdajbjaa
open Go.RowKit
set_option linter.unusedVariables false
set_option linter.unusedSimpArgs false

theorem num_inj (l : List UInt8) : ∀ (m : List UInt8), l.length = m.length → num l = num m → l = m := by
  induction l with
  | nil => intro m h _; exact (List.eq_nil_of_length_eq_zero h.symm).symm
  | cons b l ih =>
    intro m h e
    rcases m with _ | ⟨c, m⟩
    · simp at h
    · have hb := b.toNat_lt
      have hc := c.toNat_lt
      have e' : b.toNat + 256 * num l = c.toNat + 256 * num m := e
      have h1 : b = c := UInt8.toNat_inj.1 (by omega)
      rw [h1, ih m (by simpa using h) (by omega)]
theorem sealC_len (l : List UInt8) : (sealC l).length = l.length + 4 := by unfold sealC; rw [List.length_append, le_len]
theorem num_le4 (x : Nat) (h : x ≤ 4294967295) : num (le 4 x) = x := by rw [num_le, show (256 : Nat) ^ 4 = 4294967296 by decide]; omega
theorem sealC_take (l : List UInt8) : (sealC l).take l.length = l := by unfold sealC; simp
theorem sealC_drop (l : List UInt8) : (sealC l).drop l.length = le 4 (crcSum l) := by unfold sealC; simp
theorem isSeal_sealC (l : List UInt8) : isSeal (sealC l) = true := by
  unfold isSeal
  rw [sealC_len, show l.length + 4 - 4 = l.length by omega, sealC_take, sealC_drop, num_le4 _ (crcSum_le l)]
  simp
theorem openB_sealC (l : List UInt8) : openB (sealC l) = l := by
  unfold openB
  rw [isSeal_sealC, if_pos rfl, sealC_len, show l.length + 4 - 4 = l.length by omega, sealC_take]
theorem isSeal_eq (l : List UInt8) (m : Nat) (h : l.length = m + 4) : decide (sealC (l.take m) = l) = isSeal l := by
  have hd : (l.drop m).length = 4 := by rw [List.length_drop, h]; omega
  have hs := crcSum_le (l.take m)
  unfold isSeal
  rw [h, show m + 4 - 4 = m by omega]
  rw [Bool.eq_iff_iff]
  simp only [decide_eq_true_eq, Bool.and_eq_true]
  constructor
  · intro e
    refine ⟨by omega, ?_⟩
    have h1 : (sealC (l.take m)).drop m = l.drop m := by rw [e]
    have h2 := sealC_drop (l.take m)
    rw [List.length_take, h, Nat.min_eq_left (by omega), h1] at h2
    rw [h2, num_le4 _ hs]
  · rintro ⟨_, e⟩
    have h1 : l.drop m = le 4 (crcSum (l.take m)) := num_inj _ _ (by rw [hd, le_len]) (by rw [e, num_le4 _ hs])
    unfold sealC
    rw [← h1, List.take_append_drop]
theorem isSeal_short (l : List UInt8) (h : l.length < 4) : isSeal l = false := by unfold isSeal; simp; omega
theorem openB_not (l : List UInt8) (h : isSeal l = false) : openB l = [] := by unfold openB; rw [h]; rfl
theorem openB_is (l : List UInt8) (m : Nat) (hm : l.length = m + 4) (h : isSeal l = true) : openB l = l.take m := by unfold openB; rw [h, hm]; rfl

set_option maxHeartbeats 1000000 in
theorem crcSeals_law (A : Option Addr) (n c : Nat) (l : List UInt8) (W : World)
    (hl : Byt W W.heap.size A n l) (hnil : A = none → c = 0) (hnc : n ≤ c) (hcm : c ≤ maxLen) :
    Calls Try.prog 4 #[.slice A n c] W fun e W' => e = .returned (.bool true) ∧ Below W.heap.size W W' := by
  by_cases hbig : 1500 < n
  · unfold maxLen at hcm
    go_enter Try.func4, Try.ntmps4
    go_wp2_with (go_at_call 6; refine (awake2_any _).mono ?_; rintro e w' ⟨rfl, hb⟩)
    go_ret
    exact ⟨rfl, hb⟩
  have HC := Lib.hid hcm
  have HNC := Lib.hid hnc
  unfold maxLen at hcm
  have HI1 := Lib.hid (isSeal_sealC l)
  have HO1 := Lib.hid (openB_sealC l)
  have HLN := Lib.hid hl.1
  by_cases h4 : n < 4
  · have HI := Lib.hid (isSeal_short l (by rw [hl.1]; exact h4))
    have HO := Lib.hid (openB_not l HI.out)
    go_enter Try.func4, Try.ntmps4
    go_wp2_with (go_at_call 10; refine (seal_any A n c l _ hl hnil (by omega)).mono ?_; rintro e w1 ⟨v1, rfl, hown1, hb1⟩; obtain ⟨A1, c1, rfl, hnil1, hnc1, hm1⟩ := own_form hown1; have hl1 := hl.below hb1; have hs1 := Byt.of_own hown1)
    refine (open_any _ A1 (n + 4) c1 (sealC l) _ hs1 (Nat.le_refl _) (fun h => (hnil1 h).2) hnc1 hm1 (by omega)).mono ?_
    rintro e w2 ⟨v2, rfl, hown2, hb2⟩
    rw [HI1.out]
    rw [HO1.out, HLN.out] at hown2
    obtain ⟨A2, c2, rfl, hnil2, hnc2, hm2⟩ := own_form hown2
    have hx2 := Byt.of_own hown2
    have hb2' := bthen hb1 hb2
    have hl2 := hl.below hb2'
    go_wp2_with fail
    refine (open_any _ A (n) c l _ hl2 hb2'.size hnil HNC.out HC.out (by omega)).mono ?_
    rintro e w3 ⟨v3, rfl, hown3, hb3⟩
    rw [HI.out]
    rw [HO.out] at hown3
    obtain ⟨A3, c3, rfl, hnil3, hnc3, hm3⟩ := own_form hown3
    have hb3' := bthen hb2' hb3
    have hl3 := hl.below hb3'
    go_wp2_with fail
    refine (refSeal_any _ A n c l _ hl3 hb3'.size hnil (by omega)).mono ?_
    rintro e w4 ⟨v4, rfl, hown4, hb4⟩
    obtain ⟨A4, c4, rfl, hnil4, hnc4, hm4⟩ := own_form hown4
    have hs4 := Byt.of_own hown4
    have hb4' := bthen hb3' hb4
    have hb24 := bthen hb2 (bthen hb3 hb4)
    have hb34 := bthen hb3 hb4
    have hl4 := (hl.below hb4').more hb4'.size
    have hs14 := (hs1.below hb24).more hb24.size
    have hx4 := (hx2.below hb34).more hb34.size
    go_wp2_with fail
    refine (same_true A1 A4 _ _ _ _ _ _ _ _ hs14 hs4 (by omega) rfl).mono ?_
    rintro e w5 ⟨rfl, k5, rfl⟩
    go_wp2_with fail
    refine (same_true A2 A _ _ _ _ _ _ w4.heap.size _ (hx4.drewN k5) (hl4.drewN k5) (by omega) rfl).mono ?_
    rintro e w6 ⟨rfl, k6, rfl⟩
    have hb6 := below_drewN hb4' (k5 + k6)
    go_wp2_with (go_at_call 6; refine (awake2_any _).mono ?_; rintro e w7 ⟨rfl, hb7⟩)
    go_ret
    exact ⟨rfl, bthen hb6 hb7⟩
  · obtain ⟨m, hm⟩ : ∃ m, n = m + 4 := ⟨n - 4, by omega⟩
    have HE := Lib.hid (isSeal_eq l m (HLN.out.trans hm))
    have htk := hl.take (k := m) (by omega)
    have hm4 : (n : Int) - 4 = (m : Int) := by omega
    have hmx1 : (if (0 : Int) < (m : Int) then (m : Int) else 0) = (m : Int) := by split <;> omega
    have hmx2 : (if 0 < m then (m : Int) else 0) = (m : Int) := by split <;> omega
    have hmn : m ≤ n := by omega
    have hn4 : (4 : Int) ≤ (n : Int) := by omega
    have hmc : (m : Int) ≤ (c : Int) := by omega
    by_cases hi : isSeal l = true
    · have HI := Lib.hid hi
      have HO := Lib.hid (openB_is l m (HLN.out.trans hm) hi)
      rw [hi] at HE
      clear hi hm
      go_enter Try.func4, Try.ntmps4
      go_wp2_with (go_at_call 10; refine (seal_any A n c l _ hl hnil (by omega)).mono ?_; rintro e w1 ⟨v1, rfl, hown1, hb1⟩; obtain ⟨A1, c1, rfl, hnil1, hnc1, hm1⟩ := own_form hown1; have hl1 := hl.below hb1; have hs1 := Byt.of_own hown1)
      refine (open_any _ A1 (n + 4) c1 (sealC l) _ hs1 (Nat.le_refl _) (fun h => (hnil1 h).2) hnc1 hm1 (by omega)).mono ?_
      rintro e w2 ⟨v2, rfl, hown2, hb2⟩
      rw [HI1.out]
      rw [HO1.out, HLN.out] at hown2
      obtain ⟨A2, c2, rfl, hnil2, hnc2, hm2⟩ := own_form hown2
      have hx2 := Byt.of_own hown2
      have hb2' := bthen hb1 hb2
      have hl2 := hl.below hb2'
      go_wp2_with fail
      refine (open_any _ A (n) c l _ hl2 hb2'.size hnil HNC.out HC.out (by omega)).mono ?_
      rintro e w3 ⟨v3, rfl, hown3, hb3⟩
      rw [HI.out]
      rw [HO.out, htk.1] at hown3
      obtain ⟨A3, c3, rfl, hnil3, hnc3, hm3⟩ := own_form hown3
      have hy3 := Byt.of_own hown3
      have hb3' := bthen hb2' hb3
      have hl3 := hl.below hb3'
      go_wp2_with fail
      refine (refSeal_any _ A m c (l.take m) _ (htk.below hb3') hb3'.size hnil (by omega)).mono ?_
      rintro e w4 ⟨v4, rfl, hown4, hb4⟩
      obtain ⟨A4, c4, rfl, hnil4, hnc4, hm4⟩ := own_form hown4
      have hs4 := Byt.of_own hown4
      have hb4' := bthen hb3' hb4
      have hl4 := (hl.below hb4').more hb4'.size
      go_wp2_with fail
      refine (same_any A4 A _ _ _ _ _ _ w4.heap.size _ hs4 hl4 (by omega)).mono ?_
      rintro e w5 ⟨rfl, k5, rfl⟩
      rw [HE.out]
      have hb5' := below_drewN hb4' k5
      have hl5 := hl.below hb5'
      go_wp2_with fail
      refine (refSeal_any _ A n c l _ hl5 hb5'.size hnil (by omega)).mono ?_
      rintro e w6 ⟨v6, rfl, hown6, hb6⟩
      obtain ⟨A6, c6, rfl, hnil6, hnc6, hm6⟩ := own_form hown6
      have hs6 := Byt.of_own hown6
      have hb6' := bthen hb5' hb6
      have hb46 : Below w3.heap.size w3 w6 := bthen (below_drewN hb4 k5) hb6
      have hb26 := bthen hb2 (bthen hb3 hb46)
      have hb36 := bthen hb3 hb46
      have hl6 := (hl.below hb6').more hb6'.size
      have hs16 := (hs1.below hb26).more hb26.size
      have hx6 := (hx2.below hb36).more hb36.size
      have hy6 := (hy3.below hb46).more hb46.size
      have htk6 := (htk.below hb6').more hb6'.size
      go_wp2_with fail
      refine (same_true A1 A6 _ _ _ _ _ _ w6.heap.size _ hs16 hs6 (by omega) rfl).mono ?_
      rintro e w7 ⟨rfl, k7, rfl⟩
      go_wp2_with fail
      refine (same_true A2 A _ _ _ _ _ _ w6.heap.size _ (hx6.drewN k7) (hl6.drewN k7) (by omega) rfl).mono ?_
      rintro e w8 ⟨rfl, k8, rfl⟩
      go_wp2_with fail
      refine (same_true A3 A _ _ _ _ _ _ w6.heap.size _ (hy6.drewN (k7 + k8)) (htk6.drewN (k7 + k8)) (by omega) rfl).mono ?_
      rintro e w9 ⟨rfl, k9, rfl⟩
      have hb9 := below_drewN hb6' (k7 + k8 + k9)
      go_wp2_with (go_at_call 6; refine (awake2_any _).mono ?_; rintro e w10 ⟨rfl, hb10⟩)
      go_ret
      exact ⟨rfl, bthen hb9 hb10⟩
    · have hi2 : isSeal l = false := by simpa using hi
      have HI := Lib.hid hi2
      have HO := Lib.hid (openB_not l hi2)
      rw [hi2] at HE
      clear hi hi2 hm
      go_enter Try.func4, Try.ntmps4
      go_wp2_with (go_at_call 10; refine (seal_any A n c l _ hl hnil (by omega)).mono ?_; rintro e w1 ⟨v1, rfl, hown1, hb1⟩; obtain ⟨A1, c1, rfl, hnil1, hnc1, hm1⟩ := own_form hown1; have hl1 := hl.below hb1; have hs1 := Byt.of_own hown1)
      refine (open_any _ A1 (n + 4) c1 (sealC l) _ hs1 (Nat.le_refl _) (fun h => (hnil1 h).2) hnc1 hm1 (by omega)).mono ?_
      rintro e w2 ⟨v2, rfl, hown2, hb2⟩
      rw [HI1.out]
      rw [HO1.out, HLN.out] at hown2
      obtain ⟨A2, c2, rfl, hnil2, hnc2, hm2⟩ := own_form hown2
      have hx2 := Byt.of_own hown2
      have hb2' := bthen hb1 hb2
      have hl2 := hl.below hb2'
      go_wp2_with fail
      refine (open_any _ A (n) c l _ hl2 hb2'.size hnil HNC.out HC.out (by omega)).mono ?_
      rintro e w3 ⟨v3, rfl, hown3, hb3⟩
      rw [HI.out]
      rw [HO.out] at hown3
      obtain ⟨A3, c3, rfl, hnil3, hnc3, hm3⟩ := own_form hown3
      have hb3' := bthen hb2' hb3
      have hl3 := hl.below hb3'
      go_wp2_with fail
      refine (refSeal_any _ A m c (l.take m) _ (htk.below hb3') hb3'.size hnil (by omega)).mono ?_
      rintro e w4 ⟨v4, rfl, hown4, hb4⟩
      obtain ⟨A4, c4, rfl, hnil4, hnc4, hm4⟩ := own_form hown4
      have hs4 := Byt.of_own hown4
      have hb4' := bthen hb3' hb4
      have hl4 := (hl.below hb4').more hb4'.size
      go_wp2_with fail
      refine (same_any A4 A _ _ _ _ _ _ w4.heap.size _ hs4 hl4 (by omega)).mono ?_
      rintro e w5 ⟨rfl, k5, rfl⟩
      rw [HE.out]
      have hb5' := below_drewN hb4' k5
      have hl5 := hl.below hb5'
      go_wp2_with fail
      refine (refSeal_any _ A n c l _ hl5 hb5'.size hnil (by omega)).mono ?_
      rintro e w6 ⟨v6, rfl, hown6, hb6⟩
      obtain ⟨A6, c6, rfl, hnil6, hnc6, hm6⟩ := own_form hown6
      have hs6 := Byt.of_own hown6
      have hb6' := bthen hb5' hb6
      have hb46 : Below w3.heap.size w3 w6 := bthen (below_drewN hb4 k5) hb6
      have hb26 := bthen hb2 (bthen hb3 hb46)
      have hb36 := bthen hb3 hb46
      have hl6 := (hl.below hb6').more hb6'.size
      have hs16 := (hs1.below hb26).more hb26.size
      have hx6 := (hx2.below hb36).more hb36.size
      go_wp2_with fail
      refine (same_true A1 A6 _ _ _ _ _ _ w6.heap.size _ hs16 hs6 (by omega) rfl).mono ?_
      rintro e w7 ⟨rfl, k7, rfl⟩
      go_wp2_with fail
      refine (same_true A2 A _ _ _ _ _ _ w6.heap.size _ (hx6.drewN k7) (hl6.drewN k7) (by omega) rfl).mono ?_
      rintro e w8 ⟨rfl, k8, rfl⟩
      have hb9 := below_drewN hb6' (k7 + k8)
      go_wp2_with (go_at_call 6; refine (awake2_any _).mono ?_; rintro e w10 ⟨rfl, hb10⟩)
      go_ret
      exact ⟨rfl, bthen hb9 hb10⟩

end Go.Proofs.Ytcgeelabdajbjaa
