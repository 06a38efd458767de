/-
  The program's boxes: held, Size, number, Next, Put.
-/
import Derived.Test.YthjikbhjciphiaaGreatDoorZz14
import Derived.Test.YthjikbhjciphiaaGreatDoorZz4
import Derived.Test.YthjikbhjciphiaaGreatDoorZz5
import Derived.Test.YthjikbhjciphiaaGreatDoorZz3
import Derived.Test.YthjikbhjciphiaaGreatDoorZz2
import Derived.OpenShut
import Derived.ShutString
import Derived.ChangeOld
import Derived.ChangeArms
namespace Go.Proofs.YthjikbhjciphiaaGreatDoor
open Go.RowKit
set_option linter.unusedVariables false
set_option linter.unusedSimpArgs false

def heldE (n : Int) : Int := if n < 1 then 2 else if 4096 < n then 3 else 0

set_option maxRecDepth 100000 in
theorem held_any (n : Int) (W : World) : Calls Tryz.prog 130 #[.int .i64 n] W fun e W' => e = .returned (.int .i64 (heldE n)) ∧ W' = W := by
  by_cases h1 : n < 1
  · have HE := Lib.hid (show heldE n = 2 by unfold heldE; rw [if_pos h1])
    go_enter Tryz.func130, Tryz.ntmps130
    go_wp2
    go_ret
    exact ⟨by rw [HE.out]; rfl, rfl⟩
  by_cases h2 : 4096 < n
  · have HE := Lib.hid (show heldE n = 3 by unfold heldE; rw [if_neg h1, if_pos h2])
    go_enter Tryz.func130, Tryz.ntmps130
    go_wp2
    go_ret
    exact ⟨by rw [HE.out]; rfl, rfl⟩
  have HE := Lib.hid (show heldE n = 0 by unfold heldE; rw [if_neg h1, if_neg h2])
  go_enter Tryz.func130, Tryz.ntmps130
  go_wp2
  go_ret
  exact ⟨by rw [HE.out]; rfl, rfl⟩

set_option maxRecDepth 100000 in
theorem bsize_any (n : Int) (W : World) : Calls Tryz.prog 171 #[.int .i64 n] W fun e W' => e = .returned (.int .i64 (sizeB n)) ∧ W' = W := by
  have hH := fun w => held_any n w
  by_cases h1 : 1 ≤ n ∧ n ≤ 4096
  · have HE := Lib.hid (show sizeB n = n + 6 by unfold sizeB; rw [if_pos h1])
    have e : heldE n = 0 := by unfold heldE; rw [if_neg (by omega), if_neg (by omega)]
    rw [e] at hH
    have hw1 : IntKind.i64.wrap (2 + n) = n + 2 := by rw [IntKind.wrap_i64]; omega
    have hw2 : IntKind.i64.wrap (n + 2 + 4) = n + 6 := by rw [IntKind.wrap_i64]; omega
    clear h1 e
    go_enter Tryz.func171, Tryz.ntmps171
    go_wp2_with (go_at_call 130; refine (hH _).mono ?_; rintro e w ⟨rfl, rfl⟩)
    go_ret
    exact ⟨by rw [HE.out]; rfl, rfl⟩
  · have HE := Lib.hid (show sizeB n = 0 by unfold sizeB; rw [if_neg h1])
    have e : heldE n ≠ 0 := by unfold heldE; split; decide; split; decide; omega
    obtain ⟨k, hk⟩ : ∃ k, heldE n = k := ⟨_, rfl⟩
    rw [hk] at hH e
    have hq : (k != 0) = true := by simpa using e
    clear h1 e hk
    go_enter Tryz.func171, Tryz.ntmps171
    go_wp2_with (go_at_call 130; refine (hH _).mono ?_; rintro e w ⟨rfl, rfl⟩)
    go_ret
    exact ⟨by rw [HE.out]; rfl, rfl⟩

theorem num16 (l : List UInt8) (h : l.length ≤ 2) : num l < 65536 :=
  Nat.lt_of_lt_of_le (num_lt l) (Nat.le_trans (Nat.pow_le_pow_right (by decide) h) (by decide))

/-- What stands of a box's number. -/
def numberC (l : List UInt8) (a : Int) : Int × Int :=
  if a < 0 ∨ (l.length : Int) < a then (0, 6) else if (l.drop a.toNat).length < 2 then (0, 1) else ((nB (l.drop a.toNat) : Nat), heldE (nB (l.drop a.toNat) : Nat))

set_option maxRecDepth 100000 in
set_option maxHeartbeats 2000000 in
theorem number_bad (A : Option Addr) (n c : Nat) (l : List UInt8) (a : Int) (W : World) (hl : Byt W W.heap.size A n l) (hn : n ≤ 1000000) (hb : a < 0 ∨ (n : Int) < a) :
    Calls Tryz.prog 170 #[.slice A n c, .int .i64 a] W fun e W' => e = .returned (.tuple #[.int .i64 (numberC l a).1, .int .i64 (numberC l a).2]) ∧ Below W.heap.size W W' := by
  have hln := hl.1
  have HE := Lib.hid (show numberC l a = (0, 6) by unfold numberC; rw [if_pos (by omega)])
  have hcase : a < 0 ∨ (¬ a < 0 ∧ (n : Int) < a) := by omega
  clear hln hl
  rcases hcase with h1 | ⟨h1, h2⟩
  · go_enter Tryz.func170, Tryz.ntmps170
    go_wp2
    go_ret2
    exact ⟨by rw [HE.out]; rfl, Below.refl _ _⟩
  · go_enter Tryz.func170, Tryz.ntmps170
    go_wp2
    go_ret2
    exact ⟨by rw [HE.out]; rfl, Below.refl _ _⟩

set_option maxRecDepth 100000 in
set_option maxHeartbeats 2000000 in
theorem number_at (B : Nat) (A : Option Addr) (n c : Nat) (l : List UInt8) (a : Nat) (W : World) (hl : Byt W B A n l) (hB : B ≤ W.heap.size) (hnil : A = none → c = 0) (hnc : n ≤ c) (hcm : c ≤ maxLen) (hn : n ≤ 1000000) (ha : a ≤ n) :
    Calls Tryz.prog 170 #[.slice A n c, .int .i64 a] W fun e W' => e = .returned (.tuple #[.int .i64 (numberC l a).1, .int .i64 (numberC l a).2]) ∧ Below W.heap.size W W' := by
  unfold maxLen at hcm
  have HQ : Hid (bitsW 2 = 8 * 2) := Lib.hid rfl
  have hln := hl.1
  have hdl : (l.drop a).length = n - a := by rw [List.length_drop, hln]
  have h1 : ¬ (a : Int) < 0 := by omega
  have h2 : ¬ (n : Int) < (a : Int) := by omega
  obtain ⟨K, E, m, hm, hmn, hmin, HC, hT1, hT2⟩ : ∃ (K : Nat) (E : Int) (m : Nat), m ≤ 2 ∧ a + m ≤ n ∧ (if (n : Int) < (a : Int) + 2 then (n : Int) else (a : Int) + 2) = ((a + m : Nat) : Int) ∧ Hid (numberC l (a : Int) = ((K : Int), if E ≠ 0 then E else heldE K)) ∧
      num (tk ((l.drop a).take m) 0 2).1 = K ∧ (tk ((l.drop a).take m) 0 2).2.2 = E := by
    by_cases hs : n < a + 2
    · refine ⟨0, 1, n - a, by omega, by omega, by rw [if_pos (by omega)]; omega, Lib.hid ?_, ?_, ?_⟩
      · unfold numberC
        rw [if_neg (by omega), Int.toNat_natCast, if_pos (by omega)]
        rfl
      · unfold tk
        rw [if_neg (by decide), if_pos (by rw [List.length_take, hdl]; simp; omega)]
        rfl
      · unfold tk
        rw [if_neg (by decide), if_pos (by rw [List.length_take, hdl]; simp; omega)]
    · refine ⟨nB (l.drop a), 0, 2, by omega, by omega, by rw [if_neg (by omega)]; omega, Lib.hid ?_, ?_, ?_⟩
      · unfold numberC
        rw [if_neg (by omega), Int.toNat_natCast, if_neg (by omega)]
        rfl
      · unfold tk
        rw [if_neg (by decide), if_neg (by rw [List.length_take, hdl]; simp; omega)]
        simp only [Int.reduceToNat, List.take_take]
        rfl
      · unfold tk
        rw [if_neg (by decide), if_neg (by rw [List.length_take, hdl]; simp; omega)]
  have hp := hl.piece a m hmn hnc
  obtain ⟨A2, hA2⟩ : ∃ A2, (if c = a then A else A.map (·.add a)) = A2 := ⟨_, rfl⟩
  rw [hA2] at hp
  have hnil2 : A2 = none → c - a = 0 := by
    intro h
    rw [← hA2] at h
    split at h
    · omega
    · cases A with
      | none => have := hnil rfl; omega
      | some q => cases h
  obtain ⟨e2, he2⟩ : ∃ e2 : Nat, a + m = e2 := ⟨_, rfl⟩
  obtain ⟨c2, hc2⟩ : ∃ c2 : Nat, c - a = c2 := ⟨_, rfl⟩
  rw [he2] at hmin
  rw [hc2] at hnil2
  have hwa : IntKind.i64.wrap ((a : Int) + 2) = (a : Int) + 2 := by rw [IntKind.wrap_i64]; omega
  have HM := Lib.hid (show a + m = e2 ∧ c - a = c2 ∧ m ≤ 2 from ⟨he2, hc2, hm⟩)
  have hae : (a : Int) ≤ (e2 : Int) := by omega
  have hec : (e2 : Int) ≤ (c : Int) := by omega
  have hac : (a : Int) ≤ (c : Int) := by omega
  clear he2 hc2 hm hmn hl hdl
  go_enter Tryz.func170, Tryz.ntmps170
  go_wp2_with fail
  rw [show e2 - a = m by have := HM.out; omega, HM.out.2.1]
  refine (newCursor_any B A2 m c2 _ W hp hB hnil2 (by have := HM.out; omega)).mono ?_
  rintro r w1 ⟨g, rfl, hg, hC1, hb1⟩
  have hKl : K < 65536 := by rw [← hT1]; exact num16 _ (by have := tk_len ((l.drop a).take m) 0 2; simpa using this)
  have hwK : IntKind.i64.wrap (K : Int) = (K : Int) := by rw [IntKind.wrap_i64]; omega
  have HT := Lib.hid (And.intro hT1 hT2)
  have HK := Lib.hid hKl
  clear hmin hae hec hac hp hnil hnil2 hA2 hT1 hT2 hKl hln ha hn hcm hnc hwa
  go_wp2_with fail
  refine (number_q g _ 0 2 2 (by decide) HQ w1 hC1).mono ?_
  rintro r w2 ⟨rfl, hC2, ho2, hsz⟩
  have hb2 := ho2.below hb1 hb1.size hg
  clear hsz
  rw [show ((2 : Nat) : Int) = 2 from rfl] at hC2 ⊢
  rw [HT.out.1]
  rw [HT.out.2] at hC2
  go_wp2_with fail
  refine (err_any g _ _ w2 hC2).mono ?_
  rintro r w3 ⟨rfl, rfl⟩
  go_wp2_with fail
  refine (held_any _ _).mono ?_
  rintro r w3 ⟨rfl, rfl⟩
  go_wp2_with fail
  have q0 : (w3.alloc (.cells #[.int .i64 E, .int .i64 (heldE (K : Int))] 30)).cell? ⟨w3.heap.size, 0, none⟩ = some (.int .i64 E) := by simp [World.cell?_alloc_at]
  have q1 : (w3.alloc (.cells #[.int .i64 E, .int .i64 (heldE (K : Int))] 30)).cell? ⟨w3.heap.size, 1, none⟩ = some (.int .i64 (heldE (K : Int))) := by simp [World.cell?_alloc_at]
  refine (or_any E (heldE (K : Int)) w3.heap.size 2 _ q0 q1).mono ?_
  rintro r w4 ⟨rfl, rfl⟩
  go_wp2_with fail
  go_ret2
  exact ⟨by rw [HC.out]; rfl, hb2.alloc hb2.size _⟩

theorem number_any (A : Option Addr) (n c : Nat) (l : List UInt8) (a : Int) (W : World) (hl : Byt W W.heap.size A n l) (hnil : A = none → c = 0) (hnc : n ≤ c) (hcm : c ≤ maxLen) (hn : n ≤ 1000000) :
    Calls Tryz.prog 170 #[.slice A n c, .int .i64 a] W fun e W' => e = .returned (.tuple #[.int .i64 (numberC l a).1, .int .i64 (numberC l a).2]) ∧ Below W.heap.size W W' := by
  by_cases hb : a < 0 ∨ (n : Int) < a
  · exact number_bad A n c l a W hl hn hb
  · obtain ⟨k, rfl⟩ := Int.eq_ofNat_of_zero_le (show 0 ≤ a by omega)
    exact number_at W.heap.size A n c l k W hl (Nat.le_refl _) hnil hnc hcm hn (by omega)

theorem number_no (l : List UInt8) (a : Int) (h : (numberC l a).2 ≠ 0) : nextC l a = ([], 0, (numberC l a).2) := by
  by_cases hb : a < 0 ∨ (l.length : Int) < a
  · unfold numberC nextC
    rw [if_pos hb, if_pos hb]
  obtain ⟨k, rfl⟩ := Int.eq_ofNat_of_zero_le (show 0 ≤ a by omega)
  have hk : k ≤ l.length := by omega
  by_cases h2 : l.length < k + 2
  · rw [next_short l k hk h2]
    unfold numberC
    rw [if_neg hb, Int.toNat_natCast, if_pos (by rw [List.length_drop]; omega)]
  have e : numberC l (k : Int) = (((nB (l.drop k) : Nat) : Int), heldE ((nB (l.drop k) : Nat) : Int)) := by
    unfold numberC
    rw [if_neg hb, Int.toNat_natCast, if_neg (by rw [List.length_drop]; omega)]
  rw [e] at h ⊢
  rw [next_of l k (by omega)]
  simp only at h ⊢
  generalize nB (l.drop k) = N at h ⊢
  unfold heldE at h ⊢
  by_cases h0 : N = 0
  · rw [if_pos h0, if_pos (by omega)]
  by_cases h3 : 4096 < N
  · rw [if_neg h0, if_pos h3, if_neg (by omega), if_pos (by omega)]
  · rw [if_neg (show ¬ (N : Int) < 1 by omega)] at h
    exact absurd (if_neg (by omega)) h
theorem number_yes (l : List UInt8) (a : Int) (h : (numberC l a).2 = 0) : ∃ k : Nat, a = k ∧ k + 2 ≤ l.length ∧ numberC l a = (((nB (l.drop k) : Nat) : Int), 0) ∧ 1 ≤ nB (l.drop k) ∧ nB (l.drop k) ≤ 4096 := by
  unfold numberC at h ⊢
  by_cases hb : a < 0 ∨ (l.length : Int) < a
  · rw [if_pos hb] at h
    cases h
  obtain ⟨k, rfl⟩ := Int.eq_ofNat_of_zero_le (show 0 ≤ a by omega)
  rw [if_neg hb, Int.toNat_natCast] at h ⊢
  by_cases h2 : (l.drop k).length < 2
  · rw [if_pos h2] at h
    cases h
  rw [if_neg h2] at h ⊢
  simp only at h
  have hd : (l.drop k).length = l.length - k := List.length_drop
  refine ⟨k, rfl, by omega, by rw [h], ?_⟩
  unfold heldE at h
  split at h
  · cases h
  · split at h
    · cases h
    · omega

/-- What is sealed is a box. -/
theorem seal_box (l : List UInt8) (k K : Nat) (hK : nB (l.drop k) = K) (hl : k + (K + 6) ≤ l.length) :
    isSeal ((l.drop k).take (K + 6)) = decide (boxC ((l.drop (k + 2)).take K) = (l.drop k).take (K + 6)) ∧
    (isSeal ((l.drop k).take (K + 6)) = true → openB ((l.drop k).take (K + 6)) = le 2 K ++ (l.drop (k + 2)).take K) := by
  have hd : (l.drop k).length = l.length - k := List.length_drop
  have hlen : ((l.drop k).take (K + 6)).length = K + 2 + 4 := by rw [List.length_take, hd]; omega
  have h2 : (l.drop k).take 2 = le 2 K := by
    refine num_inj _ _ (by rw [List.length_take, hd, le_len]; omega) ?_
    rw [num_le, ← hK, Nat.mod_eq_of_lt (nB_le _)]
    rfl
  have hb : ((l.drop k).take (K + 6)).take (K + 2) = le 2 K ++ (l.drop (k + 2)).take K := by
    rw [List.take_take, Nat.min_eq_left (by omega), Nat.add_comm K 2, List.take_add, h2, List.drop_drop]
  have hbl : ((l.drop (k + 2)).take K).length = K := by rw [List.length_take, List.length_drop]; omega
  have e := isSeal_eq _ (K + 2) hlen
  rw [hb] at e
  refine ⟨?_, fun h => ?_⟩
  · rw [← e]
    unfold boxC
    rw [hbl]
  · rw [openB_is _ (K + 2) hlen h, hb]

/-- What Next tells: new bytes. -/
def NextO (W : World) (r : List UInt8 × Nat × Int) (e : Ending) (W' : World) : Prop :=
  ∃ A m c, e = .returned (.tuple #[.slice A m c, .int .i64 ((r.2.1 : Nat) : Int), .int .i64 r.2.2]) ∧ Byt W' W'.heap.size A m r.1 ∧ (A = none → c = 0) ∧ m ≤ c ∧ c ≤ maxLen ∧ Below W.heap.size W W' ∧
    (0 < m → ∃ g o cs fr, A = some ⟨g, o, none⟩ ∧ W.heap.size ≤ g ∧ W'.heap[g]? = some (.cells cs 5 fr))
theorem NextO.bad {W W' : World} {k : Int} {r : List UInt8 × Nat × Int} {e : Ending} (hr : r = ([], 0, k)) (he : e = .returned (.tuple #[.slice none 0 0, .int .i64 0, .int .i64 k])) (h : Below W.heap.size W W') : NextO W r e W' := by
  subst hr he
  exact ⟨none, 0, 0, rfl, Byt.nil, fun _ => rfl, Nat.le_refl _, Nat.zero_le _, h, fun h => absurd h (by omega)⟩
theorem NextO.q {W W' : World} {r : List UInt8 × Nat × Int} {e : Ending} (h : NextO W r e W') : NextQ W r e W' := by
  obtain ⟨A, m, c, h1, h2, h3, h4, h5, h6, _⟩ := h
  exact ⟨A, m, c, h1, h2, h3, h4, h5, h6⟩

set_option maxRecDepth 100000 in
set_option maxHeartbeats 2000000 in
theorem next_any (A : Option Addr) (n c : Nat) (l : List UInt8) (a : Int) (W : World) (hl : Byt W W.heap.size A n l) (hnil : A = none → c = 0) (hnc : n ≤ c) (hcm : c ≤ maxLen) (hn : n ≤ 1000000) :
    Calls Tryz.prog 123 #[.slice A n c, .int .i64 a] W (NextO W (nextC l a)) := by
  have hN := number_any A n c l a W hl hnil hnc hcm hn
  have hln := hl.1
  by_cases he : (numberC l a).2 = 0
  · obtain ⟨k, rfl, hk2, hnum, hK1, hK2⟩ := number_yes l a he
    rw [hnum] at hN
    have HN := Lib.hid (next_of l k hk2)
    obtain ⟨K, hK⟩ : ∃ K, nB (l.drop k) = K := ⟨_, rfl⟩
    rw [hK] at hN HN hK1 hK2
    simp only at hN
    have hS := fun w => bsize_any (K : Int) w
    rw [show sizeB (K : Int) = ((K + 6 : Nat) : Int) by unfold sizeB; rw [if_pos (by omega)]; rfl] at hS
    obtain ⟨z, hz⟩ : ∃ z, K + 6 = z := ⟨_, rfl⟩
    rw [hz] at hS
    obtain ⟨t, ht⟩ : ∃ t, k + z = t := ⟨_, rfl⟩
    have hw : IntKind.i64.wrap ((k : Int) + (z : Int)) = (t : Int) := by rw [IntKind.wrap_i64]; omega
    by_cases hs : n < t
    · have hs1 : (n : Int) < (t : Int) := by omega
      have HR := Lib.hid (show nextC l (k : Int) = ([], 0, 1) by rw [HN.out, if_neg (by omega), if_neg (by omega), if_pos (by omega)])
      clear HN hnum he hK hl hln hk2 hK1 hK2 hz ht hs hnil hnc hcm hn
      go_enter Tryz.func123, Tryz.ntmps123
      go_wp2_with fail
      refine hN.mono ?_
      rintro e w1 ⟨rfl, hb1⟩
      go_wp2_with fail
      refine (hS _).mono ?_
      rintro e w2 ⟨rfl, rfl⟩
      go_wp2_with fail
      go_ret3
      exact NextO.bad HR.out rfl hb1
    · have hs1 : ¬ (n : Int) < (t : Int) := by omega
      obtain ⟨e1, e2⟩ := seal_box l k K hK (by omega)
      have hp := hl.piece k z (by omega) hnc
      rw [hz] at e1 e2 HN
      obtain ⟨bd, hbd⟩ : ∃ b, (l.drop (k + 2)).take K = b := ⟨_, rfl⟩
      obtain ⟨pc, hpc⟩ : ∃ b, (l.drop k).take z = b := ⟨_, rfl⟩
      rw [hbd, hpc] at e1 e2 HN
      rw [hpc] at hp
      have hbl : bd.length = K := by rw [← hbd, List.length_take, List.length_drop]; omega
      obtain ⟨A2, hA2⟩ : ∃ A2, (if c = k then A else A.map (·.add k)) = A2 := ⟨_, rfl⟩
      rw [hA2] at hp
      have hnil2 : A2 = none → c - k = 0 := by
        intro h
        rw [← hA2] at h
        split at h
        · omega
        · cases A with
          | none => have := hnil rfl; omega
          | some q => cases h
      obtain ⟨c2, hc2⟩ : ∃ c2 : Nat, c - k = c2 := ⟨_, rfl⟩
      rw [hc2] at hnil2
      have HC := Lib.hid (show k + z = t ∧ c - k = c2 ∧ z ≤ c2 ∧ c2 ≤ maxLen ∧ z ≤ 5000 ∧ K + 6 = z by omega)
      have b1 : (k : Int) ≤ (t : Int) := by omega
      have b2 : (t : Int) ≤ (c : Int) := by omega
      unfold maxLen at hcm
      obtain ⟨b, hb⟩ : ∃ b, isSeal pc = b := ⟨_, rfl⟩
      cases b with
      | false =>
        have HR := Lib.hid (show nextC l (k : Int) = ([], 0, 4) by rw [HN.out, if_neg (by omega), if_neg (by omega), if_neg (by omega), if_neg (by rw [hb] at e1; simpa using e1.symm)])
        clear HN hnum he hK hl hln hk2 hK1 hK2 hz ht hs hnil hnc hcm hn hbl hbd hpc e1 e2
        go_enter Tryz.func123, Tryz.ntmps123
        go_wp2_with fail
        refine hN.mono ?_
        rintro e w1 ⟨rfl, hb1⟩
        have hp1 := hp.below hb1
        go_wp2_with fail
        refine (hS _).mono ?_
        rintro e w2 ⟨rfl, rfl⟩
        go_wp2_with fail
        rw [show t - k = z by have := HC.out; omega]
        clear hc2 hA2
        refine (open_any W.heap.size A2 z c2 pc _ hp1 hb1.size hnil2 HC.out.2.2.1 HC.out.2.2.2.1 (by have := HC.out; omega)).mono ?_
        rintro e w3 ⟨v, rfl, ho3, hb3⟩
        rw [hb]
        go_wp2_with fail
        go_ret3
        exact NextO.bad HR.out rfl (bthen hb1 hb3)
      | true =>
        have hop := e2 hb
        have HR := Lib.hid (show nextC l (k : Int) = (bd, t, 0) by rw [HN.out, if_neg (by omega), if_neg (by omega), if_neg (by omega), if_pos (by rw [hb] at e1; simpa using e1.symm), ht])
        clear HN hnum he hK hl hln hk2 hz ht hs hnil hnc hcm hn hbd hpc e1 e2
        go_enter Tryz.func123, Tryz.ntmps123
        go_wp2_with fail
        refine hN.mono ?_
        rintro e w1 ⟨rfl, hb1⟩
        have hp1 := hp.below hb1
        go_wp2_with fail
        refine (hS _).mono ?_
        rintro e w2 ⟨rfl, rfl⟩
        go_wp2_with fail
        rw [show t - k = z by have := HC.out; omega]
        clear hc2 hA2
        refine (open_any W.heap.size A2 z c2 pc _ hp1 hb1.size hnil2 HC.out.2.2.1 HC.out.2.2.2.1 (by have := HC.out; omega)).mono ?_
        rintro e w3 ⟨v, rfl, ho3, hb3⟩
        rw [hb]
        rw [hop] at ho3
        obtain ⟨m2, hm2⟩ : ∃ m, 2 + K = m := ⟨_, rfl⟩
        rw [show (le 2 K ++ bd).length = m2 by rw [List.length_append, le_len, hbl, hm2]] at ho3
        rcases ho3.2 with ⟨_, h0⟩ | ⟨g, cap, cur, rfl, hg, hgb, hnc2, hm, _⟩
        · omega
        have hx := Byt.of_own ho3
        have h2c : (2 : Int) ≤ (m2 : Int) := by omega
        have h2d : (m2 : Int) ≤ (cap : Int) := by omega
        have h2n : ¬ cap = 2 := by omega
        unfold maxLen at hm
        have HM := Lib.hid (show 2 + K = m2 ∧ 1 ≤ K ∧ m2 ≤ cap ∧ cap ≤ maxLen by unfold maxLen; omega)
        clear hm2 hnc2 hm hK1 hK2
        go_wp2_with fail
        go_ret3
        rw [HR.out]
        have hx2 := hx.cut (k := 2) (by have := HM.out; omega) HM.out.2.2.1
        rw [if_neg h2n, List.drop_left' (le_len 2 K)] at hx2
        exact ⟨some ⟨g, 2, none⟩, m2 - 2, cap - 2, rfl, hx2, (fun h => by cases h), by have := HM.out; omega, by have := HM.out.2.2.2; omega, bthen hb1 hb3, fun _ => ⟨g, 2, cur, (0, 0), rfl, Nat.le_trans hb1.size hg, hgb⟩⟩
  · have HE := Lib.hid (number_no l a he)
    obtain ⟨x, hx⟩ : ∃ x, numberC l a = x := ⟨_, rfl⟩
    rw [hx] at hN HE he
    obtain ⟨x1, x2⟩ := x
    simp only at hN he
    have hq : (x2 != 0) = true := by simpa using he
    clear hl hln he hx hnil hnc hcm hn
    go_enter Tryz.func123, Tryz.ntmps123
    go_wp2_with fail
    refine hN.mono ?_
    rintro e w1 ⟨rfl, hb1⟩
    go_wp2_with fail
    go_ret3
    exact NextO.bad HE.out rfl hb1

set_option maxRecDepth 100000 in
set_option maxHeartbeats 2000000 in
theorem put12_no (A A2 : Option Addr) (n c n2 c2 : Nat) (b x : List UInt8) (W : World) (h2 : Byt W W.heap.size A2 n2 x) (h : putE x ≠ 0) :
    Calls Tryz.prog 89 #[.slice A n c, .slice A2 n2 c2] W (PutPost W b x) := by
  have hH := fun w => held_any (n2 : Int) w
  have hl := h2.1
  have e : heldE (n2 : Int) = putE x := by
    unfold heldE putE
    repeat' split
    all_goals omega
  rw [e] at hH
  have HB := Lib.hid (show putB b x = [] by unfold putB; rw [if_neg h])
  obtain ⟨k, hk⟩ : ∃ k, putE x = k := ⟨_, rfl⟩
  rw [hk] at h hH
  have HK := Lib.hid hk
  have hq : (k != 0) = true := by simpa using h
  clear h hk e hl h2
  go_enter Tryz.func89, Tryz.ntmps89
  go_wp2_with (go_at_call 130; refine (hH _).mono ?_; rintro e w ⟨rfl, rfl⟩)
  go_ret2
  exact ⟨.slice none 0 0, 0, by rw [HK.out]; rfl, by rw [HB.out]; exact World.ownsRow_nil _ _ _ _, Below.refl _ _⟩

set_option maxRecDepth 100000 in
set_option maxHeartbeats 2000000 in
theorem put12_ok (A A2 : Option Addr) (n c n2 c2 : Nat) (b x : List UInt8) (W : World) (h1 : Byt W W.heap.size A n b) (hn1 : A = none → c = 0) (h2 : Byt W W.heap.size A2 n2 x) (hn2 : A2 = none → c2 = 0) (hm1 : n ≤ 1000000) (hm2 : n2 ≤ 1000000) (h : putE x = 0) :
    Calls Tryz.prog 89 #[.slice A n c, .slice A2 n2 c2] W (PutPost W b x) := by
  obtain ⟨i0, hi, hz0, hz1, hz2⟩ := info_parts Tryz.info5
  have HQ : Hid (bitsW 2 = 8 * 2) := Lib.hid rfl
  have hH := fun w => held_any (n2 : Int) w
  have hl := h2.1
  have hx0 : n2 ≠ 0 ∧ n2 ≤ 4096 := by
    unfold putE at h
    split at h
    · cases h
    · split at h
      · cases h
      · omega
  have e : heldE (n2 : Int) = 0 := by unfold heldE; rw [if_neg (by omega), if_neg (by omega)]
  rw [e] at hH
  have HB := Lib.hid (show putB b x = b ++ sealC (le 2 n2 ++ x) by unfold putB; rw [if_pos h]; unfold boxC; rw [hl])
  have HP := Lib.hid h
  have HN := Lib.hid (And.intro hx0.1 (And.intro hx0.2 hm1))
  have hw : IntKind.u64.wrap (n2 : Int) = (n2 : Int) := by rw [IntKind.wrap_u64]; omega
  clear h e hl hx0 hm1 hm2
  go_enter Tryz.func89, Tryz.ntmps89
  go_wp2_with fail
  refine (hH _).mono ?_
  rintro e w ⟨rfl, rfl⟩
  go_wp2_with fail
  refine (put_int none 0 0 [] 2 (n2 : Int) (by omega) (by have := HN.out; omega) _ Byt.nil (fun _ => rfl) (by decide) 2 (by decide) HQ).mono ?_
  rintro e w1 ⟨v1, rfl, ho1, hb1⟩
  rw [Int.toNat_natCast, List.nil_append, Nat.zero_add] at ho1
  have h2' := (h2.below hb1).more hb1.size
  go_wp2_with (at_builtin; refine wpList_append_byt _ rfl _ _ 70 rfl w.heap.size 5 i0 (.int .u8 0) Tryz.underlying70 hi hz0 hz1 hz2 rfl _ _ _ rfl ho1 w1.heap.size A2 n2 c2 x rfl h2' hn2 (by have := HN.out; omega) hb1.size ?_; intro v2 w2 ho2 hg2; have hb2 := hb1.grown hg2 hb1.size (fun q hq => (ho1.lt q hq).1); obtain ⟨A3, c3, rfl, r1, r2, r3⟩ := own_form ho2; clear hg2)
  have hx2 : Byt w2 w2.heap.size A3 (2 + n2) (le 2 n2 ++ x) := Byt.of_own (by rw [List.map_append]; exact ho2)
  obtain ⟨m, hm⟩ : ∃ m, 2 + n2 = m := ⟨_, rfl⟩
  rw [hm] at hx2 r1 ⊢
  have HM := Lib.hid hm
  clear hm
  refine (seal_any A3 m c3 _ _ hx2 (fun h => (r1 h).2) (by have := HM.out; have := HN.out; omega)).mono ?_
  rintro e w3 ⟨v3, rfl, ho3, hb3⟩
  obtain ⟨A4, c4, rfl, s1, s2, s3⟩ := own_form ho3
  have hx4 := Byt.of_own ho3
  have hb13 := bthen hb2 hb3
  have hx1 := (h1.below hb13).more hb13.size
  clear ho3 ho2 hx2 h2' ho1
  go_wp2_with fail
  have q0 : (w3.alloc (.cells #[.slice A n c, .slice A4 (m + 4) c4] 70)).cell? ⟨w3.heap.size, 0, none⟩ = some (.slice A n c) := by simp [World.cell?_alloc_at]
  have q1 : (w3.alloc (.cells #[.slice A n c, .slice A4 (m + 4) c4] 70)).cell? ⟨w3.heap.size, 1, none⟩ = some (.slice A4 (m + 4) c4) := by simp [World.cell?_alloc_at]
  refine (concat_any A n c b A4 (m + 4) c4 _ w3.heap.size w3.heap.size _ (hx1.alloc (Nat.le_refl _) _) hn1 (hx4.alloc (Nat.le_refl _) _) (fun h => (s1 h).2) (by simp) (by have := HN.out; omega) (by have := HM.out; have := HN.out; omega) (by omega) q0 q1).mono ?_
  rintro e w5 ⟨v5, rfl, ho5, hb5⟩
  go_wp2_with fail
  go_ret2
  refine ⟨v5, n + (m + 4), by rw [HP.out]; rfl, ?_, ?_⟩
  · rw [HB.out]
    exact own_mono ho5 (Nat.le_trans hb13.size (by simp))
  · exact (hb13.alloc hb13.size _).trans (hb5.mono (Nat.le_trans hb13.size (by simp)))

theorem put12_any (A A2 : Option Addr) (n c n2 c2 : Nat) (b x : List UInt8) (W : World) (h1 : Byt W W.heap.size A n b) (hn1 : A = none → c = 0) (h2 : Byt W W.heap.size A2 n2 x) (hn2 : A2 = none → c2 = 0) (hm1 : n ≤ 1000000) (hm2 : n2 ≤ 1000000) :
    Calls Tryz.prog 89 #[.slice A n c, .slice A2 n2 c2] W (PutPost W b x) := by
  by_cases h : putE x = 0
  · exact put12_ok A A2 n c n2 c2 b x W h1 hn1 h2 hn2 hm1 hm2 h
  · exact put12_no A A2 n c n2 c2 b x W h2 h

end Go.Proofs.YthjikbhjciphiaaGreatDoor

/-
  Arguments opened: byte slices, slices of int8, as the walks want them.
-/
namespace Go.Proofs.YthjikbhjciphiaaGreatDoor
open Go.RowKit
open Go.ChangeShapes Go.WideShapes Go.ChangeAt
set_option linter.unusedVariables false
set_option linter.unusedSimpArgs false

theorem Tryz.own : ownKnob Tryz.prog.godebug = none := by kernel_rfl
theorem Tryz.laidOut : laidOutB Tryz.prog = true := by kernel_rfl

section
variable {H : Type} {enc : TypeId × Value → H} {P : Program} {w : World}

theorem ofNat_toNat_u8 (z : Int) (h0 : 0 ≤ z) (h1 : z ≤ 255) : (((UInt8.ofNat z.toNat).toNat : Nat) : Int) = z := by
  simp [UInt8.toNat_ofNat']; omega

/-- A '[]byte' that came in. -/
theorem open_byt {t e : TypeId} {held : Bool} {a : Option Addr} {len cap : Nat} {d : DataW H} {p : List MemPlace} (ht : P.underlying t = some (.slice e)) (he : P.underlying e = some (.int .u8)) (hc : P.cellsOf e = 1)
    (h : DataW.Trod enc P w 0 (fun _ => true) held t (.slice a len cap) d p) : ∃ l, Byt w w.heap.size a len l ∧ (a = none → cap = 0) ∧ len ≤ cap ∧ cap ≤ maxLen := by
  obtain ⟨fuel, hf⟩ := h
  rcases open_ints ht he hc hf with ⟨hcs, _⟩ | ⟨x, l, c, zs, hcs, _, hl, hm, hz, _, hcell, hwz⟩
  · simp [Value.cells] at hcs
    obtain ⟨rfl, rfl, rfl⟩ := hcs
    exact ⟨[], Byt.nil, fun _ => rfl, Nat.le_refl _, Nat.zero_le _⟩
  · simp [Value.cells] at hcs
    obtain ⟨rfl, rfl, rfl⟩ := hcs
    simp only [if_true] at hz
    have hll : ((zs.take len).map fun z => UInt8.ofNat z.toNat).length = len := by rw [List.length_map, List.length_take, hz]; omega
    refine ⟨(zs.take len).map fun z => UInt8.ofNat z.toNat, ⟨hll, fun hn => ?_⟩, (fun h => by cases h), hl, hm⟩
    obtain ⟨b, off, spot⟩ := x
    have h0 := hcell 0 (by omega)
    have hspot : spot = none := by simpa [Addr.add] using World.cell?_spot h0
    subst hspot
    refine ⟨b, off, rfl, ?_, fun j y hy => ?_⟩
    · have := World.block_lt_of_cell? w _ h0
      simpa [Addr.add] using this
    · rw [List.getElem?_map] at hy
      obtain ⟨z, hz1, rfl⟩ := Option.map_eq_some_iff.1 hy
      rw [List.getElem?_take] at hz1
      split at hz1
      · rename_i hj
        have hcj := hcell j (by omega)
        rw [Addr.add_lit] at hcj
        have hzj : zs.getD j 0 = z := by rw [List.getD_eq_getElem?_getD, hz1]; rfl
        rw [hcj, hzj]
        obtain ⟨b0, b1⟩ := bounds_u8 (hwz z (List.mem_of_getElem? hz1))
        rw [ofNat_toNat_u8 z b0 b1]
      · cases hz1

/-- Slices of integers of whatever kind: the cells. -/
def Nums (k : IntKind) (w : World) (B : Nat) (A : Option Addr) (n : Nat) (l : List Int) : Prop :=
  l.length = n ∧ (∀ z ∈ l, (Lit.int k z).wf = true) ∧ (0 < n → ∃ b o, A = some ⟨b, o, none⟩ ∧ b < B ∧ ∀ (j : Nat) (x : Int), l[j]? = some x → w.cell? ⟨b, o + j, none⟩ = some (.int k x))

theorem open_nums {k : IntKind} {t e : TypeId} {held : Bool} {a : Option Addr} {len cap : Nat} {d : DataW H} {p : List MemPlace} (ht : P.underlying t = some (.slice e)) (he : P.underlying e = some (.int k)) (hc : P.cellsOf e = 1)
    (h : DataW.Trod enc P w 0 (fun _ => true) held t (.slice a len cap) d p) : ∃ l, Nums k w w.heap.size a len l ∧ (a = none → cap = 0) ∧ len ≤ cap ∧ cap ≤ maxLen := by
  obtain ⟨fuel, hf⟩ := h
  rcases open_ints ht he hc hf with ⟨hcs, _⟩ | ⟨x, l, c, zs, hcs, _, hl, hm, hz, _, hcell, hwz⟩
  · simp [Value.cells] at hcs
    obtain ⟨rfl, rfl, rfl⟩ := hcs
    exact ⟨[], ⟨rfl, fun _ h => (by cases h), fun h => absurd h (by omega)⟩, fun _ => rfl, Nat.le_refl _, Nat.zero_le _⟩
  · simp [Value.cells] at hcs
    obtain ⟨rfl, rfl, rfl⟩ := hcs
    simp only [if_true] at hz
    refine ⟨zs.take len, ⟨by rw [List.length_take, hz]; omega, fun z h => hwz z (List.mem_of_mem_take h), fun hn => ?_⟩, (fun h => by cases h), hl, hm⟩
    obtain ⟨b, off, spot⟩ := x
    have h0 := hcell 0 (by omega)
    have hspot : spot = none := by simpa [Addr.add] using World.cell?_spot h0
    subst hspot
    refine ⟨b, off, rfl, ?_, fun j y hy => ?_⟩
    · have := World.block_lt_of_cell? w _ h0
      simpa [Addr.add] using this
    · rw [List.getElem?_take] at hy
      split at hy
      · rename_i hj
        have hcj := hcell j (by omega)
        rw [Addr.add_lit] at hcj
        have hzj : zs.getD j 0 = y := by rw [List.getD_eq_getElem?_getD, hy]; rfl
        rw [hcj, hzj]
      · cases hy
theorem Nums.keep {k : IntKind} {w w' : World} {B n : Nat} {A : Option Addr} {l : List Int} (h : Nums k w B A n l) (hk : ∀ p : Addr, p.block < B → w'.cell? p = w.cell? p) : Nums k w' B A n l :=
  ⟨h.1, h.2.1, fun hn => by
    obtain ⟨b, o, e, hb, hc⟩ := h.2.2 hn
    exact ⟨b, o, e, hb, fun j u hu => (hk _ hb).trans (hc j u hu)⟩⟩
theorem Nums.below {k : IntKind} {w w' : World} {B n : Nat} {A : Option Addr} {l : List Int} (h : Nums k w B A n l) (hb : Below B w w') : Nums k w' B A n l := h.keep fun _ hp => hb.cell hp
theorem Nums.at_ {k : IntKind} {w : World} {B n : Nat} {A : Option Addr} {l : List Int} (h : Nums k w B A n l) {i : Nat} (hk : i < n) : ∃ b o x, A = some ⟨b, o, none⟩ ∧ b < B ∧ l[i]? = some x ∧ (Lit.int k x).wf = true ∧ w.cell? ⟨b, o + i, none⟩ = some (.int k x) := by
  obtain ⟨b, o, e, hb, hc⟩ := h.2.2 (by omega)
  have hl : i < l.length := by have := h.1; omega
  exact ⟨b, o, l[i], e, hb, List.getElem?_eq_getElem hl, h.2.1 _ (List.getElem_mem hl), hc i _ (List.getElem?_eq_getElem hl)⟩
end
end Go.Proofs.YthjikbhjciphiaaGreatDoor

/-
  Arguments that are slices of structs, opened: the general words.
-/
namespace Go.Proofs.YthjikbhjciphiaaGreatDoor
open Go.RowKit
open Go.ChangeShapes Go.WideShapes Go.ChangeAt
set_option linter.unusedVariables false
set_option linter.unusedSimpArgs false

theorem list_of {α : Type} {Q : Nat → α → Prop} : ∀ (n : Nat), (∀ i, i < n → ∃ x, Q i x) → ∃ l : List α, l.length = n ∧ ∀ (i : Nat) (x : α), l[i]? = some x → Q i x := by
  intro n
  induction n with
  | zero => intro _; exact ⟨[], rfl, fun i x h => by cases h⟩
  | succ n ih =>
    intro h
    obtain ⟨l, h1, h2⟩ := ih (fun i hi => h i (by omega))
    obtain ⟨x, hx⟩ := h n (by omega)
    refine ⟨l ++ [x], by simp [h1], fun i y hy => ?_⟩
    by_cases hi : i < n
    · rw [List.getElem?_append_left (by omega)] at hy
      exact h2 i y hy
    · rw [List.getElem?_append_right (by omega)] at hy
      have hin : i - l.length = 0 := by
        have := (List.getElem?_eq_some_iff.1 hy).1
        simp at this
        omega
      rw [hin] at hy
      have hyx : x = y := by simpa using hy
      subst hyx
      have : i = n := by omega
      subst this
      exact hx

theorem bounds_w64 {z : Int} (h : (Lit.int .u64 z).wf = true) : 0 ≤ z ∧ z < 18446744073709551616 := by
  have h2 := bounds_u64 h
  exact ⟨h2.1, Int.lt_of_le_of_lt h2.2 (by decide)⟩

end Go.Proofs.YthjikbhjciphiaaGreatDoor
