/-
  The statements of records' bytes.
-/
import Derived.Test.YtnjkhhagefipiaaDoorRcG
import Derived.Laws.StructEq
namespace Go.Proofs.YtnjkhhagefipiaaDoor
open Go.RowKit
set_option linter.unusedVariables false
set_option linter.unusedSimpArgs false

set_option maxRecDepth 100000 in
set_option maxHeartbeats 2000000 in
theorem recEncodes_law (s : Nat) (k : Int) (T : ByteArray) (l n b : Nat) (W : World) (ho : (⟨s, k, T.data.toList, l, n, b⟩ : Rc).okay) (hT : T.size ≤ maxLen) (hD : DK W) :
    Calls Tryd.prog 4 #[rcV s k T l n b] W fun e W' => e = .returned (.bool true) ∧ Below W.heap.size W W' := by
  obtain ⟨o1, o2, o3, o4, o5, o6⟩ := ho
  simp only at o1 o2 o3 o4 o5 o6
  have hB0 := (Below.refl W.heap.size W).alloc (Nat.le_refl _) (.cells (rcCs s k T l n b).toArray 24)
  have hN0 := Blk.new (cs := rcCs s k T l n b) W 24 _ rfl
  have hD0 := dk_below hD hB0 (Nat.le_refl _)
  obtain ⟨w1, hw1⟩ : ∃ w1, W.alloc (.cells (rcCs s k T l n b).toArray 24) = w1 := ⟨_, rfl⟩
  have hw2 : W.alloc (.cells #[.int .u64 ((s : Nat) : Int), .int .i64 k, .string T, .int .u64 ((l : Nat) : Int), .int .u64 ((n : Nat) : Int), .int .u64 ((b : Nat) : Int)] 24) = w1 := hw1
  rw [hw1] at hB0 hN0 hD0
  by_cases hbig : 100 < T.size
  · have HW := Lib.hid hw2
    clear hw1 hw2 hN0
    unfold rcV
    go_enter Tryd.func4, Tryd.ntmps4
    go_wp2_with (go_at_call 6; refine (awake11_any _ (by rw [HW.out]; exact hD0)).mono ?_; rintro e w2 ⟨rfl, hb2⟩; rw [HW.out] at hb2)
    go_ret
    exact ⟨rfl, hB0.trans (hb2.mono hB0.size)⟩
  have hsm : ¬ (100 : Int) < (T.size : Int) := by omega
  have hrk : ∀ w, Calls Tryd.prog 9 #[rcV s k T l n b] w fun e W' => e = .returned (.int .i64 (checkC ⟨s, k, T.data.toList, l, n, b⟩)) ∧ Below w.heap.size w W' := fun w => refCheck_any s k T l n b (by omega) o6 w
  obtain ⟨z0, z1, z2, z3, z4, z5⟩ := rc_cells hN0
  by_cases hc : checkC ⟨s, k, T.data.toList, l, n, b⟩ = 0
  · have hE := encode_ok s k T l n b o1 o4 o5 o6 hT w1 hD0 hc
    have hDE := dec_enc _ ⟨o1, o2, o3, o4, o5, o6⟩ hc
    have hk := (check_parts _ hc).1
    have hRB := fun w => refBytes_any s k T l n b o1 o4 o5 o6 (by omega) hk w
    have hEq := fun w => rc_eql ⟨s, k, T.data.toList, l, n, b⟩ ⟨s, k, T.data.toList, l, n, b⟩ T T hT hT ⟨o1, o2, o3, o4, o5, o6⟩ ⟨o1, o2, o3, o4, o5, o6⟩ w
    simp only [and_self, decide_true] at hEq
    rw [hc] at hrk
    have hlen : (encC ⟨s, k, T.data.toList, l, n, b⟩).length ≤ 1000 := by
      have h1 := (ten_len _ (check_parts _ hc).2.1).2
      have h2 := fldC_len (kL k) l
      have h3 := fldC_len (kN k) n
      have h4 := fldC_len (kB k) b
      simp only at h1
      simp only [encC, List.length_append, List.length_cons, le_len]
      omega
    generalize encC ⟨s, k, T.data.toList, l, n, b⟩ = L at hE hDE hRB hlen
    unfold rcV at hE hrk hRB hEq ⊢
    have hDec : ∀ A m c w, Byt w w.heap.size A m L → (A = none → c = 0) → m ≤ 140737488355328 → DK w → Calls Tryd.prog 12 #[.slice A m c] w fun e W' => e = .returned (.tuple #[.agg #[.int .u64 ((s : Nat) : Int), .int .i64 k, .string T, .int .u64 ((l : Nat) : Int), .int .u64 ((n : Nat) : Int), .int .u64 ((b : Nat) : Int)], .int .i64 0]) ∧ Below w.heap.size w W' := fun A m c w h1 h2 h3 h4 => by
      have := decode_any A m c L w h1 h2 h3 h4
      rw [hDE] at this
      exact this
    have HLN := Lib.hid hlen
    have HD0 := Lib.hid hD0
    clear hc hk hw1 hDE hlen hD0 hD
    go_enter Tryd.func4, Tryd.ntmps4
    go_wp2_with fail
    refine hE.mono ?_
    rintro e w2 ⟨v, m, rfl, ho2, hb2⟩
    obtain ⟨A, c, rfl, h1, h2, h3⟩ := own_form ho2
    have hx2 := Byt.of_own ho2
    have hmL : L.length = m := hx2.1
    have hm1 : m ≤ 1000 := by have := HLN.out; omega
    have hN2 := hN0.below hb2 hN0.lt
    have hB2 := hB0.trans (hb2.mono hB0.size)
    have HW2 := Lib.hid hb2
    clear hE hw2 z0 z1 z2 z3 z4 z5 hmL ho2 hb2
    obtain ⟨z0, z1, z2, z3, z4, z5⟩ := rc_cells hN2
    go_wp2_with fail
    refine (hrk _).mono ?_
    rintro e w3 ⟨rfl, hb3⟩
    have hN3 := hN2.below hb3 hN2.lt
    have hB3 := hB2.trans (hb3.mono hB2.size)
    have hx3 := (hx2.below hb3).more hb3.size
    have hD3 := dk_below HD0.out (bthen HW2.out hb3) (Nat.le_refl _)
    clear z0 z1 z2 z3 z4 z5 hb3 hx2 hN2 hB2
    go_wp2_with fail
    refine (hDec _ _ _ _ hx3 (fun h => (h1 h).2) (by omega) hD3).mono ?_
    rintro e w4 ⟨rfl, hb4⟩
    have hN4 := hN3.below hb4 hN3.lt
    have hB4 := hB3.trans (hb4.mono hB3.size)
    have hx4 := (hx3.below hb4).more hb4.size
    have hD4 := dk_below hD3 hb4 (Nat.le_refl _)
    clear hb4 hx3 hN3 hB3 hD3
    have hN5 := hN4.alloc (.cells #[.int .u64 ((s : Nat) : Int), .int .i64 k, .string T, .int .u64 ((l : Nat) : Int), .int .u64 ((n : Nat) : Int), .int .u64 ((b : Nat) : Int)] 24)
    have hM5 := Blk.new (cs := rcCs s k T l n b) w4 24 _ rfl
    have hB5 := hB4.alloc hB4.size (.cells #[.int .u64 ((s : Nat) : Int), .int .i64 k, .string T, .int .u64 ((l : Nat) : Int), .int .u64 ((n : Nat) : Int), .int .u64 ((b : Nat) : Int)] 24)
    have hx5 := (hx4.alloc (Nat.le_refl _) (.cells #[.int .u64 ((s : Nat) : Int), .int .i64 k, .string T, .int .u64 ((l : Nat) : Int), .int .u64 ((n : Nat) : Int), .int .u64 ((b : Nat) : Int)] 24)).more (B' := w4.heap.size + 1) (by omega)
    have hD5 := dk_below hD4 ((Below.refl w4.heap.size w4).alloc (Nat.le_refl _) (.cells #[.int .u64 ((s : Nat) : Int), .int .i64 k, .string T, .int .u64 ((l : Nat) : Int), .int .u64 ((n : Nat) : Int), .int .u64 ((b : Nat) : Int)] 24)) (Nat.le_refl _)
    have hlt4 := hN4.lt
    obtain ⟨z0, z1, z2, z3, z4, z5⟩ := rc_cells hN4
    clear hN4 hB4 hx4 hD4
    go_wp2_with (first
      | (go_at_call 14; refine (hRB _).mono ?_; rintro e w6 ⟨v6, m6, rfl, ho6, hb6⟩; obtain ⟨A6, c6, rfl, hq1, hq2, hq3⟩ := own_form ho6; have hx6 := Byt.of_own ho6; have hx7 := (hx5.below (hb6.mono (by simp))).more (B' := w6.heap.size) (by have := hb6.size; simp at this; omega); have hN6 := hN5.below hb6 hN5.lt; have hM6 := hM5.below hb6 hM5.lt; have hB6 := hB5.trans (hb6.mono hB5.size); have hD6 := dk_below hD5 hb6 (Nat.le_refl _); obtain ⟨y0, y1, y2, y3, y4, y5⟩ := rc_cells hN6; obtain ⟨x0, x1, x2, x3, x4, x5⟩ := rc_cells hM6)
      | (go_at_call 13; refine (same_true _ _ _ _ _ _ L L _ _ hx7 hx6 (by omega) rfl).mono ?_; rintro e w8 ⟨rfl, r8, rfl⟩)
      | (go_at_call 6; refine (awake11_any _ (dk_drewN hD6 _)).mono ?_; rintro e w9 ⟨rfl, hb9⟩))
    go_ret
    exact ⟨rfl, (below_drewN hB6 r8).trans (hb9.mono hB6.size)⟩
  · obtain ⟨z, hz⟩ : ∃ z, checkC ⟨s, k, T.data.toList, l, n, b⟩ = z := ⟨_, rfl⟩
    rw [hz] at hrk hc
    have hE := encode_no s k T l n b hT o6 w1 hD0 z hz hc
    have hq : (z != 0) = true := by simpa using hc
    have HD0 := Lib.hid hD0
    unfold rcV at hE hrk ⊢
    clear hc hz hw1 hD hD0
    go_enter Tryd.func4, Tryd.ntmps4
    go_wp2_with (first
      | (go_at_call 11; refine hE.mono ?_; rintro e w2 ⟨rfl, hb2⟩; have hN2 := hN0.below hb2 hN0.lt; have hB2 := hB0.trans (hb2.mono hB0.size); have hD2 := dk_below HD0.out hb2 (Nat.le_refl _); clear hw2 z0 z1 z2 z3 z4 z5; obtain ⟨z0, z1, z2, z3, z4, z5⟩ := rc_cells hN2)
      | (go_at_call 9; refine (hrk _).mono ?_; rintro e w3 ⟨rfl, hb3⟩; have hB3 := hB2.trans (hb3.mono hB2.size); have hD3 := dk_below hD2 hb3 (Nat.le_refl _))
      | (go_at_call 6; refine (awake11_any _ hD3).mono ?_; rintro e w9 ⟨rfl, hb9⟩))
    go_ret
    exact ⟨rfl, hB3.trans (hb9.mono hB3.size)⟩

set_option maxRecDepth 100000 in
set_option maxHeartbeats 2000000 in
theorem recDecodes_good (A : Option Addr) (n c : Nat) (l : List UInt8) (W : World) (hl : Byt W W.heap.size A n l) (hnil : A = none → c = 0) (hn : n ≤ 300) (hD : DK W) (h0 : (decC l).2 = 0) :
    Calls Tryd.prog 5 #[.slice A n c] W fun e W' => e = .returned (.bool true) ∧ Below W.heap.size W W' := by
  obtain ⟨hc, hL, ho⟩ := dec_ok l h0
  have hDe := decode_any A n c l W hl hnil (by omega) hD
  rw [h0] at hDe
  obtain ⟨⟨s, k, t, x3, x4, x5⟩, hr⟩ : ∃ r, (decC l).1 = r := ⟨_, rfl⟩
  rw [hr] at hDe hc hL ho
  obtain ⟨o1, o2, o3, o4, o5, o6⟩ := ho
  simp only at o1 o2 o3 o4 o5 o6
  obtain ⟨T, hTt⟩ : ∃ T : ByteArray, T.data.toList = t := ⟨⟨t.toArray⟩, by simp⟩
  subst hTt
  obtain ⟨hk, ht, _⟩ := check_parts _ hc
  have hT : T.size ≤ 16 := by have := (ten_len _ ht).2; simpa using this
  have hrk : ∀ w, Calls Tryd.prog 9 #[rcV s k T x3 x4 x5] w fun e W' => e = .returned (.int .i64 0) ∧ Below w.heap.size w W' := fun w => by
    have := refCheck_any s k T x3 x4 x5 (by omega) o6 w
    rw [hc] at this
    exact this
  have hRB : ∀ w, Calls Tryd.prog 14 #[rcV s k T x3 x4 x5] w fun e W' => ∃ v m, e = .returned v ∧ W'.ownsRow w.heap.size 5 1 v m (l.map bv) ∧ Below w.heap.size w W' := fun w => by
    have := refBytes_any s k T x3 x4 x5 o1 o4 o5 o6 (by omega) hk w
    rw [hL] at this
    exact this
  have hDe' : Calls Tryd.prog 12 #[.slice A n c] W fun e W' => e = .returned (.tuple #[.agg #[.int .u64 ((s : Nat) : Int), .int .i64 k, .string T, .int .u64 ((x3 : Nat) : Int), .int .u64 ((x4 : Nat) : Int), .int .u64 ((x5 : Nat) : Int)], .int .i64 0]) ∧ Below W.heap.size W W' := hDe
  unfold rcV at hrk hRB
  have HD := Lib.hid hD
  have hsm : ¬ (300 : Int) < (n : Int) := by omega
  clear hDe hc hL hk ht hr h0 hD
  go_enter Tryd.func5, Tryd.ntmps5
  go_wp2_with fail
  refine hDe'.mono ?_
  rintro e w2 ⟨rfl, hb2⟩
  have hM := Blk.new (cs := rcCs s k T x3 x4 x5) w2 24 _ rfl
  have hB2 := hb2.alloc hb2.size (.cells (rcCs s k T x3 x4 x5).toArray 24)
  have hD2 := dk_below HD.out hB2 (Nat.le_refl _)
  go_wp2_with fail
  refine (hrk _).mono ?_
  rintro e w3 ⟨rfl, hb3⟩
  have hM3 := hM.below hb3 hM.lt
  have hB3 := hB2.trans (hb3.mono hB2.size)
  have hD3 := dk_below hD2 hb3 (Nat.le_refl _)
  obtain ⟨z0, z1, z2, z3, z4, z5⟩ := rc_cells hM3
  clear hb2 hb3 hM hB2 hD2
  go_wp2_with (first
    | (go_at_call 14; refine (hRB _).mono ?_; rintro e w6 ⟨v6, m6, rfl, ho6, hb6⟩; obtain ⟨A6, c6, rfl, hq1, hq2, hq3⟩ := own_form ho6; have hx6 := Byt.of_own ho6; have hB6 := hB3.trans (hb6.mono hB3.size); have hx7 := (hl.below hB6).more (B' := w6.heap.size) hB6.size; have hD6 := dk_below hD3 hb6 (Nat.le_refl _))
    | (go_at_call 13; refine (same_true _ _ _ _ _ _ l l _ _ hx6 hx7 (by have := hx6.1; have := hl.1; omega) rfl).mono ?_; rintro e w8 ⟨rfl, r8, rfl⟩)
    | (go_at_call 6; refine (awake11_any _ (dk_drewN hD6 _)).mono ?_; rintro e w9 ⟨rfl, hb9⟩))
  go_ret
  exact ⟨rfl, (below_drewN hB6 r8).trans (hb9.mono hB6.size)⟩

set_option maxRecDepth 100000 in
set_option maxHeartbeats 2000000 in
theorem recDecodes_bad (A : Option Addr) (n c : Nat) (l : List UInt8) (W : World) (hl : Byt W W.heap.size A n l) (hnil : A = none → c = 0) (hn : n ≤ 300) (hD : DK W) (h0 : (decC l).2 ≠ 0) :
    Calls Tryd.prog 5 #[.slice A n c] W fun e W' => e = .returned (.bool true) ∧ Below W.heap.size W W' := by
  obtain ⟨hz, h5, h1⟩ := dec_bad l h0
  have hDe := decode_any A n c l W hl hnil (by omega) hD
  rw [hz] at hDe
  obtain ⟨z, hzz⟩ : ∃ z, (decC l).2 = z := ⟨_, rfl⟩
  rw [hzz] at hDe h0 h5 h1
  have hDe' : Calls Tryd.prog 12 #[.slice A n c] W fun e W' => e = .returned (.tuple #[.agg #[.int .u64 0, .int .i64 0, .string ⟨#[]⟩, .int .u64 0, .int .u64 0, .int .u64 0], .int .i64 z]) ∧ Below W.heap.size W W' := hDe
  have hEq := fun w => rc_eql zeroR zeroR ⟨#[]⟩ ⟨#[]⟩ (by unfold maxLen; decide) (by unfold maxLen; decide) (by unfold zeroR Rc.okay; decide) (by unfold zeroR Rc.okay; decide) w
  simp only [and_self, decide_true] at hEq
  have hEq' : ∀ w, (binOp .eql 24 (.agg #[.int .u64 0, .int .i64 0, .string ⟨#[]⟩, .int .u64 0, .int .u64 0, .int .u64 0]) (.agg #[.int .u64 0, .int .i64 0, .string ⟨#[]⟩, .int .u64 0, .int .u64 0, .int .u64 0])).run Tryd.prog w = .ok (.bool true) w := hEq
  have hq : (z != 0) = true := by simpa using h0
  have HD := Lib.hid hD
  have hsm : ¬ (300 : Int) < (n : Int) := by omega
  clear hDe hEq hz hzz h0 hD
  cases l with
  | nil =>
    have e1 : z = 1 := h1 rfl
    subst e1
    have hn0 : n = 0 := hl.1.symm
    subst hn0
    clear h5 h1 hq
    go_enter Tryd.func5, Tryd.ntmps5
    go_wp2_with (first
      | (go_at_call 12; refine hDe'.mono ?_; rintro e w2 ⟨rfl, hb2⟩; have hB2 := hb2.alloc hb2.size (.cells (rcCs 0 0 ⟨#[]⟩ 0 0 0).toArray 24); have hD2 := dk_below HD.out hB2 (Nat.le_refl _))
      | (go_at_call 6; refine (awake11_any _ hD2).mono ?_; rintro e w9 ⟨rfl, hb9⟩))
    go_ret
    exact ⟨rfl, hB2.trans (hb9.mono hB2.size)⟩
  | cons b r =>
    have hpos : 0 < n := by have := hl.1; simp at this; omega
    obtain ⟨g, o, rfl, hlt, hc0⟩ := hl.2 hpos
    have z0 : W.cell? ⟨g, o, none⟩ = some (.int .u8 ((b.toNat : Nat) : Int)) := hc0 0 b rfl
    have hpos' : (0 : Int) < (n : Int) := by omega
    have hb255 := b.toNat_lt
    have HK : ((b.toNat < 1 ∨ 5 < b.toNat) ∧ z = 5) ∨ (¬ b.toNat < 1 ∧ ¬ 5 < b.toNat ∧ (z == 5) = false) := by
      by_cases h : b.toNat < 1 ∨ 5 < b.toNat
      · exact .inl ⟨h, h5.2 ⟨b, r, rfl, h⟩⟩
      · refine .inr ⟨by omega, by omega, ?_⟩
        simp only [beq_eq_false_iff_ne]
        intro e
        obtain ⟨b', r', e', h'⟩ := h5.1 e
        cases e'
        exact h h'
    obtain ⟨B, hB⟩ : ∃ B, b.toNat = B := ⟨_, rfl⟩
    rw [hB] at z0 HK hb255
    clear hB h5 h1 hc0
    have hcase : ((B : Int) < 1 ∧ z = 5) ∨ (¬ (B : Int) < 1 ∧ (5 : Int) < (B : Int) ∧ z = 5) ∨ (¬ (B : Int) < 1 ∧ ¬ (5 : Int) < (B : Int) ∧ (z == 5) = false) := by
      rcases HK with ⟨h, h2⟩ | ⟨h, h2, h3⟩
      · by_cases h1 : B < 1
        · exact .inl ⟨by omega, h2⟩
        · exact .inr (.inl ⟨by omega, by omega, h2⟩)
      · exact .inr (.inr ⟨by omega, by omega, h3⟩)
    clear HK
    have hcase2 : (decide ((B : Int) < 1) = true ∧ z = 5) ∨ (decide ((B : Int) < 1) = false ∧ decide ((5 : Int) < (B : Int)) = true ∧ z = 5) ∨ (decide ((B : Int) < 1) = false ∧ decide ((5 : Int) < (B : Int)) = false ∧ (z == 5) = false) := by
      simpa only [decide_eq_true_eq, decide_eq_false_iff_not] using hcase
    clear hcase
    rcases hcase2 with ⟨c1, c3⟩ | ⟨c1, c2, c3⟩ | ⟨c1, c2, c3⟩
    all_goals
      try subst c3
      go_enter Tryd.func5, Tryd.ntmps5
      go_wp2_with (first
        | (go_at_call 12; refine hDe'.mono ?_; rintro e w2 ⟨rfl, hb2⟩; have hB2 := hb2.alloc hb2.size (.cells (rcCs 0 0 ⟨#[]⟩ 0 0 0).toArray 24); have hD2 := dk_below HD.out hB2 (Nat.le_refl _); have z1 := (hb2.cell (p := ⟨g, o, none⟩) hlt).trans z0; have hlt2 := Nat.lt_of_lt_of_le hlt hb2.size)
        | (go_at_call 6; refine (awake11_any _ hD2).mono ?_; rintro e w9 ⟨rfl, hb9⟩))
      go_ret
      exact ⟨rfl, hB2.trans (hb9.mono hB2.size)⟩

theorem recDecodes_law (A : Option Addr) (n c : Nat) (l : List UInt8) (W : World) (hl : Byt W W.heap.size A n l) (hnil : A = none → c = 0) (hnc : n ≤ c) (hcm : c ≤ maxLen) (hD : DK W) :
    Calls Tryd.prog 5 #[.slice A n c] W fun e W' => e = .returned (.bool true) ∧ Below W.heap.size W W' := by
  by_cases hbig : 300 < n
  · unfold maxLen at hcm
    have hb : (300 : Int) < (n : Int) := by omega
    go_enter Tryd.func5, Tryd.ntmps5
    go_wp2_with (go_at_call 6; refine (awake11_any _ hD).mono ?_; rintro e w9 ⟨rfl, hb9⟩)
    go_ret
    exact ⟨rfl, hb9⟩
  · by_cases h0 : (decC l).2 = 0
    · exact recDecodes_good A n c l W hl hnil (by omega) hD h0
    · exact recDecodes_bad A n c l W hl hnil (by omega) hD h0

end Go.Proofs.YtnjkhhagefipiaaDoor
