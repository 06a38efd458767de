/-
  Walks over package octet: the cursor.
-/
import Derived.Test.YthjikbhjciphiaaGreatDoorZz2
import Derived.Laws.BitsAllLaws
namespace Go.Proofs.YthjikbhjciphiaaGreatDoor
open Go.RowKit
set_option linter.unusedVariables false
set_option linter.unusedSimpArgs false

/-- The cursor in block g: what is left to read, and the first error. -/
def Cur (w : World) (g : Nat) (l : List UInt8) (e : Int) : Prop :=
  ∃ A n c, w.heap[g]? = some (.cells #[.slice A n c, .int .i64 e] 203 (0, 0)) ∧ Byt w g A n l ∧ (A = none → c = 0) ∧ n ≤ c ∧ c ≤ maxLen

theorem Cur.lt {w : World} {g : Nat} {l : List UInt8} {e : Int} (h : Cur w g l e) : g < w.heap.size := by
  obtain ⟨A, n, c, hh, _⟩ := h
  exact (Array.getElem?_eq_some_iff.1 hh).1
theorem Cur.keep {w w' : World} {g : Nat} {l : List UInt8} {e : Int} (h : Cur w g l e) (hk : ∀ k, k ≤ g → w'.heap[k]? = w.heap[k]?) : Cur w' g l e := by
  obtain ⟨A, n, c, hh, hl, r⟩ := h
  exact ⟨A, n, c, (hk g (Nat.le_refl _)).trans hh, hl.keep fun p hp => World.cell?_of_block (w := w) (hk _ (by omega)), r⟩
theorem Cur.below {w w' : World} {g : Nat} {l : List UInt8} {e : Int} (h : Cur w g l e) (hb : Below w.heap.size w w') : Cur w' g l e :=
  h.keep fun k hk => hb.block k (by have := h.lt; omega)
theorem Cur.drewN {w : World} {g : Nat} {l : List UInt8} {e : Int} (h : Cur w g l e) (k : Nat) : Cur (w.drewN k) g l e := h

theorem Cur.fields {w : World} {g : Nat} {l : List UInt8} {e : Int} (h : Cur w g l e) : ∃ A n c, Hid (w.heap[g]? = some (.cells #[.slice A n c, .int .i64 e] 203 (0, 0))) ∧ w.cell? ⟨g, 0, none⟩ = some (.slice A n c) ∧ w.cell? ⟨g, 1, none⟩ = some (.int .i64 e) ∧
    w.frozen? ⟨g, 0, none⟩ = false ∧ w.frozen? ⟨g, 1, none⟩ = false ∧ Byt w g A n l ∧ (A = none → c = 0) ∧ n ≤ c ∧ c ≤ maxLen := by
  obtain ⟨A, n, c, hh, r⟩ := h
  refine ⟨A, n, c, hh, ?_, ?_, by simp [World.frozen?, hh], by simp [World.frozen?, hh], r⟩
  · rw [cell_of_row w g 0 _ _ _ hh]; rfl
  · rw [cell_of_row w g 1 _ _ _ hh]; rfl
/-- The error is set. -/
theorem Cur.setErr {w : World} {g : Nat} {l : List UInt8} {e : Int} (h : Cur w g l e) (e' : Int) : Cur (w.setCell ⟨g, 1, none⟩ (.int .i64 e')) g l e' := by
  have hlt := h.lt
  obtain ⟨A, n, c, hh, hl, r⟩ := h
  refine ⟨A, n, c, ?_, hl.keep fun p hp => World.cell?_of_block (w := w) (Below.heap_setCell _ _ _ _ (by simp; omega)), r⟩
  simp [World.setCell, Array.getElem?_modify, hh]

/-- What taking k bytes gives, what it leaves, and the error behind it. -/
def tk (l : List UInt8) (e : Int) (k : Int) : List UInt8 × List UInt8 × Int :=
  if e ≠ 0 ∨ k < 0 then ([], l, e) else if l.length < k.toNat then ([], l, 1) else (l.take k.toNat, l.drop k.toNat, e)

/-- Only block g and newer ones turned. -/
def Only (g : Nat) (w w' : World) : Prop := w.grownBy w' (some g)
theorem Only.below {B g : Nat} {a w w' : World} (h : Below B a w) (ho : Only g w w') (hB : B ≤ w.heap.size) (hg : B ≤ g) : Below B a w' :=
  h.grown ho hB (fun k e => by cases e; exact hg)
theorem Only.refl (g : Nat) (w : World) : Only g w w := World.grownBy.refl w _
theorem Only.set (g i : Nat) (w : World) (u : Value) : Only g w (w.setCell ⟨g, i, none⟩ u) :=
  ⟨rfl, rfl, rfl, by simp [World.setCell], fun k _ hk => Below.heap_setCell _ _ _ _ (fun e => hk (by simp at e; simp [e]))⟩
theorem Only.trans {g : Nat} {a b c : World} (h : Only g a b) (k : Only g b c) : Only g a c :=
  ⟨k.os.trans h.os, k.tape.trans h.tape, k.output.trans h.output, Nat.le_trans h.size k.size, fun i hi hne => (k.block i (Nat.lt_of_lt_of_le hi h.size) hne).trans (h.block i hi hne)⟩
theorem Only.of_below {g : Nat} {a b : World} (h : Below a.heap.size a b) : Only g a b := ⟨h.os, h.tape, h.output, h.size, fun k hk _ => h.block k hk⟩
theorem Byt.only {w w' : World} {g B n : Nat} {A : Option Addr} {l : List UInt8} (h : Byt w B A n l) (ho : Only g w w') (hB : B ≤ g) (hw : B ≤ w.heap.size) : Byt w' B A n l :=
  h.keep fun p hp => World.cell?_of_block (w := w) (ho.block _ (by omega) (by intro e; cases e; omega))

theorem heap_set {w : World} {g i : Nat} {cs : Array Value} {t : TypeId} (h : w.heap[g]? = some (.cells cs t (0, 0))) (u : Value) :
    (w.setCell ⟨g, i, none⟩ u).heap[g]? = some (.cells (cs.setIfInBounds i u) t (0, 0)) := by
  simp [World.setCell, Array.getElem?_modify, h]

/-- A cut's end. -/
theorem Byt.cut {w : World} {B n c : Nat} {A : Option Addr} {l : List UInt8} (h : Byt w B A n l) {k : Nat} (hk : k ≤ n) (hc : n ≤ c) :
    Byt w B (if c = k then A else A.map (·.add k)) (n - k) (l.drop k) := by
  refine ⟨by rw [List.length_drop, h.1], fun hn => ?_⟩
  obtain ⟨b, o, rfl, hb, hcell⟩ := h.2 (by omega)
  rw [if_neg (by omega)]
  refine ⟨b, o + k, by simp [Addr.add_lit], hb, fun j x hx => ?_⟩
  rw [List.getElem?_drop] at hx
  have := hcell _ x hx
  rwa [← Nat.add_assoc] at this
theorem Byt.take {w : World} {B n : Nat} {A : Option Addr} {l : List UInt8} (h : Byt w B A n l) {k : Nat} (hk : k ≤ n) : Byt w B A k (l.take k) := by
  refine ⟨by rw [List.length_take, h.1]; omega, fun hn => ?_⟩
  obtain ⟨b, o, e, hb, hcell⟩ := h.2 (by omega)
  refine ⟨b, o, e, hb, fun j x hx => ?_⟩
  rw [List.getElem?_take] at hx
  split at hx
  · exact hcell j x hx
  · cases hx

set_option maxHeartbeats 1000000 in
theorem take_any (g : Nat) (l : List UInt8) (e k : Int) (hk2 : k ≤ 9223372036854775807) (W : World) (hC : Cur W g l e) :
    Calls Tryz.prog 167 #[.pointer (some ⟨g, 0, none⟩), .int .i64 k] W fun r W' => ∃ A n c, r = .returned (.slice A n c) ∧ Byt W' g A n (tk l e k).1 ∧ (A = none → c = 0) ∧ n ≤ c ∧ c ≤ maxLen ∧
      Cur W' g (tk l e k).2.1 (tk l e k).2.2 ∧ Only g W W' ∧ W'.heap.size = W.heap.size := by
  have hC' := hC
  obtain ⟨A, n, c, hh, hl, hnil, hnc, hm⟩ := hC'
  unfold maxLen at hm
  have c0 := cell_of_row W g 0 _ _ _ hh
  have c1 := cell_of_row W g 1 _ _ _ hh
  simp at c0 c1
  have f0 : W.frozen? ⟨g, 0, none⟩ = false := by simp [World.frozen?, hh]
  have f1 : W.frozen? ⟨g, 1, none⟩ = false := by simp [World.frozen?, hh]
  have hln := hl.1
  by_cases he : e = 0
  · subst he
    by_cases hk : k < 0
    · have HT := Lib.hid (show tk l 0 k = ([], l, 0) by simp [tk, hk])
      clear hh
      go_enter Tryz.func167, Tryz.ntmps167
      go_wp2
      go_ret
      rw [HT.out]
      exact ⟨none, 0, 0, rfl, Byt.nil, fun _ => rfl, Nat.le_refl _, Nat.zero_le _, hC, Only.refl _ _, rfl⟩
    · by_cases hs : (n : Int) < k
      · have HT := Lib.hid (show tk l 0 k = ([], l, 1) by unfold tk; rw [if_neg (by simp; omega), if_pos (by omega)])
        have HH := Lib.hid hh
        clear hh
        go_enter Tryz.func167, Tryz.ntmps167
        go_wp2
        go_ret
        rw [HT.out]
        refine ⟨none, 0, 0, rfl, Byt.nil, fun _ => rfl, Nat.le_refl _, Nat.zero_le _, ⟨A, n, c, ?_, hl.only (Only.set _ _ _ _) (Nat.le_refl _) (Nat.le_of_lt hC.lt), hnil, hnc, hm⟩, Only.set _ _ _ _, by simp [World.setCell]⟩
        rw [heap_set HH.out]
        rfl
      · obtain ⟨j, rfl⟩ := Int.eq_ofNat_of_zero_le (show 0 ≤ k by omega)
        have HT := Lib.hid (show tk l 0 (j : Int) = (l.take j, l.drop j, 0) by unfold tk; rw [if_neg (by simp), if_neg (by simp; omega)]; rfl)
        have HH := Lib.hid hh
        clear hh hln
        go_enter Tryz.func167, Tryz.ntmps167
        go_wp2
        all_goals
          go_ret
          rw [HT.out]
          have hg := Nat.le_of_lt hC.lt
        · have hcj : c = j := by assumption
          subst hcj
          have hcut := hl.cut (k := c) (c := c) (by omega) hnc
          rw [if_pos rfl] at hcut
          refine ⟨A, _, _, rfl, (hl.take (by omega)).only (Only.set _ _ _ _) (Nat.le_refl _) hg, hnil, by omega, hm, ⟨A, n - c, 0, ?_, hcut.only (Only.set _ _ _ _) (Nat.le_refl _) hg, fun _ => rfl, by omega, Nat.zero_le _⟩, Only.set _ _ _ _, by simp [World.setCell]⟩
          rw [heap_set HH.out]
          rfl
        · have hcut := hl.cut (k := j) (c := c) (by omega) hnc
          rw [if_neg ‹¬ c = j›] at hcut
          refine ⟨A, _, _, rfl, (hl.take (by omega)).only (Only.set _ _ _ _) (Nat.le_refl _) hg, hnil, by omega, hm, ⟨A.map (·.add j), n - j, c - j, ?_, hcut.only (Only.set _ _ _ _) (Nat.le_refl _) hg, ?_, by omega, by unfold maxLen; omega⟩, Only.set _ _ _ _, by simp [World.setCell]⟩
          · rw [heap_set HH.out]
            rfl
          · intro h
            have := hnil (by simpa using h)
            omega
  · have HT := Lib.hid (show tk l e k = ([], l, e) by simp [tk, he])
    have he' : (e != 0) = true := by rw [bne_iff_ne]; exact he
    clear hh he
    go_enter Tryz.func167, Tryz.ntmps167
    go_wp2
    go_ret
    rw [HT.out]
    exact ⟨none, 0, 0, rfl, Byt.nil, fun _ => rfl, Nat.le_refl _, Nat.zero_le _, hC, Only.refl _ _, rfl⟩

theorem tk_len (l : List UInt8) (e k : Int) : (tk l e k).1.length ≤ k.toNat := by
  unfold tk
  split
  · simp
  · split
    · simp
    · simp [List.length_take]; omega

theorem or_step (o : List UInt8) (k : Nat) (x : UInt8) (hk : k < 8) (hx : o[k]? = some x) :
    bits .or .u64 ((num (o.take k) : Nat) : Int) (IntKind.u64.wrap (IntKind.u64.wrap ((x.toNat : Nat) : Int) * 2 ^ (8 * k))) = ((num (o.take (k + 1)) : Nat) : Int) := by
  have hx2 : x.toNat < 256 := x.toNat_lt
  obtain ⟨hko, _⟩ := List.getElem?_eq_some_iff.1 hx
  have hl : (o.take k).length = k := by rw [List.length_take]; omega
  have hlt := num_lt (o.take k)
  rw [hl] at hlt
  have h256 : (256 : Nat) ^ k = 2 ^ (8 * k) := by rw [Nat.pow_mul]
  have hp : (2 : Nat) ^ (8 * k) ≤ 2 ^ 56 := Nat.pow_le_pow_right (by decide) (by omega)
  have h56 : (2 : Nat) ^ 56 = 72057594037927936 := by decide
  have hmul : x.toNat * 2 ^ (8 * k) ≤ 255 * 72057594037927936 := by
    have := Nat.mul_le_mul (show x.toNat ≤ 255 by omega) (show (2 : Nat) ^ (8 * k) ≤ 72057594037927936 by omega)
    exact this
  have e1 : IntKind.u64.wrap ((x.toNat : Nat) : Int) = ((x.toNat : Nat) : Int) := by rw [IntKind.wrap_u64]; omega
  have e2 : ((x.toNat : Nat) : Int) * 2 ^ (8 * k) = ((x.toNat * 2 ^ (8 * k) : Nat) : Int) := by simp
  rw [e1, e2, IntKind.wrap_u64]
  rw [show ((x.toNat * 2 ^ (8 * k) : Nat) : Int) % 18446744073709551616 = ((x.toNat * 2 ^ (8 * k) : Nat) : Int) by omega]
  rw [u64_or_nat _ _ (by omega) (by omega)]
  have hs : num (o.take (k + 1)) = num (o.take k) + 256 ^ k * x.toNat := by
    rw [List.take_add_one, hx]
    show num (o.take k ++ [x]) = _
    rw [num_snoc, hl]
  rw [hs, Nat.or_comm, nat_join (8 * k) _ _ (Nat.mul_mod_left _ _) (by omega), h256, Nat.mul_comm, Nat.add_comm]

set_option maxHeartbeats 1000000 in
theorem number_q (g : Nat) (l : List UInt8) (e w : Int) (j : Nat) (hj : j ≤ 8) (HQ : Hid (bitsW w = 8 * j)) (W : World) (hC : Cur W g l e) :
    Calls Tryz.prog 116 #[.pointer (some ⟨g, 0, none⟩), .int .i64 w] W fun r W' => r = .returned (.int .u64 ((num (tk l e j).1 : Nat) : Int)) ∧
      Cur W' g (tk l e j).2.1 (tk l e j).2.2 ∧ Only g W W' ∧ W'.heap.size = W.heap.size := by
  have hlen := tk_len l e j
  rw [Int.toNat_natCast] at hlen
  go_enter Tryz.func116, Tryz.ntmps116
  go_wp2_with (first
    | (go_at_call 168; refine (bitsOf_q _ _ HQ.out _).mono ?_; rintro e w' ⟨rfl, rfl⟩)
    | (go_at_call 167; refine (take_any g l e _ (by omega) _ hC).mono ?_; rintro r w1 ⟨A, n, c, rfl, hl1, hnil1, hnc1, hm1, hC1, ho1, hz1⟩))
  generalize hT : (tk l e j).1 = o at hl1 hlen
  have HT := Lib.hid hT
  clear hT
  have hn8 : n ≤ 8 := by have := hl1.1; omega
  clear hlen
  go_loop [5, 6, 7, 14] (fun xs ii xx i => ∃ k : Nat, k ≤ n ∧ i = .int .i64 k ∧ xs = .int .u64 ((num (o.take k) : Nat) : Int))
    (fun _ _ _ i => n - (intOf i).toNat)
  case atStart => exact ⟨0, by omega, rfl, by simp [num]⟩
  case round =>
    obtain ⟨k, hk, rfl, rfl⟩ := hrel
    by_cases hlt : k < n
    · obtain ⟨b, off, x, rfl, hb, hx, hc⟩ := hl1.at_ hlt
      have hs := Lib.hid (or_step o k x (by omega) hx)
      go_wp2
      go_round
      case rel => exact ⟨k + 1, by omega, by go_num, by rw [hs.out]⟩
      case measure => simp [intOf]; omega
    · go_wp2
      go_ret
      have hkn : k = n := by omega
      have ho : o.take k = o := List.take_of_length_le (by rw [hl1.1]; omega)
      rw [ho] at *
      exact ⟨by rw [HT.out]; rfl, hC1, ho1, hz1⟩

set_option maxHeartbeats 1000000 in
theorem err_any (g : Nat) (l : List UInt8) (e : Int) (W : World) (hC : Cur W g l e) :
    Calls Tryz.prog 117 #[.pointer (some ⟨g, 0, none⟩)] W fun r W' => r = .returned (.int .i64 e) ∧ W = W' := by
  obtain ⟨A, n, c, hh, hl, hnil, hnc, hm⟩ := hC
  have c1 := cell_of_row W g 1 _ _ _ hh
  simp at c1
  clear hh
  go_enter Tryz.func117, Tryz.ntmps117
  go_wp2
  go_ret
  exact ⟨rfl, rfl⟩

set_option maxHeartbeats 1000000 in
theorem left_any (g : Nat) (l : List UInt8) (e : Int) (W : World) (hC : Cur W g l e) :
    Calls Tryz.prog 169 #[.pointer (some ⟨g, 0, none⟩)] W fun r W' => r = .returned (.int .i64 (l.length : Nat)) ∧ W = W' := by
  obtain ⟨A, n, c, hh, hl, hnil, hnc, hm⟩ := hC
  have c0 := cell_of_row W g 0 _ _ _ hh
  simp at c0
  clear hh
  have HL := Lib.hid hl.1
  go_enter Tryz.func169, Tryz.ntmps169
  go_wp2
  go_ret
  exact ⟨by rw [HL.out]; rfl, rfl⟩

/-- What Done answers. -/
def doneE (l : List UInt8) (e : Int) : Int := if e = 0 ∧ l ≠ [] then 2 else e

set_option maxHeartbeats 1000000 in
theorem done_any (g : Nat) (l : List UInt8) (e : Int) (W : World) (hC : Cur W g l e) :
    Calls Tryz.prog 121 #[.pointer (some ⟨g, 0, none⟩)] W fun r W' => r = .returned (.int .i64 (doneE l e)) ∧ W = W' := by
  by_cases he : e = 0
  · subst he
    by_cases hl : l = []
    · subst hl
      have HD := Lib.hid (show doneE [] 0 = 0 from rfl)
      go_enter Tryz.func121, Tryz.ntmps121
      go_wp2_with (first
        | (go_at_call 117; refine (err_any g _ _ _ hC).mono ?_; rintro r w' ⟨rfl, rfl⟩)
        | (go_at_call 169; refine (left_any g _ _ _ hC).mono ?_; rintro r w' ⟨rfl, rfl⟩))
      go_ret
      exact ⟨rfl, rfl⟩
    · have HD := Lib.hid (show doneE l 0 = 2 by simp [doneE, hl])
      have hpos : 0 < l.length := List.length_pos_iff.2 hl
      clear hl
      go_enter Tryz.func121, Tryz.ntmps121
      go_wp2_with (first
        | (go_at_call 117; refine (err_any g _ _ _ hC).mono ?_; rintro r w' ⟨rfl, rfl⟩)
        | (go_at_call 169; refine (left_any g _ _ _ hC).mono ?_; rintro r w' ⟨rfl, rfl⟩))
      go_ret
      exact ⟨by rw [HD.out]; rfl, rfl⟩
  · have HD := Lib.hid (show doneE l e = e by simp [doneE, he])
    have he' : (e == 0) = false := beq_eq_false_iff_ne.2 he
    clear he
    go_enter Tryz.func121, Tryz.ntmps121
    go_wp2_with (first
      | (go_at_call 117; refine (err_any g _ _ _ hC).mono ?_; rintro r w' ⟨rfl, rfl⟩)
      | (go_at_call 169; refine (left_any g _ _ _ hC).mono ?_; rintro r w' ⟨rfl, rfl⟩))
    go_ret
    exact ⟨by rw [HD.out]; rfl, rfl⟩

set_option maxHeartbeats 1000000 in
/-- slices.Clone of bytes. -/
theorem clone_any (B : Nat) (A : Option Addr) (n c : Nat) (l : List UInt8) (W : World) (hl : Byt W B A n l) (hB : B ≤ W.heap.size) (hnil : A = none → c = 0) (hn : n ≤ 140737488355328) :
    Calls Tryz.prog 166 #[.slice A n c] W fun r W' => ∃ v, r = .returned v ∧ W'.ownsRow W.heap.size 5 1 v n (l.map bv) ∧ Below W.heap.size W W' := by
  obtain ⟨i0, hi, hz0, hz1, hz2⟩ := info_parts Tryz.info5
  rcases A with _ | ad
  · have hl0 : n = 0 ∧ l = [] := by
      by_cases h0 : n = 0
      · subst h0; exact ⟨rfl, List.eq_nil_of_length_eq_zero hl.1⟩
      · obtain ⟨b, o, h, _⟩ := hl.2 (by omega)
        cases h
    obtain ⟨rfl, rfl⟩ := hl0
    obtain rfl := hnil rfl
    have hne := fun w => Lib.run_eql_slice_nil (P := Tryz.prog) w 70 5 none 0 0 0 0 Tryz.underlying70
    go_enter Tryz.func166, Tryz.ntmps166
    go_wp2
    go_ret
    exact ⟨_, rfl, World.ownsRow_nil _ _ _ _, Below.refl _ _⟩
  · have hne := fun w => Lib.run_eql_slice_nil (P := Tryz.prog) w 70 5 (some ad) n c 0 0 Tryz.underlying70
    go_enter Tryz.func166, Tryz.ntmps166
    go_wp2_with (at_builtin; refine wpList_append_byt _ rfl (.tmp 5) (.tmp 6) 70 rfl W.heap.size 5 i0 (.int .u8 0) Tryz.underlying70 hi hz0 hz1 hz2 rfl _ 0 [] rfl (World.ownsRow_made W #[] 0 (Nat.le_refl _) (Nat.zero_le _) rfl) B (some ad) n c l rfl (hl.alloc hB _) hnil (by omega) (by simp) ?_)
    intro v1 w1 hown1 hg1
    have hb1 : Below W.heap.size W w1 := ((Below.refl W.heap.size W).alloc (Nat.le_refl _) _).grown hg1 (by simp) (fun k h => by cases h; exact Nat.le_refl _)
    clear hg1
    go_wp2
    go_ret
    exact ⟨v1, rfl, by simpa using hown1, hb1⟩

set_option maxHeartbeats 1000000 in
theorem newCursor_any (B : Nat) (A : Option Addr) (n c : Nat) (l : List UInt8) (W : World) (hl : Byt W B A n l) (hB : B ≤ W.heap.size) (hnil : A = none → c = 0) (hn : n ≤ 140737488355328) :
    Calls Tryz.prog 115 #[.slice A n c] W fun r W' => ∃ g, r = .returned (.pointer (some ⟨g, 0, none⟩)) ∧ W.heap.size ≤ g ∧ Cur W' g l 0 ∧ Below W.heap.size W W' := by
  go_enter Tryz.func115, Tryz.ntmps115
  go_wp2_with (first
    | (go_at_call 166; refine (clone_any B A n c l _ hl hB hnil hn).mono ?_; rintro r w1 ⟨v, rfl, hown, hb⟩; obtain ⟨A1, c1, rfl, hnil1, hnc1, hm1⟩ := own_form hown))
  go_ret
  refine ⟨w1.heap.size, rfl, hb.size, ⟨A1, n, c1, heap_alloc_new _ _, (Byt.of_own hown).alloc (Nat.le_refl _) _, fun h => (hnil1 h).2, hnc1, hm1⟩, hb.alloc hb.size _⟩

theorem tk_le (l : List UInt8) (e k : Int) : (tk l e k).1.length ≤ l.length := by
  unfold tk
  split
  · simp
  · split
    · simp
    · simp [List.length_take]; omega

/-- Text: what it gives, what is left, the error. -/
def tx (l : List UInt8) (e : Int) (j : Nat) (most : Int) : List UInt8 × List UInt8 × Int :=
  let n := num (tk l e j).1
  let l1 := (tk l e j).2.1
  let e1 := (tk l e j).2.2
  if e1 ≠ 0 then ([], l1, e1) else if most < 0 ∨ most < (n : Int) then ([], l1, 2) else tk l1 e1 n

set_option maxHeartbeats 2000000 in
theorem text_q (g : Nat) (l : List UInt8) (e w most : Int) (hmost : most ≤ 9223372036854775807) (j : Nat) (hj : j ≤ 8) (HQ : Hid (bitsW w = 8 * j)) (W : World) (hC : Cur W g l e) :
    Calls Tryz.prog 118 #[.pointer (some ⟨g, 0, none⟩), .int .i64 w, .int .i64 most] W fun r W' => r = .returned (.string ⟨(tx l e j most).1.toArray⟩) ∧
      Cur W' g (tx l e j most).2.1 (tx l e j most).2.2 ∧ Only g W W' ∧ W'.heap.size = W.heap.size := by
  have hnm := num_max (tk l e j).1 (by have := tk_len l e j; rw [Int.toNat_natCast] at this; omega)
  have HX := Lib.hid (show tx l e j most = (if (tk l e j).2.2 ≠ 0 then ([], (tk l e j).2.1, (tk l e j).2.2) else if most < 0 ∨ most < ((num (tk l e j).1 : Nat) : Int) then ([], (tk l e j).2.1, 2) else tk (tk l e j).2.1 (tk l e j).2.2 ((num (tk l e j).1 : Nat) : Int)) from rfl)
  have H1 := Lib.hid (number_q g l e w j hj HQ W hC)
  generalize num (tk l e j).1 = n at hnm HX H1
  generalize (tk l e j).2.1 = l1 at HX H1
  generalize (tk l e j).2.2 = e1 at HX H1
  generalize tx l e j most = X at HX ⊢
  by_cases he : e1 = 0
  · subst he
    by_cases hm0 : most < 0
    · have HY := Lib.hid (show X = ([], l1, 2) by rw [HX.out, if_neg (by simp), if_pos (Or.inl hm0)])
      clear HX
      go_enter Tryz.func118, Tryz.ntmps118
      go_wp2_with (first
        | (go_at_call 116; refine H1.out.mono ?_; rintro r w1 ⟨rfl, hC1, ho1, hz1⟩; obtain ⟨A, q, c, HH, c0, c1, f0, f1, hb1⟩ := hC1.fields)
        | (go_at_call 117; refine (err_any g _ _ _ hC1).mono ?_; rintro r w' ⟨rfl, rfl⟩))
      go_ret
      rw [HY.out]
      exact ⟨rfl, hC1.setErr 2, ho1.trans (Only.set _ _ _ _), by simpa [World.setCell] using hz1⟩
    · by_cases hm1 : most < (n : Int)
      · have HY := Lib.hid (show X = ([], l1, 2) by rw [HX.out, if_neg (by simp), if_pos (Or.inr hm1)])
        clear HX
        go_enter Tryz.func118, Tryz.ntmps118
        go_wp2_with (first
          | (go_at_call 116; refine H1.out.mono ?_; rintro r w1 ⟨rfl, hC1, ho1, hz1⟩; obtain ⟨A, q, c, HH, c0, c1, f0, f1, hb1⟩ := hC1.fields)
          | (go_at_call 117; refine (err_any g _ _ _ hC1).mono ?_; rintro r w' ⟨rfl, rfl⟩))
        go_ret
        rw [HY.out]
        exact ⟨rfl, hC1.setErr 2, ho1.trans (Only.set _ _ _ _), by simpa [World.setCell] using hz1⟩
      · have HY := Lib.hid (show X = tk l1 0 (n : Int) by rw [HX.out, if_neg (by simp), if_neg (by omega)])
        clear HX
        go_enter Tryz.func118, Tryz.ntmps118
        go_wp2_with (first
          | (go_at_call 116; refine H1.out.mono ?_; rintro r w1 ⟨rfl, hC1, ho1, hz1⟩)
          | (go_at_call 117; refine (err_any g _ _ _ hC1).mono ?_; rintro r w' ⟨rfl, rfl⟩)
          | (go_at_call 167; refine (take_any g l1 0 _ (by omega) _ hC1).mono ?_; rintro r w2 ⟨A, q, c, rfl, hl2, hnil2, hnc2, hm2, hC2, ho2, hz2⟩; have hcv := run_string_byt (P := Tryz.prog) 70 9 5 (c := c) Tryz.underlying70 Tryz.underlying5 Tryz.underlying9 hl2))
        go_ret
        rw [HY.out]
        exact ⟨rfl, hC2, ho1.trans ho2, hz2.trans hz1⟩
  · have HY := Lib.hid (show X = ([], l1, e1) by rw [HX.out, if_pos he])
    have he' : (e1 != 0) = true := by rw [bne_iff_ne]; exact he
    clear HX he
    go_enter Tryz.func118, Tryz.ntmps118
    go_wp2_with (first
      | (go_at_call 116; refine H1.out.mono ?_; rintro r w1 ⟨rfl, hC1, ho1, hz1⟩)
      | (go_at_call 117; refine (err_any g _ _ _ hC1).mono ?_; rintro r w' ⟨rfl, rfl⟩))
    go_ret
    rw [HY.out]
    exact ⟨rfl, hC1, ho1, hz1⟩

end Go.Proofs.YthjikbhjciphiaaGreatDoor

/-
  CRC-32C over numbers: a step, a byte, a list; that it is linear; that a burst of up to four bytes is seen. No program stands here.
-/
namespace Go.Proofs.YthjikbhjciphiaaGreatDoor
open Go.RowKit
set_option linter.unusedVariables false
set_option linter.unusedSimpArgs false

/-- One bit. -/
def stepC (r : Nat) : Nat := if r % 2 = 1 then (r / 2) ^^^ 2197175160 else r / 2
def stepN : Nat → Nat → Nat
  | 0, r => r
  | k + 1, r => stepC (stepN k r)
theorem stepC_lt {r : Nat} (h : r < 4294967296) : stepC r < 4294967296 := by
  unfold stepC
  split
  · exact Nat.xor_lt_two_pow (n := 32) (by omega) (by decide)
  · omega
theorem stepN_lt (k : Nat) {r : Nat} (h : r < 4294967296) : stepN k r < 4294967296 := by
  induction k with
  | zero => exact h
  | succ k ih => exact stepC_lt ih
theorem stepC_xor (a b : Nat) : stepC (a ^^^ b) = stepC a ^^^ stepC b := by
  unfold stepC
  have h := @Nat.xor_mod_two_eq_one a b
  have hd := @Nat.xor_div_two a b
  by_cases ha : a % 2 = 1 <;> by_cases hb : b % 2 = 1
  · rw [if_neg (by rw [h]; simp [ha, hb]), if_pos ha, if_pos hb, hd]
    rw [Nat.xor_assoc (a / 2), Nat.xor_comm 2197175160, Nat.xor_assoc (b / 2), Nat.xor_self, Nat.xor_zero]
  · rw [if_pos (by rw [h]; simp [ha, hb]), if_pos ha, if_neg hb, hd]
    rw [Nat.xor_assoc, Nat.xor_assoc, Nat.xor_comm (b / 2)]
  · rw [if_pos (by rw [h]; simp [ha, hb]), if_neg ha, if_pos hb, hd]
    rw [Nat.xor_assoc]
  · rw [if_neg (by rw [h]; simp [ha, hb]), if_neg ha, if_neg hb, hd]
theorem stepN_xor (k a b : Nat) : stepN k (a ^^^ b) = stepN k a ^^^ stepN k b := by
  induction k with
  | zero => rfl
  | succ k ih => simp only [stepN, ih, stepC_xor]
theorem stepN_add (j k r : Nat) : stepN (j + k) r = stepN j (stepN k r) := by
  induction j with
  | zero => simp [stepN]
  | succ j ih => rw [show j + 1 + k = (j + k) + 1 by omega]; simp only [stepN, ih]
theorem stepN_one (k r : Nat) : stepN (k + 1) r = stepN k (stepC r) := by rw [stepN_add]; rfl
theorem stepN_shift (k r : Nat) : stepN k (2 ^ k * r) = r := by
  induction k with
  | zero => simp [stepN]
  | succ k ih =>
    rw [stepN_one]
    have : stepC (2 ^ (k + 1) * r) = 2 ^ k * r := by
      have e : 2 ^ (k + 1) * r = 2 * (2 ^ k * r) := by rw [Nat.pow_succ, Nat.mul_comm (2 ^ k) 2, Nat.mul_assoc]
      rw [e]
      unfold stepC
      rw [if_neg (by omega)]
      omega
    rw [this, ih]
theorem stepC_pos {r : Nat} (h : r < 4294967296) (h0 : r ≠ 0) : stepC r ≠ 0 := by
  unfold stepC
  split
  · intro e
    have : r / 2 = 2197175160 := by
      have h2 : (r / 2 ^^^ 2197175160) ^^^ 2197175160 = 0 ^^^ 2197175160 := by rw [e]
      rw [Nat.xor_assoc, Nat.xor_self, Nat.xor_zero, Nat.zero_xor] at h2
      exact h2
    omega
  · omega
theorem stepN_pos (k : Nat) {r : Nat} (h : r < 4294967296) (h0 : r ≠ 0) : stepN k r ≠ 0 := by
  induction k with
  | zero => exact h0
  | succ k ih => exact stepC_pos (stepN_lt k h) ih
theorem stepC_zero : stepC 0 = 0 := by decide
theorem stepN_zero (k : Nat) : stepN k 0 = 0 := by
  induction k with
  | zero => rfl
  | succ k ih => simp only [stepN, ih, stepC_zero]

theorem join_xor (m b : Nat) (hb : b < 256) : b ^^^ (256 * m) = b + 256 * m := by
  apply Nat.eq_of_testBit_eq
  intro j
  rw [Nat.add_comm b, show 256 * m + b = 2 ^ 8 * m + b from rfl, Nat.testBit_two_pow_mul_add m (show b < 2 ^ 8 from hb) j, Nat.testBit_xor, show 256 * m = 2 ^ 8 * m from rfl, Nat.testBit_two_pow_mul]
  by_cases hj : j < 8
  · have h8 : ¬ 8 ≤ j := by omega
    simp [hj, h8]
  · have h8 : 8 ≤ j := by omega
    have hp : (2 : Nat) ^ 8 ≤ 2 ^ j := Nat.pow_le_pow_right (by omega) h8
    have : b.testBit j = false := Nat.testBit_lt_two_pow (Nat.lt_of_lt_of_le hb hp)
    simp [hj, h8, this]
theorem sub_xor (r : Nat) (h : r < 4294967296) : 4294967295 - r = r ^^^ 4294967295 := by
  apply Nat.eq_of_testBit_eq
  intro j
  rw [Nat.testBit_xor, show (4294967295 : Nat) - r = 2 ^ 32 - (r + 1) by omega, Nat.testBit_two_pow_sub_succ (show r < 2 ^ 32 from h) j, show (4294967295 : Nat) = 2 ^ 32 - 1 from rfl, Nat.testBit_two_pow_sub_one]
  by_cases hj : j < 32
  · simp [hj]
  · have hp : (2 : Nat) ^ 32 ≤ 2 ^ j := Nat.pow_le_pow_right (by omega) (show 32 ≤ j by omega)
    have : r.testBit j = false := Nat.testBit_lt_two_pow (Nat.lt_of_lt_of_le h hp)
    simp [hj, this]

/-- The register behind the bytes l. -/
def crcReg : Nat → List UInt8 → Nat
  | r, [] => r
  | r, b :: l => crcReg (stepN 8 (r ^^^ b.toNat)) l
theorem crcReg_lt (l : List UInt8) : ∀ {r : Nat}, r < 4294967296 → crcReg r l < 4294967296 := by
  induction l with
  | nil => intro r h; exact h
  | cons b l ih =>
    intro r h
    refine ih (stepN_lt 8 (Nat.xor_lt_two_pow (n := 32) h ?_))
    have := b.toNat_lt
    omega
theorem crcReg_app (l m : List UInt8) : ∀ r, crcReg r (l ++ m) = crcReg (crcReg r l) m := by
  induction l with
  | nil => intro r; rfl
  | cons b l ih => intro r; exact ih _
theorem crcReg_snoc (l : List UInt8) (b : UInt8) (r : Nat) : crcReg r (l ++ [b]) = stepN 8 (crcReg r l ^^^ b.toNat) := by rw [crcReg_app]; rfl
/-- The sum. -/
def crcSum (l : List UInt8) : Nat := 4294967295 - crcReg 4294967295 l
theorem crcSum_le (l : List UInt8) : crcSum l ≤ 4294967295 := by unfold crcSum; omega

theorem crcReg_num (l : List UInt8) : ∀ r, crcReg r l = stepN (8 * l.length) (r ^^^ num l) := by
  induction l with
  | nil =>
    intro r
    rw [List.length_nil, Nat.mul_zero]
    show r = r ^^^ 0
    rw [Nat.xor_zero]
  | cons b l ih =>
    intro r
    show crcReg (stepN 8 (r ^^^ b.toNat)) l = _
    have hb := b.toNat_lt
    rw [ih, List.length_cons, show 8 * (l.length + 1) = 8 * l.length + 8 by omega, stepN_add (8 * l.length) 8]
    have h256 : stepN 8 (256 * num l) = num l := by
      have := stepN_shift 8 (num l)
      rwa [show (2 : Nat) ^ 8 = 256 from rfl] at this
    rw [show num (b :: l) = b.toNat ^^^ (256 * num l) from (join_xor (num l) b.toNat hb).symm]
    rw [← Nat.xor_assoc, stepN_xor 8 (r ^^^ b.toNat), h256]

/-! A burst. -/
/-- Bytes, xor'd one by one. -/
def xorL (l d : List UInt8) : List UInt8 := List.zipWith (· ^^^ ·) l d
theorem crcReg_xor (l : List UInt8) : ∀ (d : List UInt8) (r q : Nat), l.length = d.length → crcReg (r ^^^ q) (xorL l d) = crcReg r l ^^^ crcReg q d := by
  induction l with
  | nil =>
    intro d r q h
    obtain rfl : d = [] := List.eq_nil_of_length_eq_zero h.symm
    rfl
  | cons b l ih =>
    intro d r q h
    rcases d with _ | ⟨c, d⟩
    · simp at h
    · show crcReg (stepN 8 ((r ^^^ q) ^^^ (b ^^^ c).toNat)) (xorL l d) = crcReg (stepN 8 (r ^^^ b.toNat)) l ^^^ crcReg (stepN 8 (q ^^^ c.toNat)) d
      rw [← ih d _ _ (by simpa using h), ← stepN_xor, UInt8.toNat_xor]
      congr 2
      ac_rfl
theorem num_xor (l : List UInt8) : ∀ (d : List UInt8), l.length = d.length → num (xorL l d) = num l ^^^ num d := by
  induction l with
  | nil =>
    intro d h
    obtain rfl : d = [] := List.eq_nil_of_length_eq_zero h.symm
    rfl
  | cons b l ih =>
    intro d h
    rcases d with _ | ⟨c, d⟩
    · simp at h
    · have e : ∀ (x : UInt8) (y : List UInt8), num (x :: y) = x.toNat ^^^ (256 * num y) := fun x y => (join_xor (num y) x.toNat x.toNat_lt).symm
      show num ((b ^^^ c) :: xorL l d) = _
      rw [e, e, e, ih d (by simpa using h), UInt8.toNat_xor]
      have h8 : 256 * (num l ^^^ num d) = (256 * num l) ^^^ (256 * num d) := by
        apply Nat.eq_of_testBit_eq
        intro j
        rw [show ∀ m, 256 * m = 2 ^ 8 * m from fun _ => rfl, Nat.testBit_two_pow_mul, Nat.testBit_xor, Nat.testBit_xor, show ∀ m, 256 * m = 2 ^ 8 * m from fun _ => rfl, Nat.testBit_two_pow_mul, show 256 * num d = 2 ^ 8 * num d from rfl, Nat.testBit_two_pow_mul]
        by_cases hj : 8 ≤ j <;> simp [hj]
      rw [h8]
      ac_rfl
theorem num_zeros (k : Nat) (l : List UInt8) : num (List.replicate k 0 ++ l) = 256 ^ k * num l := by
  induction k with
  | zero => simp
  | succ k ih =>
    rw [List.replicate_succ, List.cons_append]
    show (0 : UInt8).toNat + 256 * num _ = _
    rw [ih, Nat.pow_succ]
    simp only [UInt8.toNat_zero, Nat.zero_add]
    rw [← Nat.mul_assoc, Nat.mul_comm 256]
theorem num_zeros' (l : List UInt8) (k : Nat) : num (l ++ List.replicate k 0) = num l := by
  induction l with
  | nil =>
    have := num_zeros k []
    simpa [num] using this
  | cons b l ih => rw [List.cons_append]; show b.toNat + 256 * num (l ++ List.replicate k 0) = b.toNat + 256 * num l; rw [ih]

/-- What is xor'd: up to four bytes at a place, among n + 4. -/
theorem burst (at_ n : Nat) (x : List UInt8) (hx : x.length = 4) (h0 : num x ≠ 0) (hat : at_ ≤ n) (d : List UInt8) (hd : d = List.replicate at_ 0 ++ x ++ List.replicate (n - at_) 0) :
    crcReg 0 (d.take n) ≠ num (d.drop n) := by
  intro e
  have hlen : d.length = n + 4 := by rw [hd]; simp [hx]; omega
  have h1 : crcReg 0 d = 0 := by
    have hs : d = d.take n ++ d.drop n := (List.take_append_drop n d).symm
    rw [hs, crcReg_app, crcReg_num (d.drop n), e, Nat.xor_self, stepN_zero]
  have h2 : crcReg 0 d = stepN (8 * (n + 4 - at_)) (num x) := by
    rw [crcReg_num, Nat.zero_xor, hlen, hd, List.append_assoc, num_zeros, num_zeros', show 8 * (n + 4) = 8 * (n + 4 - at_) + 8 * at_ by omega, stepN_add]
    congr 1
    have := stepN_shift (8 * at_) (num x)
    rwa [show 2 ^ (8 * at_) = 256 ^ at_ by rw [Nat.pow_mul]] at this
  have h3 : num x < 4294967296 := by have := num_lt x; rw [hx] at this; simpa using this
  exact stepN_pos _ h3 h0 (h2.symm.trans h1)

end Go.Proofs.YthjikbhjciphiaaGreatDoor
