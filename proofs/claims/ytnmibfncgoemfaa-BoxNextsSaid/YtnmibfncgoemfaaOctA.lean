/-
  Walks over package octet and its reference: widths, numbers as bytes.
-/
import Derived.Test.YtnmibfncgoemfaaBase
namespace Go.Proofs.Ytnmibfncgoemfaa
open Go.RowKit
set_option linter.unusedVariables false
set_option linter.unusedSimpArgs false

/-- The bits of a width. -/
def bitsW (w : Int) : Nat := if w = 8 then 64 else if w = 4 then 32 else if w = 2 then 16 else if w = 1 then 8 else 0

set_option maxHeartbeats 400000 in
theorem bitsOf_any (w : Int) (W : World) :
    Calls Try.prog 26 #[.int .i64 w] W fun e W' => e = .returned (.int .i64 (bitsW w : Nat)) ∧ W = W' := by
  by_cases h8 : w = 8
  · subst h8
    go_enter Try.func26, Try.ntmps26
    go_wp2
    go_ret
    exact ⟨rfl, rfl⟩
  by_cases h4 : w = 4
  · subst h4
    go_enter Try.func26, Try.ntmps26
    go_wp2
    go_ret
    exact ⟨rfl, rfl⟩
  by_cases h2 : w = 2
  · subst h2
    go_enter Try.func26, Try.ntmps26
    go_wp2
    go_ret
    exact ⟨rfl, rfl⟩
  by_cases h1 : w = 1
  · subst h1
    go_enter Try.func26, Try.ntmps26
    go_wp2
    go_ret
    exact ⟨rfl, rfl⟩
  · have e8 : (w == 8) = false := beq_eq_false_iff_ne.2 h8
    have e4 : (w == 4) = false := beq_eq_false_iff_ne.2 h4
    have e2 : (w == 2) = false := beq_eq_false_iff_ne.2 h2
    have e1 : (w == 1) = false := beq_eq_false_iff_ne.2 h1
    have HB := Lib.hid (show bitsW w = 0 by unfold bitsW; simp [h8, h4, h2, h1])
    clear h8 h4 h2 h1
    go_enter Try.func26, Try.ntmps26
    go_wp2
    go_ret
    exact ⟨by rw [HB.out]; rfl, rfl⟩

def widthB (w : Int) : Bool := decide (w = 1 ∨ w = 2 ∨ w = 4 ∨ w = 8)

/-- The k lowest bytes of x, the lowest one first. -/
def le : Nat → Nat → List UInt8
  | 0, _ => []
  | k + 1, x => UInt8.ofNat x :: le k (x / 256)
theorem le_len (k : Nat) : ∀ x, (le k x).length = k := by
  induction k with
  | zero => intro x; rfl
  | succ k ih => intro x; simp [le, ih]
theorem le_snoc (k : Nat) : ∀ x, le (k + 1) x = le k x ++ [UInt8.ofNat (x / 256 ^ k)] := by
  induction k with
  | zero => intro x; simp [le]
  | succ k ih =>
    intro x
    show UInt8.ofNat x :: le (k + 1) (x / 256) = UInt8.ofNat x :: le k (x / 256) ++ _
    rw [ih]
    simp only [List.cons_append]
    rw [Nat.div_div_eq_div_mul, Nat.pow_succ, Nat.mul_comm 256]

theorem Try.info5 : (Try.prog.info? 5).map (fun i => (i.zero, i.size, i.bytes)) = some (some (.int .u8 0), 1, 1) := by kernel_rfl

theorem ofNat_mod (x : Nat) : ((UInt8.ofNat x).toNat : Nat) = x % 256 := by simp [UInt8.toNat_ofNat']

set_option maxHeartbeats 1000000 in
theorem bytes_any (w : Int) (x : Nat) (hx : x ≤ 18446744073709551615) (hw : w ≤ 1000) (W : World) :
    Calls Try.prog 22 #[.int .i64 w, .int .u64 x] W fun e W' => ∃ v, e = .returned v ∧ W'.ownsRow W.heap.size 5 1 v w.toNat ((le w.toNat x).map bv) ∧ Below W.heap.size W W' := by
  obtain ⟨i0, hi, hz0, hz1, hz2⟩ := info_parts Try.info5
  have HX := Lib.hid hx
  clear hx
  go_enter Try.func22, Try.ntmps22
  go_wp2_with fail
  go_loopw [1, 5, 6] (fun xs v i wr => ∃ k : Nat, (k : Int) ≤ w.toNat ∧ i = .int .i64 k ∧ xs = .int .u64 ((x / 256 ^ k : Nat) : Int) ∧ wr.ownsRow W.heap.size 5 1 v k ((le k x).map bv) ∧ Below W.heap.size W wr)
    (fun _ _ i _ => w.toNat - (intOf i).toNat)
  case atStart => exact ⟨0, by omega, rfl, by simp, World.ownsRow_nil _ _ _ _, Below.refl _ _⟩
  case round =>
    obtain ⟨k, hk, rfl, rfl, hown, hb⟩ := hrel
    have hs := hb.size
    have hyx : x / 256 ^ k ≤ 18446744073709551615 := Nat.le_trans (Nat.div_le_self _ _) HX.out
    generalize hy : x / 256 ^ k = y at hyx ⊢
    have HY := Lib.hid hy
    clear hy
    by_cases hlt : (k : Int) < w
    · go_wp2_with (at_builtin; refine wpList_append_byt _ rfl _ _ 22 rfl W.heap.size 5 i0 (.int .u8 0) Try.underlying22 hi hz0 hz1 hz2 rfl _ _ _ rfl (hown.alloc _) (wr.heap.size + 1) _ 1 1 [UInt8.ofNat y] rfl ?c1 ?c2 ?c3 ?c4 ?_)
      case c1 => exact Byt.one _ _ _ (by rw [ofNat_mod]; omega) _
      case c2 => intro h; cases h
      case c3 => omega
      case c4 => simp; omega
      intro v' w1 hown' hgrow
      have hb' := own_step hb (Nat.le_refl _) hown hgrow
      clear hown hgrow hb
      go_wp2
      go_roundw
      case rel =>
        refine ⟨k + 1, by omega, by go_num, ?_, ?_, hb'⟩
        · rw [show x / 256 ^ (k + 1) = y / 256 by rw [Nat.pow_succ, ← Nat.div_div_eq_div_mul, HY.out]]; go_num
        · rw [le_snoc, HY.out]; simpa using hown'
      case measure => simp [intOf]; omega
    · go_wp2
      go_ret
      have hkw : k = w.toNat := by omega
      exact ⟨u5, rfl, by rw [← hkw]; exact hown, hb⟩

theorem bitsW_le (w : Int) : bitsW w ≤ 64 := by unfold bitsW; repeat (split <;> try omega)
theorem bitsW_eq (w : Int) : bitsW w = 8 * (bitsW w / 8) := by unfold bitsW; repeat (split <;> try omega)

theorem bitsOf_q (w : Int) (q : Nat) (hq : bitsW w = q) (W : World) :
    Calls Try.prog 26 #[.int .i64 w] W fun e W' => e = .returned (.int .i64 (q : Nat)) ∧ W = W' := by subst hq; exact bitsOf_any w W

set_option maxHeartbeats 1000000 in
theorem put_q (A : Option Addr) (n c : Nat) (l : List UInt8) (w : Int) (x : Nat) (hx : x ≤ 18446744073709551615) (W : World) (hl : Byt W W.heap.size A n l) (hnil : A = none → c = 0) (hn : n ≤ 140737488351232) (j : Nat) (hj : j ≤ 8) (HQ : Hid (bitsW w = 8 * j)) :
    Calls Try.prog 18 #[.slice A n c, .int .i64 w, .int .u64 x] W fun e W' => ∃ v, e = .returned v ∧
      W'.ownsRow W.heap.size 5 1 v (n + j) ((l ++ le j x).map bv) ∧ Below W.heap.size W W' := by
  obtain ⟨i0, hi, hz0, hz1, hz2⟩ := info_parts Try.info5
  have HX := Lib.hid hx
  clear hx
  go_enter Try.func18, Try.ntmps18
  go_wp2_with (first
    | (go_at_call 26; refine (bitsOf_q _ _ HQ.out _).mono ?_; rintro e w' ⟨rfl, rfl⟩)
    | (at_make; refine wpList_make_own _ rfl _ _ 22 rfl W.heap.size 5 i0 (.int .u8 0) 1 Try.underlying22 hi hz0 hz1 .i64 .i64 _ (n + j) rfl rfl ?b1 ?b2 ?b3 ?b4 ?_))
  case b1 => omega
  case b2 => rw [hz2]; omega
  case b3 => unfold maxLen; omega
  case b4 => exact Nat.le_refl _
  intro w1 hown1 hg1
  have hb1 : Below W.heap.size W w1 := (Below.refl _ _).grown hg1 (Nat.le_refl _) (by intro k h; cases h)
  have hl1 := hl.below hb1
  have hs1 := hb1.size
  clear hl hg1
  go_wp2_with (at_builtin; refine wpList_append_byt _ rfl _ _ 22 rfl W.heap.size 5 i0 (.int .u8 0) Try.underlying22 hi hz0 hz1 hz2 rfl _ _ _ rfl hown1 W.heap.size A n c l rfl hl1 hnil ?c1 ?c2 ?_)
  case c1 => omega
  case c2 => omega
  intro v2 w2 hown2 hg2
  have hb2 : Below W.heap.size W w2 := hb1.grown hg2 (by omega) (fun k h => (hown1.lt k h).1)
  clear hown1 hg2 hb1 hs1 hl1
  go_wp2_with fail
  go_loopw [2, 7, 8] (fun xs bi v wr => ∃ k : Nat, k ≤ j ∧ bi = .int .i64 (8 * ((j - k : Nat) : Int)) ∧ xs = .int .u64 ((x / 256 ^ k : Nat) : Int) ∧ wr.ownsRow W.heap.size 5 1 v (n + k) ((l ++ le k x).map bv) ∧ Below W.heap.size W wr)
    (fun _ bi _ _ => (intOf bi).toNat)
  case atStart => exact ⟨0, by omega, rfl, by simp, by simpa [le] using hown2, hb2⟩
  case round =>
    obtain ⟨k, hk, rfl, rfl, hown, hb⟩ := hrel
    have hs := hb.size
    have hyx : x / 256 ^ k ≤ 18446744073709551615 := Nat.le_trans (Nat.div_le_self _ _) HX.out
    generalize hy : x / 256 ^ k = y at hyx ⊢
    have HY := Lib.hid hy
    clear hy hown2 hb2
    by_cases hlt : k < j
    · go_wp2_with (at_builtin; refine wpList_append_byt _ rfl _ _ 22 rfl W.heap.size 5 i0 (.int .u8 0) Try.underlying22 hi hz0 hz1 hz2 rfl _ _ _ rfl (hown.alloc _) (wr.heap.size + 1) _ 1 1 [UInt8.ofNat y] rfl ?c1 ?c2 ?c3 ?c4 ?_)
      case c1 => exact Byt.one _ _ _ (by rw [ofNat_mod]; omega) _
      case c2 => intro h; cases h
      case c3 => omega
      case c4 => simp; omega
      intro v' w1 hown' hgrow
      have hb' := own_step hb (Nat.le_refl _) hown hgrow
      clear hown hgrow hb
      go_wp2
      go_roundw
      case rel =>
        refine ⟨k + 1, by omega, by go_num, ?_, ?_, hb'⟩
        · rw [show x / 256 ^ (k + 1) = y / 256 by rw [Nat.pow_succ, ← Nat.div_div_eq_div_mul, HY.out]]; go_num
        · rw [le_snoc, HY.out]; simpa [Nat.add_assoc] using hown'
      case measure => simp [intOf]; omega
    · have hjk : j - k = 0 := by omega
      go_wp2
      go_ret
      have hkw : k = j := by omega
      exact ⟨u8, rfl, by rw [← hkw]; exact hown, hb⟩

theorem put_any (A : Option Addr) (n c : Nat) (l : List UInt8) (w : Int) (x : Nat) (hx : x ≤ 18446744073709551615) (W : World) (hl : Byt W W.heap.size A n l) (hnil : A = none → c = 0) (hn : n ≤ 140737488351232) :
    Calls Try.prog 18 #[.slice A n c, .int .i64 w, .int .u64 x] W fun e W' => ∃ v, e = .returned v ∧
      W'.ownsRow W.heap.size 5 1 v (n + bitsW w / 8) ((l ++ le (bitsW w / 8) x).map bv) ∧ Below W.heap.size W W' :=
  put_q A n c l w x hx W hl hnil hn (bitsW w / 8) (by have := bitsW_le w; omega) (Lib.hid (bitsW_eq w))

/-- Does x fit? -/
def fitsB (w : Int) (x : Nat) : Bool := decide (0 < bitsW w) && decide (x / 2 ^ bitsW w = 0)

/-- What bytes come to, the lowest one first. -/
def num : List UInt8 → Nat
  | [] => 0
  | b :: l => b.toNat + 256 * num l
theorem num_lt (l : List UInt8) : num l < 256 ^ l.length := by
  induction l with
  | nil => simp [num]
  | cons b l ih =>
    have hb : b.toNat < 256 := b.toNat_lt
    simp only [num, List.length_cons, Nat.pow_succ]; omega
theorem num_le (k : Nat) : ∀ x, num (le k x) = x % 256 ^ k := by
  induction k with
  | zero => intro x; simp [le, num, Nat.mod_one]
  | succ k ih =>
    intro x
    simp only [le, num, ih, ofNat_mod, Nat.pow_succ]
    rw [Nat.mul_comm (256 ^ k) 256, Nat.mod_mul]
theorem num_snoc (l : List UInt8) (b : UInt8) : num (l ++ [b]) = num l + 256 ^ l.length * b.toNat := by
  induction l with
  | nil => simp [num]
  | cons c l ih =>
    simp only [List.cons_append, num, ih, List.length_cons, Nat.pow_succ]
    rw [Nat.mul_add, ← Nat.mul_assoc, Nat.mul_comm 256 (256 ^ l.length)]; omega
theorem num_drop (l : List UInt8) (k : Nat) (b : UInt8) (h : l[k]? = some b) : num (l.drop k) = b.toNat + 256 * num (l.drop (k + 1)) := by
  obtain ⟨hk, rfl⟩ := List.getElem?_eq_some_iff.1 h
  rw [List.drop_eq_getElem_cons hk]; rfl

theorem num_max (l : List UInt8) (h : l.length ≤ 8) : num l ≤ 18446744073709551615 := by
  have h1 := num_lt l
  have h2 : 256 ^ l.length ≤ 256 ^ 8 := Nat.pow_le_pow_right (by decide) h
  have h3 : (256 : Nat) ^ 8 = 18446744073709551616 := by decide
  omega

theorem rfits_of (w : Int) (x : Nat) (hw : widthB w = true) : decide (num (le w.toNat x) = x) = fitsB w x := by
  rw [num_le]
  have h : w = 1 ∨ w = 2 ∨ w = 4 ∨ w = 8 := by simpa [widthB] using hw
  unfold fitsB
  rcases h with rfl | rfl | rfl | rfl <;> simp [bitsW] <;> omega
theorem rfits_not (w : Int) (x : Nat) (hw : widthB w = false) : fitsB w x = false := by
  have h : ¬ (w = 1 ∨ w = 2 ∨ w = 4 ∨ w = 8) := by simpa [widthB] using hw
  have : bitsW w = 0 := by unfold bitsW; repeat (split <;> try omega)
  simp [fitsB, this]

set_option maxHeartbeats 1000000 in
theorem same_any (A1 A2 : Option Addr) (n1 c1 n2 c2 : Nat) (l1 l2 : List UInt8) (B : Nat) (W : World) (h1 : Byt W B A1 n1 l1) (h2 : Byt W B A2 n2 l2) (hn : n1 ≤ 140737488355328) :
    Calls Try.prog 10 #[.slice A1 n1 c1, .slice A2 n2 c2] W fun e W' => e = .returned (.bool (decide (l1 = l2))) ∧ ∃ k, W' = W.drewN k := by
  by_cases hne : n1 = n2
  · subst hne
    have HL := Lib.hid h1.1
    go_enter Try.func10, Try.ntmps10
    go_wp2_with fail
    go_loopw [5] (fun i wr => ∃ k m : Nat, k ≤ n1 ∧ i = .int .i64 k ∧ wr = W.drewN m ∧ l1.take k = l2.take k)
      (fun i _ => n1 - (intOf i).toNat)
    case atStart => exact ⟨0, 0, by omega, rfl, rfl, by simp⟩
    case round =>
      obtain ⟨k, m, hk, rfl, rfl, ht⟩ := hrel
      by_cases hlt : k < n1
      · obtain ⟨b, o, x, rfl, _, hx, hc⟩ := h1.at_ hlt
        obtain ⟨b', o', y, rfl, _, hy, hc'⟩ := h2.at_ hlt
        go_wp2_with fail
        go_quiet (fail)
        go_wp2
        · have hxy : ((x.toNat : Int) != (y.toNat : Int)) = true := by assumption
          have hne : l1 ≠ l2 := by
            rintro rfl
            rw [hx] at hy
            obtain rfl := Option.some.inj hy
            simp at hxy
          go_ret
          exact ⟨by simp [hne], m + nq, by simp⟩
        · have hxy : ((x.toNat : Int) != (y.toNat : Int)) = false := by assumption
          have exy : x = y := by
            apply UInt8.toNat_inj.1
            have h : (x.toNat : Int) = (y.toNat : Int) := by simpa using hxy
            omega
          subst exy
          go_roundw
          case rel => exact ⟨k + 1, m + nq, by omega, by go_num, by simp, by rw [List.take_add_one, List.take_add_one, ht, hx, hy]⟩
          case measure => simp [intOf]; omega
      · go_wp2
        have hkn : k = n1 := by omega
        have he : l1 = l2 := by
          rw [hkn] at ht
          rwa [List.take_of_length_le (by rw [h1.1]; exact Nat.le_refl _), List.take_of_length_le (by rw [h2.1]; exact Nat.le_refl _)] at ht
        go_ret
        exact ⟨by simp [he], m, rfl⟩
  · have hne' : l1 ≠ l2 := by
      rintro rfl
      exact hne (h1.1.symm.trans h2.1)
    have hb : ((n1 : Int) != (n2 : Int)) = true := by rw [bne_iff_ne]; omega
    go_enter Try.func10, Try.ntmps10
    go_wp2
    go_ret
    exact ⟨by simp [hne'], 0, rfl⟩

/-! The contracts at an Int. -/
theorem put_int (A : Option Addr) (n c : Nat) (l : List UInt8) (w : Int) (x : Int) (h0 : 0 ≤ x) (hx : x ≤ 18446744073709551615) (W : World) (hl : Byt W W.heap.size A n l) (hnil : A = none → c = 0) (hn : n ≤ 140737488351232) (j : Nat) (hj : j ≤ 8) (HQ : Hid (bitsW w = 8 * j)) :
    Calls Try.prog 18 #[.slice A n c, .int .i64 w, .int .u64 x] W fun e W' => ∃ v, e = .returned v ∧
      W'.ownsRow W.heap.size 5 1 v (n + j) ((l ++ le j x.toNat).map bv) ∧ Below W.heap.size W W' := by
  obtain ⟨y, rfl⟩ := Int.eq_ofNat_of_zero_le h0
  exact put_q A n c l w y (by omega) W hl hnil hn j hj HQ

theorem bytes_int (w : Int) (x : Int) (h0 : 0 ≤ x) (hx : x ≤ 18446744073709551615) (hw : w ≤ 1000) (W : World) :
    Calls Try.prog 22 #[.int .i64 w, .int .u64 x] W fun e W' => ∃ v, e = .returned v ∧ W'.ownsRow W.heap.size 5 1 v w.toNat ((le w.toNat x.toNat).map bv) ∧ Below W.heap.size W W' := by
  obtain ⟨y, rfl⟩ := Int.eq_ofNat_of_zero_le h0
  exact bytes_any w y (by omega) hw W

theorem same_true (A1 A2 : Option Addr) (n1 c1 n2 c2 : Nat) (l1 l2 : List UInt8) (B : Nat) (W : World) (h1 : Byt W B A1 n1 l1) (h2 : Byt W B A2 n2 l2) (hn : n1 ≤ 140737488355328) (he : l1 = l2) :
    Calls Try.prog 10 #[.slice A1 n1 c1, .slice A2 n2 c2] W fun e W' => e = .returned (.bool true) ∧ ∃ k, W' = W.drewN k :=
  (same_any A1 A2 n1 c1 n2 c2 l1 l2 B W h1 h2 hn).mono fun e W' ⟨h, k⟩ => ⟨by rw [h]; simp [he], k⟩

end Go.Proofs.Ytnmibfncgoemfaa
