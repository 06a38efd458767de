/-
  Walks over package crc and its reference: afterByte, More, Sum, Seal, Open; the reference's Sum and Seal.
-/
import Derived.Test.YthjikbhjciphiaaGreatDoorZz5
import Derived.Test.YthjikbhjciphiaaGreatDoorZz3
import Derived.Lib.Mul64
import Derived.Laws.Bits64b
namespace Go.Proofs.YthjikbhjciphiaaGreatDoor
open Go.RowKit
set_option linter.unusedVariables false
set_option linter.unusedSimpArgs false

set_option maxHeartbeats 1000000 in
theorem afterByte_any (r b : Nat) (hr : r < 4294967296) (hb : b < 256) (W : World) :
    Calls Tryz.prog 206 #[.int .u32 r, .int .u8 b] W fun e W' => e = .returned (.int .u32 (stepN 8 (r ^^^ b) : Nat)) ∧ W = W' := by
  have hx : bits .xor .u32 (r : Int) (b : Int) = ((r ^^^ b : Nat) : Int) := u32_xor_nat r b hr (by omega)
  have hlt : r ^^^ b < 4294967296 := Nat.xor_lt_two_pow (n := 32) hr (by omega)
  generalize r ^^^ b = x at hx hlt ⊢
  go_enter Tryz.func206, Tryz.ntmps206
  go_wp2_with fail
  go_loop [0, 5, 10] (fun rs _ i => ∃ k : Nat, k ≤ 8 ∧ i = .int .i64 k ∧ rs = .int .u32 ((stepN k x : Nat) : Int))
    (fun _ _ i => 8 - (intOf i).toNat)
  case atStart => exact ⟨0, by omega, rfl, rfl⟩
  case round =>
    obtain ⟨k, hk, rfl, rfl⟩ := hrel
    have hy : stepN k x < 4294967296 := stepN_lt k hlt
    have HS := Lib.hid (show stepN (k + 1) x = stepC (stepN k x) from rfl)
    have HX := Lib.hid (show stepN 8 x = stepN 8 x from rfl)
    by_cases h8 : k < 8
    · generalize hyy : stepN k x = y at hy HS ⊢
      clear hyy
      have hand : bits .and .u32 (y : Int) 1 = ((y % 2 : Nat) : Int) := by
        rw [← Nat.and_one_is_mod]; exact u32_and_nat y 1 hy (by decide)
      have hxo : bits .xor .u32 ((y : Int) / 2) 2197175160 = ((y / 2 ^^^ 2197175160 : Nat) : Int) := u32_xor_nat (y / 2) 2197175160 (by omega) (by decide)
      have hsh : (y : Int) / 2 ^ 1 = ((y / 2 : Nat) : Int) := by omega
      by_cases hodd : y % 2 = 1
      · rw [hodd] at hand
        have HC := Lib.hid (show stepC y = y / 2 ^^^ 2197175160 by unfold stepC; rw [if_pos hodd])
        clear hodd
        go_wp2
        go_round
        case rel => exact ⟨k + 1, by omega, by go_num, by rw [HS.out, HC.out]⟩
        case measure => simp [intOf]; omega
      · have h0 : y % 2 = 0 := by omega
        rw [h0] at hand
        have HC := Lib.hid (show stepC y = y / 2 by unfold stepC; rw [if_neg hodd])
        clear hodd h0
        go_wp2
        go_round
        case rel => exact ⟨k + 1, by omega, by go_num, by rw [HS.out, HC.out]; rfl⟩
        case measure => simp [intOf]; omega
    · obtain rfl : k = 8 := by omega
      go_wp2
      go_ret
      exact ⟨rfl, rfl⟩

theorem not_u32 (s : Nat) (hs : s < 4294967296) : bits .xor .u32 IntKind.u32.max (s : Int) = ((4294967295 - s : Nat) : Int) := by
  rw [sub_xor s hs, Nat.xor_comm]
  exact u32_xor_nat 4294967295 s (by decide) hs

/-- A sum that goes on. -/
def moreC (s : Nat) (l : List UInt8) : Nat := 4294967295 - crcReg (4294967295 - s) l
theorem moreC_le (s : Nat) (l : List UInt8) : moreC s l ≤ 4294967295 := by unfold moreC; omega

set_option maxHeartbeats 1000000 in
theorem more_any (s : Nat) (hs : s < 4294967296) (A : Option Addr) (n c : Nat) (l : List UInt8) (B : Nat) (W : World) (hl : Byt W B A n l) (hn : n ≤ 140737488355328) :
    Calls Tryz.prog 199 #[.int .u32 s, .slice A n c] W fun e W' => e = .returned (.int .u32 (moreC s l : Nat)) ∧ W = W' := by
  have HM := Lib.hid (show moreC s l = 4294967295 - crcReg (4294967295 - s) l from rfl)
  generalize moreC s l = M at HM ⊢
  go_enter Tryz.func199, Tryz.ntmps199
  go_wp2_with fail
  go_loop [5, 7, 12] (fun rs _ i => ∃ k : Nat, k ≤ n ∧ i = .int .i64 k ∧ rs = .int .u32 ((crcReg (4294967295 - s) (l.take k) : Nat) : Int))
    (fun _ _ i => n - (intOf i).toNat)
  case atStart => exact ⟨0, by omega, rfl, by rw [List.take_zero, not_u32 s hs]; rfl⟩
  case round =>
    obtain ⟨k, hk, rfl, rfl⟩ := hrel
    have hr : crcReg (4294967295 - s) (l.take k) < 4294967296 := crcReg_lt _ (by omega)
    by_cases hlt : k < n
    · obtain ⟨b, o, x, rfl, _, hx, hc⟩ := hl.at_ hlt
      have hx2 : x.toNat < 256 := x.toNat_lt
      have HS := Lib.hid (show crcReg (4294967295 - s) (l.take (k + 1)) = stepN 8 (crcReg (4294967295 - s) (l.take k) ^^^ x.toNat) by
        rw [List.take_add_one, hx]; exact crcReg_snoc _ _ _)
      generalize crcReg (4294967295 - s) (l.take k) = r at hr HS ⊢
      generalize x.toNat = xt at hc hx2 HS
      go_wp2_with (go_at_call 206; refine (afterByte_any r xt hr hx2 _).mono ?_; rintro e w' ⟨rfl, rfl⟩)
      go_round
      case rel => exact ⟨k + 1, by omega, by go_num, by rw [HS.out]⟩
      case measure => simp [intOf]; omega
    · have hkn : k = n := by omega
      have HT := Lib.hid (show crcReg (4294967295 - s) (l.take k) = crcReg (4294967295 - s) l by rw [List.take_of_length_le (by rw [hl.1]; omega)])
      generalize crcReg (4294967295 - s) (l.take k) = r at hr HT ⊢
      go_wp2
      go_ret
      refine ⟨?_, rfl⟩
      rw [HM.out, ← HT.out]
      rw [not_u32 r hr]; rfl

theorem crcSum_more (l : List UInt8) : crcSum l = moreC 0 l := rfl

set_option maxHeartbeats 1000000 in
theorem sum_any (A : Option Addr) (n c : Nat) (l : List UInt8) (B : Nat) (W : World) (hl : Byt W B A n l) (hn : n ≤ 140737488355328) :
    Calls Tryz.prog 178 #[.slice A n c] W fun e W' => e = .returned (.int .u32 (crcSum l : Nat)) ∧ W = W' := by
  rw [crcSum_more]
  go_enter Tryz.func178, Tryz.ntmps178
  go_wp2_with (go_at_call 199; refine (more_any 0 (by decide) _ _ _ _ _ _ hl hn).mono ?_; rintro e w' ⟨rfl, rfl⟩)
  go_ret
  exact ⟨rfl, rfl⟩

theorem ref_same (y z : Nat) (h : y % 2 = z % 2) : y / 2 ^^^ z / 2 = stepC (y ^^^ z) := by
  unfold stepC
  rw [if_neg (by rw [Nat.xor_mod_two_eq_one]; omega), Nat.xor_div_two]
theorem ref_other (y z : Nat) (h : y % 2 ≠ z % 2) : (y / 2 ^^^ 2197175160) ^^^ z / 2 = stepC (y ^^^ z) := by
  unfold stepC
  rw [if_pos (by rw [Nat.xor_mod_two_eq_one]; omega), Nat.xor_div_two, Nat.xor_assoc, Nat.xor_assoc, Nat.xor_comm (z / 2)]

theorem test_same (y z : Nat) (h : y % 2 = z % 2) : (!((y : Int) % 2 == 1) == ((z : Int) % 2 == 1)) = false := by
  have : (y : Int) % 2 = (z : Int) % 2 := by omega
  rw [this]; simp
theorem test_other (y z : Nat) (h : y % 2 ≠ z % 2) : (!((y : Int) % 2 == 1) == ((z : Int) % 2 == 1)) = true := by
  by_cases hy : (y : Int) % 2 = 1
  · have hz : (z : Int) % 2 = 0 := by omega
    rw [hy, hz]; rfl
  · have hy0 : (y : Int) % 2 = 0 := by omega
    have hz : (z : Int) % 2 = 1 := by omega
    rw [hy0, hz]; rfl

end Go.Proofs.YthjikbhjciphiaaGreatDoor

/-
  Walks over package crc and its reference: Seal, Open; the reference's Seal; awake.
-/
namespace Go.Proofs.YthjikbhjciphiaaGreatDoor
open Go.RowKit
set_option linter.unusedVariables false
set_option linter.unusedSimpArgs false

/-- Bytes, sealed. -/
def sealC (l : List UInt8) : List UInt8 := l ++ le 4 (crcSum l)

set_option maxHeartbeats 1000000 in
theorem seal_any (A : Option Addr) (n c : Nat) (l : List UInt8) (W : World) (hl : Byt W W.heap.size A n l) (hnil : A = none → c = 0) (hn : n ≤ 140737488351232) :
    Calls Tryz.prog 132 #[.slice A n c] W fun e W' => ∃ v, e = .returned v ∧ W'.ownsRow W.heap.size 5 1 v (n + 4) ((sealC l).map bv) ∧ Below W.heap.size W W' := by
  have HQ : Hid (bitsW 4 = 8 * 4) := Lib.hid rfl
  have hs := crcSum_le l
  have HS := Lib.hid (show sealC l = l ++ le 4 (crcSum l) from rfl)
  generalize hq : crcSum l = q at hs HS
  have HQ2 := Lib.hid hq
  clear hq
  go_enter Tryz.func132, Tryz.ntmps132
  go_wp2_with (first
    | (go_at_call 178; refine (sum_any _ _ _ _ _ _ hl (by omega)).mono ?_; rintro e w' ⟨rfl, rfl⟩; rw [HQ2.out])
    | (go_at_call 128; refine (put_q _ _ _ _ 4 q (by omega) _ hl hnil hn 4 (by decide) HQ).mono ?_; rintro e w' ⟨v, rfl, hown, hb⟩))
  go_ret
  exact ⟨v, rfl, by rw [HS.out]; exact hown, hb⟩

/-- Is it a seal? -/
def isSeal (l : List UInt8) : Bool := decide (4 ≤ l.length) && decide (num (l.drop (l.length - 4)) = crcSum (l.take (l.length - 4)))
/-- What it opens to. -/
def openB (l : List UInt8) : List UInt8 := if isSeal l then l.take (l.length - 4) else []

set_option maxHeartbeats 1000000 in
theorem open_any (B : Nat) (A : Option Addr) (n c : Nat) (l : List UInt8) (W : World) (hl : Byt W B A n l) (hB : B ≤ W.heap.size) (hnil : A = none → c = 0) (hnc : n ≤ c) (hcm : c ≤ maxLen) (hn : n ≤ 140737488351232) :
    Calls Tryz.prog 172 #[.slice A n c] W fun e W' => ∃ v, e = .returned (.tuple #[v, .bool (isSeal l)]) ∧ W'.ownsRow W.heap.size 5 1 v (openB l).length ((openB l).map bv) ∧ Below W.heap.size W W' := by
  unfold maxLen at hcm
  have hln := hl.1
  by_cases h4 : n < 4
  · have HI := Lib.hid (show isSeal l = false by unfold isSeal; rw [hln]; simp; omega)
    have HO := Lib.hid (show openB l = [] by unfold openB; rw [HI.out]; rfl)
    clear hln
    go_enter Tryz.func172, Tryz.ntmps172
    go_wp2
    go_ret2
    rw [HI.out, HO.out]
    exact ⟨_, rfl, World.ownsRow_nil _ _ _ _, Below.refl _ _⟩
  · obtain ⟨m, rfl⟩ : ∃ m, n = m + 4 := ⟨n - 4, by omega⟩
    have hcut := hl.cut (k := m) (by omega) hnc
    rw [if_neg (by omega), show m + 4 - m = 4 by omega] at hcut
    have htk := hl.take (k := m) (by omega)
    have HQ : Hid (bitsW 4 = 8 * 4) := Lib.hid rfl
    have hm4 : ((m + 4 : Nat) : Int) - 4 = (m : Int) := by omega
    have HI := Lib.hid (show isSeal l = decide (num (l.drop m) = crcSum (l.take m)) by unfold isSeal; rw [hln]; simp)
    have HO := Lib.hid (show openB l = if isSeal l then l.take m else [] by unfold openB; rw [hln]; simp)
    have HT := Lib.hid (show tk (l.drop m) 0 (4 : Nat) = ((l.drop m), [], 0) by
      unfold tk
      rw [if_neg (by simp), if_neg (by simp [hln])]
      rw [show ((4 : Nat) : Int).toNat = 4 from rfl, List.take_of_length_le (by rw [List.length_drop, hln]; omega), List.drop_of_length_le (l := List.drop m l) (by rw [List.length_drop, hln]; omega)])
    clear hln
    have hnum := num_max (l.drop m) (by rw [hcut.1]; omega)
    have hsum := crcSum_le (l.take m)
    have hOl : (openB l).length = (if isSeal l then m else 0) := by
      rw [HO.out]
      split
      · exact htk.1
      · rfl
    have HOl := Lib.hid hOl
    clear hOl
    by_cases he : num (l.drop m) = crcSum (l.take m)
    · rw [decide_eq_true he] at HI
      rw [HI.out] at HO HOl
      rw [he] at hnum
      have HE := Lib.hid he
      clear he
      generalize hq : crcSum (l.take m) = q at *
      have HQ2 := Lib.hid hq
      clear hq
      go_enter Tryz.func172, Tryz.ntmps172
      go_wp2_with (first
        | (go_at_call 115; go_loud (refine (newCursor_any _ _ _ _ _ _ hcut hB (fun h => by have := hnil (by simpa using h); omega) (by omega)).mono ?_; rintro r w1 ⟨g, rfl, hg, hC, hb1⟩; have htk1 := htk.below (hb1.mono hB)))
        | (go_at_call 116; go_loud (refine (number_q g _ 0 4 4 (by decide) HQ _ hC).mono ?_; rintro r w2 ⟨rfl, hC2, ho2, hz2⟩; rw [HT.out, HE.out]; have hb2 := ho2.below hb1 hb1.size hg; have htk2 := htk.below (hb2.mono hB)))
        | (go_at_call 178; go_loud (refine (sum_any _ _ _ _ _ _ htk2 (by omega)).mono ?_; rintro e w' ⟨rfl, rfl⟩; rw [HQ2.out]))
        | (go_at_call 166; go_loud (refine (clone_any B _ _ _ _ _ htk2 (Nat.le_trans hB hb2.size) hnil (by omega)).mono ?_; rintro r w3 ⟨v, rfl, hown, hb3⟩)))
      go_ret2
      refine ⟨v, by rw [HI.out]; rfl, ?_, bthen hb2 hb3⟩
      rw [HOl.out, HO.out]
      exact own_mono hown hb2.size
    · rw [decide_eq_false he] at HI
      rw [HI.out] at HO HOl
      have hpq : ((num (l.drop m) : Nat) : Int) ≠ ((crcSum (l.take m) : Nat) : Int) := by omega
      clear he
      generalize hq : crcSum (l.take m) = q at *
      have HQ2 := Lib.hid hq
      clear hq
      generalize hp : num (l.drop m) = p at *
      have HE := Lib.hid hp
      clear hp
      have hne : ((p : Int) != (q : Int)) = true := by rw [bne_iff_ne]; exact hpq
      clear hpq
      go_enter Tryz.func172, Tryz.ntmps172
      go_wp2_with (first
        | (go_at_call 115; go_loud (refine (newCursor_any _ _ _ _ _ _ hcut hB (fun h => by have := hnil (by simpa using h); omega) (by omega)).mono ?_; rintro r w1 ⟨g, rfl, hg, hC, hb1⟩; have htk1 := htk.below (hb1.mono hB)))
        | (go_at_call 116; go_loud (refine (number_q g _ 0 4 4 (by decide) HQ _ hC).mono ?_; rintro r w2 ⟨rfl, hC2, ho2, hz2⟩; rw [HT.out, HE.out]; have hb2 := ho2.below hb1 hb1.size hg; have htk2 := htk.below (hb2.mono hB)))
        | (go_at_call 178; go_loud (refine (sum_any _ _ _ _ _ _ htk2 (by omega)).mono ?_; rintro e w' ⟨rfl, rfl⟩; rw [HQ2.out])))
      go_ret2
      refine ⟨_, by rw [HI.out]; rfl, ?_, hb2⟩
      rw [HOl.out, HO.out]
      exact World.ownsRow_nil _ _ _ _

def d9 : List UInt8 := [49, 50, 51, 52, 53, 54, 55, 56, 57]
theorem d9_sum : crcSum d9 = 3808858755 := by decide +kernel

end Go.Proofs.YthjikbhjciphiaaGreatDoor

/-
  The walk of the law CrcSeals.
-/
namespace Go.Proofs.YthjikbhjciphiaaGreatDoor
open Go.RowKit
set_option linter.unusedVariables false
set_option linter.unusedSimpArgs false

theorem num_inj (l : List UInt8) : ∀ (m : List UInt8), l.length = m.length → num l = num m → l = m := by
  induction l with
  | nil => intro m h _; exact (List.eq_nil_of_length_eq_zero h.symm).symm
  | cons b l ih =>
    intro m h e
    rcases m with _ | ⟨c, m⟩
    · simp at h
    · have hb := b.toNat_lt
      have hc := c.toNat_lt
      have e' : b.toNat + 256 * num l = c.toNat + 256 * num m := e
      have h1 : b = c := UInt8.toNat_inj.1 (by omega)
      rw [h1, ih m (by simpa using h) (by omega)]
theorem sealC_len (l : List UInt8) : (sealC l).length = l.length + 4 := by unfold sealC; rw [List.length_append, le_len]
theorem num_le4 (x : Nat) (h : x ≤ 4294967295) : num (le 4 x) = x := by rw [num_le, show (256 : Nat) ^ 4 = 4294967296 by decide]; omega
theorem sealC_take (l : List UInt8) : (sealC l).take l.length = l := by unfold sealC; simp
theorem sealC_drop (l : List UInt8) : (sealC l).drop l.length = le 4 (crcSum l) := by unfold sealC; simp
theorem isSeal_sealC (l : List UInt8) : isSeal (sealC l) = true := by
  unfold isSeal
  rw [sealC_len, show l.length + 4 - 4 = l.length by omega, sealC_take, sealC_drop, num_le4 _ (crcSum_le l)]
  simp
theorem openB_sealC (l : List UInt8) : openB (sealC l) = l := by
  unfold openB
  rw [isSeal_sealC, if_pos rfl, sealC_len, show l.length + 4 - 4 = l.length by omega, sealC_take]
theorem isSeal_eq (l : List UInt8) (m : Nat) (h : l.length = m + 4) : decide (sealC (l.take m) = l) = isSeal l := by
  have hd : (l.drop m).length = 4 := by rw [List.length_drop, h]; omega
  have hs := crcSum_le (l.take m)
  unfold isSeal
  rw [h, show m + 4 - 4 = m by omega]
  rw [Bool.eq_iff_iff]
  simp only [decide_eq_true_eq, Bool.and_eq_true]
  constructor
  · intro e
    refine ⟨by omega, ?_⟩
    have h1 : (sealC (l.take m)).drop m = l.drop m := by rw [e]
    have h2 := sealC_drop (l.take m)
    rw [List.length_take, h, Nat.min_eq_left (by omega), h1] at h2
    rw [h2, num_le4 _ hs]
  · rintro ⟨_, e⟩
    have h1 : l.drop m = le 4 (crcSum (l.take m)) := num_inj _ _ (by rw [hd, le_len]) (by rw [e, num_le4 _ hs])
    unfold sealC
    rw [← h1, List.take_append_drop]
theorem isSeal_short (l : List UInt8) (h : l.length < 4) : isSeal l = false := by unfold isSeal; simp; omega
theorem openB_not (l : List UInt8) (h : isSeal l = false) : openB l = [] := by unfold openB; rw [h]; rfl
theorem openB_is (l : List UInt8) (m : Nat) (hm : l.length = m + 4) (h : isSeal l = true) : openB l = l.take m := by unfold openB; rw [h, hm]; rfl

end Go.Proofs.YthjikbhjciphiaaGreatDoor

/-
  What is spoilt is no seal. No program stands here.
-/
namespace Go.Proofs.YthjikbhjciphiaaGreatDoor
open Go.RowKit
set_option linter.unusedVariables false
set_option linter.unusedSimpArgs false

theorem xor_cancel {p a b : Nat} (h : p ^^^ a = p ^^^ b) : a = b := by
  have h2 : p ^^^ (p ^^^ a) = p ^^^ (p ^^^ b) := by rw [h]
  simpa [← Nat.xor_assoc] using h2
theorem isSeal_any (e : List UInt8) (n : Nat) (h : e.length = n + 4) : isSeal e = decide (num (e.drop n) = crcSum (e.take n)) := by
  unfold isSeal
  rw [h, show n + 4 - 4 = n by omega, decide_eq_true (show 4 ≤ n + 4 by omega), Bool.true_and]
theorem crcSum_xor (l : List UInt8) : crcSum l = crcReg 4294967295 l ^^^ 4294967295 := by
  unfold crcSum
  rw [sub_xor _ (crcReg_lt l (by decide))]
theorem xorL_len (s d : List UInt8) (h : s.length = d.length) : (xorL s d).length = s.length := by unfold xorL; rw [List.length_zipWith, ← h, Nat.min_self]
theorem spoilt (l : List UInt8) (n a : Nat) (x : List UInt8) (hn : l.length = n) (ha : a ≤ n) (hx : x.length = 4) (h0 : num x ≠ 0) :
    isSeal (xorL (sealC l) (List.replicate a 0 ++ x ++ List.replicate (n - a) 0)) = false := by
  have hd : (List.replicate a (0 : UInt8) ++ x ++ List.replicate (n - a) 0).length = n + 4 := by simp [hx]; omega
  have hb := burst a n x hx h0 ha _ rfl
  generalize List.replicate a (0 : UInt8) ++ x ++ List.replicate (n - a) 0 = d at hd hb ⊢
  have hs : (sealC l).length = n + 4 := by rw [sealC_len, hn]
  have he : (xorL (sealC l) d).length = n + 4 := by rw [xorL_len _ _ (by rw [hs, hd]), hs]
  rw [isSeal_any _ n he]
  have h1 : (xorL (sealC l) d).take n = xorL l (d.take n) := by
    unfold xorL
    rw [List.take_zipWith]
    congr 1
    have := sealC_take l
    rwa [hn] at this
  have h2 : (xorL (sealC l) d).drop n = xorL (le 4 (crcSum l)) (d.drop n) := by
    unfold xorL
    rw [List.drop_zipWith]
    congr 1
    have := sealC_drop l
    rwa [hn] at this
  have hdt : (d.take n).length = n := by rw [List.length_take, hd]; omega
  have hdd : (d.drop n).length = 4 := by rw [List.length_drop, hd]; omega
  rw [h1, h2, num_xor _ _ (by rw [le_len, hdd]), num_le4 _ (crcSum_le l), decide_eq_false_iff_not]
  intro e
  apply hb
  have hc := crcReg_xor l (d.take n) 4294967295 0 (by rw [hn, hdt])
  rw [Nat.xor_zero] at hc
  rw [crcSum_xor, crcSum_xor, hc] at e
  have e2 : (crcReg 4294967295 l ^^^ 4294967295) ^^^ num (d.drop n) = (crcReg 4294967295 l ^^^ 4294967295) ^^^ crcReg 0 (d.take n) := by
    rw [e, Nat.xor_assoc, Nat.xor_assoc, Nat.xor_comm 4294967295]
  exact (xor_cancel e2).symm

/-- The loop's steps. -/
def sp (s : List UInt8) (a : Nat) (x : List UInt8) : Nat → List UInt8
  | 0 => s
  | k + 1 => (sp s a x k).set (a + k) ((sp s a x k).getD (a + k) 0 ^^^ x.getD k 0)
theorem sp_len (s : List UInt8) (a : Nat) (x : List UInt8) (k : Nat) : (sp s a x k).length = s.length := by
  induction k with
  | zero => rfl
  | succ k ih => simp [sp, ih]
theorem xorL_zeros (p : List UInt8) : xorL p (List.replicate p.length 0) = p := by
  unfold xorL
  induction p with
  | nil => rfl
  | cons b p ih => rw [List.length_cons, List.replicate_succ, List.zipWith_cons_cons, ih]; simp
theorem list4u (l : List UInt8) (h : l.length = 4) : ∃ a b c d, l = [a, b, c, d] := by
  match l, h with
  | [a, b, c, d], _ => exact ⟨a, b, c, d, rfl⟩
theorem sp_four (s : List UInt8) (a n : Nat) (x : List UInt8) (hs : s.length = n + 4) (ha : a ≤ n) (hx : x.length = 4) :
    sp s a x 4 = xorL s (List.replicate a 0 ++ x ++ List.replicate (n - a) 0) := by
  obtain ⟨x0, x1, x2, x3, rfl⟩ := list4u x hx
  have h1 : s = s.take a ++ (s.drop a).take 4 ++ (s.drop a).drop 4 := by rw [List.append_assoc, List.take_append_drop, List.take_append_drop]
  obtain ⟨y0, y1, y2, y3, hy⟩ := list4u ((s.drop a).take 4) (by rw [List.length_take, List.length_drop, hs]; omega)
  have hp : (s.take a).length = a := by rw [List.length_take, hs]; omega
  have hq : ((s.drop a).drop 4).length = n - a := by rw [List.length_drop, List.length_drop, hs]; omega
  rw [hy] at h1
  generalize s.take a = p at h1 hp
  generalize (s.drop a).drop 4 = q at h1 hq
  clear hy
  subst h1
  subst hp
  have hz : xorL (p ++ [y0, y1, y2, y3] ++ q) (List.replicate p.length 0 ++ [x0, x1, x2, x3] ++ List.replicate (n - p.length) 0) = p ++ [y0 ^^^ x0, y1 ^^^ x1, y2 ^^^ x2, y3 ^^^ x3] ++ q := by
    unfold xorL
    rw [List.zipWith_append (by simp), List.zipWith_append (by simp)]
    have e1 := xorL_zeros p
    have e2 := xorL_zeros q
    unfold xorL at e1 e2
    rw [hq] at e2
    rw [e1, e2]
    rfl
  rw [hz]
  simp [sp, List.getD_eq_getElem?_getD, List.set_append]

end Go.Proofs.YthjikbhjciphiaaGreatDoor

/-
  Boxes: the box at the beginning of bytes, all boxes from the beginning on, boxes that are cut off, a box that is spoilt. No program stands here.
-/
namespace Go.Proofs.YthjikbhjciphiaaGreatDoor
open Go.RowKit
set_option linter.unusedVariables false
set_option linter.unusedSimpArgs false

/-- The box of bytes. -/
def boxC (b : List UInt8) : List UInt8 := sealC (le 2 b.length ++ b)
theorem boxC_len (b : List UInt8) : (boxC b).length = b.length + 6 := by
  unfold boxC
  rw [sealC_len, List.length_append, le_len]
  omega
/-- The number that a box begins with. -/
def nB (r : List UInt8) : Nat := num (r.take 2)
/-- The box at the beginning: its bytes, its size, what is wrong. -/
def headC (r : List UInt8) : List UInt8 × Nat × Int :=
  if r.length < 2 then ([], 0, 1) else if nB r = 0 then ([], 0, 2) else if 4096 < nB r then ([], 0, 3) else if r.length < nB r + 6 then ([], 0, 1)
  else if boxC ((r.drop 2).take (nB r)) = r.take (nB r + 6) then ((r.drop 2).take (nB r), nB r + 6, 0) else ([], 0, 4)
/-- The box at a place: its bytes, the place behind it, what is wrong. -/
def nextC (l : List UInt8) (a : Int) : List UInt8 × Nat × Int :=
  if a < 0 ∨ (l.length : Int) < a then ([], 0, 6) else if (headC (l.drop a.toNat)).2.2 = 0 then ((headC (l.drop a.toNat)).1, a.toNat + (headC (l.drop a.toNat)).2.1, 0) else ([], 0, (headC (l.drop a.toNat)).2.2)
/-- All boxes from the beginning on, and where they end. -/
def validF : Nat → List UInt8 → List (List UInt8) × Nat
  | 0, _ => ([], 0)
  | f + 1, r => if (headC r).2.2 = 0 then ((headC r).1 :: (validF f (r.drop (headC r).2.1)).1, (headC r).2.1 + (validF f (r.drop (headC r).2.1)).2) else ([], 0)
def validC (r : List UInt8) : List (List UInt8) × Nat := validF r.length r

theorem nB_le (r : List UInt8) : nB r < 65536 := by
  have h := num_lt (r.take 2)
  have h2 : (r.take 2).length ≤ 2 := by rw [List.length_take]; omega
  exact Nat.lt_of_lt_of_le h (Nat.le_trans (Nat.pow_le_pow_right (by decide) h2) (by decide))
/-- What a head is. -/
theorem head_cases (r : List UInt8) : ((headC r).2.2 = 0 ∧ 1 ≤ nB r ∧ nB r ≤ 4096 ∧ nB r + 6 ≤ r.length ∧ (headC r).1 = (r.drop 2).take (nB r) ∧ (headC r).2.1 = nB r + 6 ∧ boxC (headC r).1 = r.take (nB r + 6)) ∨ ((headC r).2.2 ≠ 0 ∧ (headC r).1 = [] ∧ (headC r).2.1 = 0) := by
  unfold headC
  split
  · exact .inr ⟨by decide, rfl, rfl⟩
  · split
    · exact .inr ⟨by decide, rfl, rfl⟩
    · split
      · exact .inr ⟨by decide, rfl, rfl⟩
      · split
        · exact .inr ⟨by decide, rfl, rfl⟩
        · split
          · rename_i h
            exact .inl ⟨rfl, by omega, by omega, by omega, rfl, rfl, h⟩
          · exact .inr ⟨by decide, rfl, rfl⟩
theorem head_size (r : List UInt8) (h : (headC r).2.2 = 0) : 7 ≤ (headC r).2.1 ∧ (headC r).2.1 ≤ r.length ∧ (headC r).1.length + 6 = (headC r).2.1 ∧ (headC r).2.1 ≤ 4102 := by
  rcases head_cases r with ⟨_, h1, h2, h3, h4, h5, _⟩ | ⟨h0, _⟩
  · rw [h4, h5, List.length_take, List.length_drop]
    omega
  · exact absurd h h0
theorem boxC_head (b r : List UInt8) : (boxC b ++ r).take 2 = le 2 b.length ∧ ((boxC b ++ r).drop 2).take b.length = b := by
  have h2 := le_len 2 b.length
  have e : boxC b ++ r = le 2 b.length ++ (b ++ (le 4 (crcSum (le 2 b.length ++ b)) ++ r)) := by
    unfold boxC sealC
    simp [List.append_assoc]
  rw [e, List.take_left' h2, List.drop_left' h2, List.take_left' rfl]
  exact ⟨rfl, rfl⟩
/-- A box at the beginning is found. -/
theorem head_box (b r : List UInt8) (h1 : 1 ≤ b.length) (h2 : b.length ≤ 4096) : headC (boxC b ++ r) = (b, b.length + 6, 0) := by
  obtain ⟨e1, e2⟩ := boxC_head b r
  have hl := boxC_len b
  have hn : nB (boxC b ++ r) = b.length := by
    unfold nB
    rw [e1, num_le]
    exact Nat.mod_eq_of_lt (by omega)
  have ht : (boxC b ++ r).take (b.length + 6) = boxC b := List.take_left' hl
  unfold headC
  rw [hn, if_neg (by rw [List.length_append, hl]; omega), if_neg (by omega), if_neg (by omega), if_neg (by rw [List.length_append, hl]; omega), e2, ht, if_pos rfl]
/-- A box that is cut off is none. -/
theorem head_torn (b : List UInt8) (m : Nat) (h1 : 1 ≤ b.length) (h2 : b.length ≤ 4096) (hm : m < b.length + 6) : (headC ((boxC b).take m)).2.2 = 1 := by
  have hl := boxC_len b
  have hlen : ((boxC b).take m).length = m := by rw [List.length_take]; omega
  unfold headC
  by_cases h0 : m < 2
  · rw [if_pos (by omega)]
  · have e1 := (boxC_head b []).1
    rw [List.append_nil] at e1
    have hn : nB ((boxC b).take m) = b.length := by
      unfold nB
      rw [List.take_take, Nat.min_eq_left (by omega), e1, num_le]
      exact Nat.mod_eq_of_lt (by omega)
    rw [hn, if_neg (by omega), if_neg (by omega), if_neg (by omega), if_pos (by omega)]

theorem validF_more : ∀ (f : Nat) (r : List UInt8), r.length ≤ f → validF f r = validF r.length r := by
  intro f
  induction f using Nat.strongRecOn with
  | ind f ih =>
    intro r hr
    cases f with
    | zero => rw [show r.length = 0 by omega]
    | succ f =>
      by_cases h0 : (headC r).2.2 = 0
      · obtain ⟨h1, h2, _⟩ := head_size r h0
        obtain ⟨k, hk⟩ : ∃ k, r.length = k + 1 := ⟨r.length - 1, by omega⟩
        have hd : (r.drop (headC r).2.1).length ≤ k := by rw [List.length_drop]; omega
        have hd2 : (r.drop (headC r).2.1).length ≤ f := by omega
        rw [hk]
        unfold validF
        rw [if_pos h0, if_pos h0, ih f (by omega) _ hd2]
        by_cases hkf : k = f
        · rw [hkf, ih f (by omega) _ hd2]
        · rw [ih k (by omega) _ hd]
      · have e1 : validF (f + 1) r = ([], 0) := by unfold validF; rw [if_neg h0]
        rw [e1]
        cases hl : r.length with
        | zero => rfl
        | succ k => unfold validF; rw [if_neg h0]
theorem valid_go (r : List UInt8) (h : (headC r).2.2 = 0) : validC r = ((headC r).1 :: (validC (r.drop (headC r).2.1)).1, (headC r).2.1 + (validC (r.drop (headC r).2.1)).2) := by
  obtain ⟨h1, h2, _⟩ := head_size r h
  obtain ⟨k, hk⟩ : ∃ k, r.length = k + 1 := ⟨r.length - 1, by omega⟩
  have hd : (r.drop (headC r).2.1).length ≤ k := by rw [List.length_drop]; omega
  have e := validF_more k (r.drop (headC r).2.1) hd
  unfold validC
  rw [hk]
  conv => lhs; unfold validF
  rw [if_pos h, e]
theorem valid_stop (r : List UInt8) (h : (headC r).2.2 ≠ 0) : validC r = ([], 0) := by
  unfold validC
  cases r.length with
  | zero => rfl
  | succ k => unfold validF; rw [if_neg h]
theorem valid_end (r : List UInt8) : (validC r).2 ≤ r.length ∧ (validC r).1.length ≤ r.length := by
  suffices h : ∀ n (r : List UInt8), r.length = n → (validC r).2 ≤ r.length ∧ (validC r).1.length ≤ r.length from h r.length r rfl
  intro n
  induction n using Nat.strongRecOn with
  | ind n ih =>
    intro r hr
    by_cases h0 : (headC r).2.2 = 0
    · obtain ⟨h1, h2, _⟩ := head_size r h0
      have hd : (r.drop (headC r).2.1).length = r.length - (headC r).2.1 := List.length_drop
      obtain ⟨i1, i2⟩ := ih _ (by omega) (r.drop (headC r).2.1) hd
      rw [valid_go r h0]
      simp only [List.length_cons]
      omega
    · rw [valid_stop r h0]
      exact ⟨Nat.zero_le _, Nat.zero_le _⟩

/-- Boxes, one behind the other. -/
def boxesC (l : List (List UInt8)) : List UInt8 := (l.map boxC).flatten
/-- Those of them that are whole within n bytes, and where they end. -/
def cutB : List (List UInt8) → Nat → List (List UInt8) × Nat
  | [], _ => ([], 0)
  | b :: t, n => if b.length + 6 ≤ n then (b :: (cutB t (n - (b.length + 6))).1, b.length + 6 + (cutB t (n - (b.length + 6))).2) else ([], 0)
theorem boxesC_cons (b : List UInt8) (t : List (List UInt8)) : boxesC (b :: t) = boxC b ++ boxesC t := by
  unfold boxesC; rw [List.map_cons, List.flatten_cons]
theorem boxesC_snoc (t : List (List UInt8)) (b : List UInt8) : boxesC (t ++ [b]) = boxesC t ++ boxC b := by
  unfold boxesC; simp
/-- Cut off anywhere: just those are valid that are whole. -/
theorem valid_cut : ∀ (l : List (List UInt8)) (n : Nat), (∀ b ∈ l, 1 ≤ b.length ∧ b.length ≤ 4096) → validC ((boxesC l).take n) = cutB l n := by
  intro l
  induction l with
  | nil =>
    intro n _
    show validC ((boxesC []).take n) = ([], 0)
    rw [show boxesC [] = [] from rfl, List.take_nil]
    rfl
  | cons b t ih =>
    intro n h
    obtain ⟨h1, h2⟩ := h b List.mem_cons_self
    have hl := boxC_len b
    unfold cutB
    rw [boxesC_cons, List.take_append, hl]
    by_cases hn : b.length + 6 ≤ n
    · rw [if_pos hn, List.take_of_length_le (by omega)]
      have hh := head_box b ((boxesC t).take (n - (b.length + 6))) h1 h2
      rw [valid_go _ (by rw [hh]), hh]
      simp only
      rw [List.drop_left' hl, ih _ (fun x hx => h x (List.mem_cons_of_mem _ hx))]
    · rw [if_neg hn, show n - (b.length + 6) = 0 by omega, List.take_zero, List.append_nil]
      exact valid_stop _ (by rw [head_torn b n h1 h2 (by omega)]; decide)
/-- All bytes of boxes. -/
def lenB (l : List (List UInt8)) : Nat := (boxesC l).length
theorem lenB_cons (b : List UInt8) (t : List (List UInt8)) : lenB (b :: t) = b.length + 6 + lenB t := by
  unfold lenB; rw [boxesC_cons, List.length_append, boxC_len]
theorem lenB_snoc (t : List (List UInt8)) (b : List UInt8) : lenB (t ++ [b]) = lenB t + (b.length + 6) := by
  unfold lenB; rw [boxesC_snoc, List.length_append, boxC_len]
theorem cutB_all : ∀ (l : List (List UInt8)) (n : Nat), lenB l ≤ n → cutB l n = (l, lenB l) := by
  intro l
  induction l with
  | nil => intro n _; rfl
  | cons b t ih =>
    intro n h
    rw [lenB_cons] at h ⊢
    unfold cutB
    rw [if_pos (by omega), ih _ (by omega)]
theorem cutB_snoc : ∀ (l : List (List UInt8)) (b : List UInt8) (n : Nat), n < lenB (l ++ [b]) → cutB (l ++ [b]) n = cutB l n := by
  intro l
  induction l with
  | nil =>
    intro b n h
    rw [List.nil_append, lenB_cons] at h
    have : lenB [] = 0 := rfl
    show cutB [b] n = ([], 0)
    unfold cutB
    rw [if_neg (by omega)]
  | cons a t ih =>
    intro b n h
    rw [List.cons_append, lenB_cons] at h
    show cutB (a :: (t ++ [b])) n = cutB (a :: t) n
    unfold cutB
    by_cases hn : a.length + 6 ≤ n
    · rw [if_pos hn, if_pos hn, ih b _ (by omega)]
    · rw [if_neg hn, if_neg hn]

/-- A box that is spoilt behind its number is none. -/
theorem head_spoilt (b : List UInt8) (a : Nat) (x : List UInt8) (h1 : 1 ≤ b.length) (h2 : b.length ≤ 4096) (ha : a ≤ b.length) (hx : x.length = 4) (h0 : num x ≠ 0) :
    headC (xorL (boxC b) (List.replicate (2 + a) 0 ++ x ++ List.replicate (b.length - a) 0)) = ([], 0, 4) := by
  have hl := boxC_len b
  have h2l := le_len 2 b.length
  have hs := spoilt (le 2 b.length ++ b) (b.length + 2) (2 + a) x (by rw [List.length_append, h2l]; omega) (by omega) hx h0
  rw [show b.length + 2 - (2 + a) = b.length - a by omega] at hs
  change isSeal (xorL (boxC b) (List.replicate (2 + a) 0 ++ x ++ List.replicate (b.length - a) 0)) = false at hs
  have hd : (List.replicate (2 + a) (0 : UInt8) ++ x ++ List.replicate (b.length - a) 0).length = b.length + 6 := by simp [hx]; omega
  have ht2 : (xorL (boxC b) (List.replicate (2 + a) 0 ++ x ++ List.replicate (b.length - a) 0)).take 2 = le 2 b.length := by
    have e1 := (boxC_head b []).1
    rw [List.append_nil] at e1
    unfold xorL
    rw [List.take_zipWith, e1, List.append_assoc, ← List.replicate_append_replicate, List.append_assoc, List.take_left' (by simp)]
    have := xorL_zeros (le 2 b.length)
    unfold xorL at this
    rw [h2l] at this
    exact this
  have hlen : (xorL (boxC b) (List.replicate (2 + a) 0 ++ x ++ List.replicate (b.length - a) 0)).length = b.length + 6 := by rw [xorL_len _ _ (by rw [hl, hd]), hl]
  generalize xorL (boxC b) (List.replicate (2 + a) 0 ++ x ++ List.replicate (b.length - a) 0) = s at hs ht2 hlen
  have hn : nB s = b.length := by
    unfold nB
    rw [ht2, num_le]
    exact Nat.mod_eq_of_lt (by omega)
  unfold headC
  rw [hn, if_neg (by omega), if_neg (by omega), if_neg (by omega), if_neg (by omega), if_neg]
  intro e
  have e2 : s.take (b.length + 6) = s := List.take_of_length_le (by omega)
  rw [e2] at e
  have := isSeal_sealC (le 2 ((s.drop 2).take b.length).length ++ (s.drop 2).take b.length)
  change isSeal (boxC ((s.drop 2).take b.length)) = true at this
  rw [e, hs] at this
  cases this

end Go.Proofs.YthjikbhjciphiaaGreatDoor

/-
  Walks of package real: Pick, the library's Mul64; awake of law05.
-/
namespace Go.Proofs.YthjikbhjciphiaaGreatDoor
open Go.RowKit
set_option linter.unusedVariables false
set_option linter.unusedSimpArgs false

theorem m64_mask (a : Nat) (ha : a < 18446744073709551616) : bits .and .u64 (a : Int) 4294967295 = ((a % 4294967296 : Nat) : Int) := by
  have h := bits_and_u64_nat a 4294967295 ha (by omega)
  have e : a &&& 4294967295 = a % 4294967296 := Nat.and_two_pow_sub_one_eq_mod a 32
  rw [e] at h
  exact h
theorem m64_div (a : Nat) : (a : Int) / 4294967296 = ((a / 4294967296 : Nat) : Int) := by omega
theorem m64_mul (a b : Nat) : (a : Int) * (b : Int) = ((a * b : Nat) : Int) := (Int.natCast_mul a b).symm
theorem m64_add (a b : Nat) : (a : Int) + (b : Int) = ((a + b : Nat) : Int) := (Int.natCast_add a b).symm
theorem m64_wrap (a : Nat) (ha : a < 18446744073709551616) : IntKind.u64.wrap (a : Int) = (a : Int) := by rw [IntKind.wrap_u64]; omega
theorem m64_wrapM (a : Nat) : IntKind.u64.wrap (a : Int) = ((a % 18446744073709551616 : Nat) : Int) := by rw [IntKind.wrap_u64]; omega

set_option maxHeartbeats 1000000 in
theorem mul64_any (x y : Nat) (hx : x < 18446744073709551616) (hy : y < 18446744073709551616) (w : World) :
    Calls Tryz.prog 141 #[.int .u64 x, .int .u64 y] w fun e w' => e = .returned (.tuple #[.int .u64 ((x * y / 18446744073709551616 : Nat) : Int), .int .u64 ((x * y % 18446744073709551616 : Nat) : Int)]) ∧ w = w' := by
  obtain ⟨bd, bt, bw, hhi⟩ := Lib.mul64_hi x y hx hy
  have ba := Lib.half_mul_le (a := x / 4294967296) (b := y / 4294967296) (by omega) (by omega)
  have bb := Lib.half_mul_le (a := x / 4294967296) (b := y % 4294967296) (by omega) (by omega)
  have bc := Lib.half_mul_le (a := x % 4294967296) (b := y / 4294967296) (by omega) (by omega)
  have ba' : x / 4294967296 * (y / 4294967296) < 18446744073709551616 := by omega
  have bb' : x / 4294967296 * (y % 4294967296) < 18446744073709551616 := by omega
  have bc' : x % 4294967296 * (y / 4294967296) < 18446744073709551616 := by omega
  have bh1 : x / 4294967296 * (y / 4294967296) + (x / 4294967296 * (y % 4294967296) + x % 4294967296 * (y % 4294967296) / 4294967296) / 4294967296 < 18446744073709551616 := by omega
  have bh : x / 4294967296 * (y / 4294967296) + (x / 4294967296 * (y % 4294967296) + x % 4294967296 * (y % 4294967296) / 4294967296) / 4294967296 + ((x / 4294967296 * (y % 4294967296) + x % 4294967296 * (y % 4294967296) / 4294967296) % 4294967296 + x % 4294967296 * (y / 4294967296)) / 4294967296 < 18446744073709551616 := by omega
  go_enter Tryz.func141, Tryz.ntmps141
  go_wp2
  simp only [m64_mask x hx, m64_mask y hy, m64_div, m64_mul, m64_add, m64_wrap _ bd, m64_wrap _ bb', m64_wrap _ bt, m64_mask _ bt, m64_wrap _ bc', m64_wrap _ bw, m64_wrap _ ba', m64_wrap _ bh1, m64_wrap _ bh, m64_wrapM (x * y)]
  rw [hhi]
  go_ret2
  exact ⟨rfl, rfl⟩

theorem pick_sum (p : Nat) (h : p < 9007199254740992 * 9223372036854775808) :
    wrap64 (bits .or .u64 (IntKind.u64.wrap ((p : Int) / 18446744073709551616 * 2048)) ((p : Int) % 18446744073709551616 / 9007199254740992)) = ((p / 9007199254740992 : Nat) : Int) := by
  obtain ⟨a, ha⟩ : ∃ a, a = p / 18446744073709551616 := ⟨_, rfl⟩
  obtain ⟨c, hc⟩ : ∃ c, c = p % 18446744073709551616 / 9007199254740992 := ⟨_, rfl⟩
  have hp : p / 9007199254740992 = 2048 * a + c := by omega
  have hc2 : c < 2 ^ 11 := by omega
  have ha2 : a < 4503599627370496 := by omega
  have e1 : IntKind.u64.wrap ((p : Int) / 18446744073709551616 * 2048) = ((2048 * a : Nat) : Int) := by rw [IntKind.wrap_u64]; omega
  have e2 : (p : Int) % 18446744073709551616 / 9007199254740992 = ((c : Nat) : Int) := by omega
  have e3 := Nat.two_pow_add_eq_or_of_lt hc2 a
  have e4 : 2 ^ 11 * a = 2048 * a := rfl
  rw [e4] at e3
  rw [e1, e2, u64_or_nat (2048 * a) c (by omega) (by omega), ← e3, hp]
  clear e1 e2 e3 e4 hp ha hc h
  unfold wrap64
  omega

end Go.Proofs.YthjikbhjciphiaaGreatDoor
