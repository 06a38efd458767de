/-
  Records: which fields a kind has, what is wrong with one, its bytes, what bytes are decoded as. No program stands here.
-/
import Derived.Test.YthjikbhjciphiaaGreatDoorZz17
import Derived.Test.YthjikbhjciphiaaGreatDoorZz4
import Derived.Test.YthjikbhjciphiaaGreatDoorZz1
import Derived.Test.YthjikbhjciphiaaGreatDoorZz6
namespace Go.Proofs.YthjikbhjciphiaaGreatDoor
open Go.RowKit
set_option linter.unusedVariables false
set_option linter.unusedSimpArgs false

/-- A record. -/
structure Rc where
  seq : Nat
  kind : Int
  ten : List UInt8
  lease : Nat
  n : Nat
  bits : Nat
def zeroR : Rc := ⟨0, 0, [], 0, 0, 0⟩
/-- Its numbers are words. -/
def Rc.okay (r : Rc) : Prop := r.seq < 18446744073709551616 ∧ -9223372036854775808 ≤ r.kind ∧ r.kind ≤ 9223372036854775807 ∧ r.lease < 18446744073709551616 ∧ r.n < 18446744073709551616 ∧ r.bits < 18446744073709551616
def Rc.cells (r : Rc) : List Value := [.int .u64 (r.seq : Nat), .int .i64 r.kind, .string ⟨r.ten.toArray⟩, .int .u64 (r.lease : Nat), .int .u64 (r.n : Nat), .int .u64 (r.bits : Nat)]
def isK (k : Int) : Bool := decide (1 ≤ k ∧ k ≤ 5)
def kL (k : Int) : Bool := decide (k = 3 ∨ k = 4)
def kN (k : Int) : Bool := decide (k = 1 ∨ k = 3 ∨ k = 4)
def kB (k : Int) : Bool := decide (k = 2)
def rcRange (r : Rc) : Bool := decide (r.seq ≠ 0) && (!(kL r.kind) || decide (r.lease ≠ 0)) && (decide (r.kind ≠ 3) || decide (r.n ≠ 0))
def rcPriced (r : Rc) : Bool := !(kB r.kind) || decide (cls r.bits = 4 ∨ cls r.bits = 5)
def rcBare (r : Rc) : Bool := (kL r.kind || decide (r.lease = 0)) && (kN r.kind || decide (r.n = 0)) && (kB r.kind || decide (r.bits = 0))
/-- What is wrong with it. -/
def checkC (r : Rc) : Int := if isK r.kind = false then 5 else if tenantB r.ten = false then 7 else if rcRange r = false then 6 else if rcPriced r = false then 13 else if rcBare r = false then 2 else 0
/-- The bytes of a field, if there is one. -/
def fldC (h : Bool) (x : Nat) : List UInt8 := if h then le 8 x else []
/-- Its bytes. -/
def encC (r : Rc) : List UInt8 := le 1 r.kind.toNat ++ (le 8 r.seq ++ (UInt8.ofNat r.ten.length :: (r.ten ++ (fldC (kL r.kind) r.lease ++ (fldC (kN r.kind) r.n ++ fldC (kB r.kind) r.bits)))))

/-- A number read, and what is left. -/
def rdN (s : List UInt8 × Int) (j : Nat) : Nat := num (tk s.1 s.2 j).1
def rdS (s : List UInt8 × Int) (j : Nat) : List UInt8 × Int := (tk s.1 s.2 j).2
def fldN (h : Bool) (s : List UInt8 × Int) : Nat := if h then rdN s 8 else 0
def fldS (h : Bool) (s : List UInt8 × Int) : List UInt8 × Int := if h then rdS s 8 else s
def txT (s : List UInt8 × Int) : List UInt8 := (tx s.1 s.2 1 16).1
def txS (s : List UInt8 × Int) : List UInt8 × Int := (tx s.1 s.2 1 16).2
def decK (l : List UInt8) : Int := ((rdN (l, 0) 1 : Nat) : Int)
def decS0 (l : List UInt8) : List UInt8 × Int := rdS (l, 0) 1
def decS1 (l : List UInt8) : List UInt8 × Int := rdS (decS0 l) 8
def decS2 (l : List UInt8) : List UInt8 × Int := txS (decS1 l)
def decS3 (l : List UInt8) : List UInt8 × Int := fldS (kL (decK l)) (decS2 l)
def decS4 (l : List UInt8) : List UInt8 × Int := fldS (kN (decK l)) (decS3 l)
def decS5 (l : List UInt8) : List UInt8 × Int := fldS (kB (decK l)) (decS4 l)
def decR (l : List UInt8) : Rc := ⟨rdN (decS0 l) 8, decK l, txT (decS1 l), fldN (kL (decK l)) (decS2 l), fldN (kN (decK l)) (decS3 l), fldN (kB (decK l)) (decS4 l)⟩
def decE (l : List UInt8) : Int := doneE (decS5 l).1 (decS5 l).2
/-- What bytes are decoded as, or what is wrong. -/
def decC (l : List UInt8) : Rc × Int := if (decS0 l).2 = 0 ∧ isK (decK l) = false then (zeroR, 5) else if decE l ≠ 0 then (zeroR, decE l) else if checkC (decR l) ≠ 0 then (zeroR, checkC (decR l)) else (decR l, 0)

theorem le_num : ∀ (l : List UInt8) (k : Nat), l.length = k → le k (num l) = l := by
  intro l
  induction l with
  | nil => intro k h; cases h; rfl
  | cons b l ih =>
    intro k h
    cases h
    have hb := b.toNat_lt
    show UInt8.ofNat (b.toNat + 256 * num l) :: le l.length ((b.toNat + 256 * num l) / 256) = _
    rw [show (b.toNat + 256 * num l) / 256 = num l by omega, ih _ rfl]
    congr 1
    apply UInt8.toNat_inj.1
    rw [ofNat_mod]
    omega

theorem rd_err (s : List UInt8 × Int) (j : Nat) (h : s.2 ≠ 0) : rdN s j = 0 ∧ rdS s j = s := by
  unfold rdN rdS tk
  rw [if_pos (Or.inl h)]
  exact ⟨rfl, rfl⟩
theorem rd_short (s : List UInt8 × Int) (j : Nat) (h : s.2 = 0) (hl : s.1.length < j) : rdN s j = 0 ∧ rdS s j = (s.1, 1) := by
  unfold rdN rdS tk
  rw [if_neg (by rw [h]; simp), if_pos (by simpa using hl)]
  exact ⟨rfl, rfl⟩
theorem rd_good (s : List UInt8 × Int) (j : Nat) (h : s.2 = 0) (hl : j ≤ s.1.length) : rdN s j = num (s.1.take j) ∧ rdS s j = (s.1.drop j, 0) := by
  unfold rdN rdS tk
  rw [if_neg (by rw [h]; simp), if_neg (by simp; omega)]
  exact ⟨rfl, by rw [h]; rfl⟩
theorem rd_zero (s : List UInt8 × Int) (j : Nat) (h : (rdS s j).2 = 0) : s.2 = 0 ∧ s.1 = le j (rdN s j) ++ (rdS s j).1 ∧ rdN s j < 256 ^ j := by
  by_cases h0 : s.2 = 0
  · by_cases hl : s.1.length < j
    · rw [(rd_short s j h0 hl).2] at h
      cases h
    · obtain ⟨h1, h2⟩ := rd_good s j h0 (by omega)
      have hlen : (s.1.take j).length = j := by rw [List.length_take]; omega
      have hlt := num_lt (s.1.take j)
      rw [hlen] at hlt
      refine ⟨h0, ?_, by rw [h1]; exact hlt⟩
      rw [h1, h2, le_num _ j hlen, List.take_append_drop]
  · rw [(rd_err s j h0).2] at h
    exact absurd h h0
theorem rd_le (j x : Nat) (b : List UInt8) (hx : x < 256 ^ j) : rdN (le j x ++ b, 0) j = x ∧ rdS (le j x ++ b, 0) j = (b, 0) := by
  have hlen := le_len j x
  obtain ⟨h1, h2⟩ := rd_good (le j x ++ b, 0) j rfl (by simp [hlen])
  rw [h1, h2]
  constructor
  · rw [List.take_left' hlen, num_le]
    exact Nat.mod_eq_of_lt hx
  · rw [List.drop_left' hlen]
theorem fld_err (h : Bool) (s : List UInt8 × Int) (h0 : s.2 ≠ 0) : fldS h s = s := by
  unfold fldS
  split
  · exact (rd_err s 8 h0).2
  · rfl
theorem fld_zero (h : Bool) (s : List UInt8 × Int) (h0 : (fldS h s).2 = 0) : s.2 = 0 ∧ s.1 = fldC h (fldN h s) ++ (fldS h s).1 ∧ fldN h s < 18446744073709551616 := by
  cases h
  · exact ⟨h0, rfl, by show (0 : Nat) < _; decide⟩
  · obtain ⟨h1, h2, h3⟩ := rd_zero s 8 h0
    exact ⟨h1, h2, Nat.lt_of_lt_of_le h3 (by decide)⟩
theorem fld_le (h : Bool) (x : Nat) (b : List UInt8) (hx : x < 18446744073709551616) (h0 : h = false → x = 0) : fldN h (fldC h x ++ b, 0) = x ∧ fldS h (fldC h x ++ b, 0) = (b, 0) := by
  cases h
  · exact ⟨(h0 rfl).symm, rfl⟩
  · exact rd_le 8 x b (Nat.lt_of_lt_of_le hx (by decide))
theorem tx_err (s : List UInt8 × Int) (h : s.2 ≠ 0) : txT s = [] ∧ txS s = s := by
  have ht : tk s.1 s.2 ((1 : Nat) : Int) = ([], s.1, s.2) := by unfold tk; rw [if_pos (Or.inl h)]
  unfold txT txS tx
  rw [ht]
  simp only
  rw [if_pos h]
  exact ⟨rfl, rfl⟩
theorem txs_zero (s : List UInt8 × Int) (h : (txS s).2 = 0) : s.2 = 0 ∧ s.1 = UInt8.ofNat (txT s).length :: (txT s ++ (txS s).1) ∧ (txT s).length ≤ 16 := by
  by_cases h0 : s.2 = 0
  · by_cases hl : s.1.length < 1
    · have ht : tk s.1 s.2 ((1 : Nat) : Int) = ([], s.1, 1) := by unfold tk; rw [if_neg (by rw [h0]; simp), if_pos (by simpa using hl)]
      unfold txS tx at h
      rw [ht] at h
      simp only at h
      rw [if_pos (by decide)] at h
      cases h
    · obtain ⟨b, r, hs⟩ : ∃ b r, s.1 = b :: r := by
        cases hs : s.1 with
        | nil => rw [hs] at hl; simp at hl
        | cons b r => exact ⟨b, r, rfl⟩
      have ht : tk s.1 s.2 ((1 : Nat) : Int) = ([b], r, 0) := by unfold tk; rw [if_neg (by rw [h0]; simp), if_neg (by rw [hs]; simp), hs, h0]; rfl
      have hb := b.toNat_lt
      have hnum : num [b] = b.toNat := by show b.toNat + 256 * 0 = b.toNat; omega
      unfold txS tx at h
      unfold txT txS tx
      rw [ht] at h ⊢
      simp only at h ⊢
      rw [if_neg (by decide), hnum] at h
      rw [if_neg (by decide), hnum]
      by_cases hm : 16 < b.toNat
      · rw [if_pos (by omega)] at h
        cases h
      · rw [if_neg (by omega)] at h
        rw [if_neg (by omega)]
        by_cases hr : r.length < b.toNat
        · have h2 : tk r 0 ((b.toNat : Nat) : Int) = ([], r, 1) := by unfold tk; rw [if_neg (by simp), if_pos (by simpa using hr)]
          rw [h2] at h
          cases h
        · have h2 : tk r 0 ((b.toNat : Nat) : Int) = (r.take b.toNat, r.drop b.toNat, 0) := by unfold tk; rw [if_neg (by simp), if_neg (by simp; omega)]; rfl
          rw [h2]
          simp only
          refine ⟨h0, ?_, by rw [List.length_take]; omega⟩
          rw [hs, List.take_append_drop, List.length_take, Nat.min_eq_left (by omega), UInt8.ofNat_toNat]
  · rw [(tx_err s h0).2] at h
    exact absurd h h0
theorem txs_of (t b : List UInt8) (ht : t.length ≤ 16) : txT (UInt8.ofNat t.length :: (t ++ b), 0) = t ∧ txS (UInt8.ofNat t.length :: (t ++ b), 0) = (b, 0) := by
  have h1 : tk (UInt8.ofNat t.length :: (t ++ b)) 0 ((1 : Nat) : Int) = ([UInt8.ofNat t.length], t ++ b, 0) := by unfold tk; rw [if_neg (by simp), if_neg (by simp)]; rfl
  have hnum : num [UInt8.ofNat t.length] = t.length := by show (UInt8.ofNat t.length).toNat + 256 * 0 = t.length; rw [ofNat_mod]; omega
  have h2 : tk (t ++ b) 0 ((t.length : Nat) : Int) = (t, b, 0) := by unfold tk; rw [if_neg (by simp), if_neg (by simp)]; simp
  unfold txT txS tx
  simp only
  rw [h1]
  simp only
  rw [if_neg (by decide), hnum, if_neg (by omega), h2]
  exact ⟨rfl, rfl⟩

theorem check_parts (r : Rc) (h : checkC r = 0) : isK r.kind = true ∧ tenantB r.ten = true ∧ rcRange r = true ∧ rcPriced r = true ∧ rcBare r = true := by
  unfold checkC at h
  cases h1 : isK r.kind
  · rw [h1] at h; cases h
  cases h2 : tenantB r.ten
  · rw [h1, h2] at h; cases h
  cases h3 : rcRange r
  · rw [h1, h2, h3] at h; cases h
  cases h4 : rcPriced r
  · rw [h1, h2, h3, h4] at h; cases h
  cases h5 : rcBare r
  · rw [h1, h2, h3, h4, h5] at h; cases h
  exact ⟨rfl, rfl, rfl, rfl, rfl⟩
theorem check_of (r : Rc) (h1 : isK r.kind = true) (h2 : tenantB r.ten = true) (h3 : rcRange r = true) (h4 : rcPriced r = true) (h5 : rcBare r = true) : checkC r = 0 := by
  unfold checkC
  rw [h1, h2, h3, h4, h5]
  rfl
theorem check_kind (r : Rc) (h : checkC r = 5) : isK r.kind = false := by
  unfold checkC at h
  cases h1 : isK r.kind
  · rfl
  exfalso
  rw [h1, if_neg (by decide)] at h
  split at h
  · cases h
  split at h
  · cases h
  split at h
  · cases h
  split at h <;> cases h
theorem ten_len (l : List UInt8) (h : tenantB l = true) : 1 ≤ l.length ∧ l.length ≤ 16 := by
  unfold tenantB at h
  simp at h
  omega
theorem bare_parts (r : Rc) (h : rcBare r = true) : (kL r.kind = false → r.lease = 0) ∧ (kN r.kind = false → r.n = 0) ∧ (kB r.kind = false → r.bits = 0) := by
  unfold rcBare at h
  cases h1 : kL r.kind <;> cases h2 : kN r.kind <;> cases h3 : kB r.kind <;> rw [h1, h2, h3] at h <;> simp at h <;> simp_all

/-- Records come back from their bytes. -/
theorem dec_enc (r : Rc) (ho : r.okay) (h : checkC r = 0) : decC (encC r) = (r, 0) := by
  obtain ⟨h1, h2, h3, h4, h5⟩ := check_parts r h
  obtain ⟨b1, b2, b3⟩ := bare_parts r h5
  obtain ⟨o1, _, _, o2, o3, o4⟩ := ho
  have hk : 1 ≤ r.kind ∧ r.kind ≤ 5 := by unfold isK at h1; simpa using h1
  obtain ⟨k, hkk⟩ : ∃ k : Nat, r.kind = (k : Int) := ⟨r.kind.toNat, by omega⟩
  have hkn : r.kind.toNat = k := by omega
  obtain ⟨e1, e2⟩ := rd_le 1 k (le 8 r.seq ++ (UInt8.ofNat r.ten.length :: (r.ten ++ (fldC (kL r.kind) r.lease ++ (fldC (kN r.kind) r.n ++ fldC (kB r.kind) r.bits))))) (by omega)
  have hE : encC r = le 1 k ++ (le 8 r.seq ++ (UInt8.ofNat r.ten.length :: (r.ten ++ (fldC (kL r.kind) r.lease ++ (fldC (kN r.kind) r.n ++ fldC (kB r.kind) r.bits))))) := by unfold encC; rw [hkn]
  have s0 := (congrArg (fun x => rdS (x, 0) 1) hE).trans e2
  change decS0 (encC r) = _ at s0
  have sk : decK (encC r) = r.kind := by unfold decK; rw [hE, e1, hkk]
  obtain ⟨f1, f2⟩ := rd_le 8 r.seq (UInt8.ofNat r.ten.length :: (r.ten ++ (fldC (kL r.kind) r.lease ++ (fldC (kN r.kind) r.n ++ fldC (kB r.kind) r.bits)))) (Nat.lt_of_lt_of_le o1 (by decide))
  have s1 := (congrArg (fun s => rdS s 8) s0).trans f2
  change decS1 (encC r) = _ at s1
  obtain ⟨g1, g2⟩ := txs_of r.ten (fldC (kL r.kind) r.lease ++ (fldC (kN r.kind) r.n ++ fldC (kB r.kind) r.bits)) (ten_len _ h2).2
  have s2 := (congrArg txS s1).trans g2
  change decS2 (encC r) = _ at s2
  obtain ⟨i1, i2⟩ := fld_le (kL r.kind) r.lease (fldC (kN r.kind) r.n ++ fldC (kB r.kind) r.bits) o2 b1
  have s3 := (congrArg (fun k => fldS (kL k) (decS2 (encC r))) sk).trans ((congrArg (fldS (kL r.kind)) s2).trans i2)
  change decS3 (encC r) = _ at s3
  obtain ⟨j1, j2⟩ := fld_le (kN r.kind) r.n (fldC (kB r.kind) r.bits) o3 b2
  have s4 := (congrArg (fun k => fldS (kN k) (decS3 (encC r))) sk).trans ((congrArg (fldS (kN r.kind)) s3).trans j2)
  change decS4 (encC r) = _ at s4
  obtain ⟨k1, k2⟩ := fld_le (kB r.kind) r.bits [] o4 b3
  rw [List.append_nil] at k1 k2
  have s5 := (congrArg (fun k => fldS (kB k) (decS4 (encC r))) sk).trans ((congrArg (fldS (kB r.kind)) s4).trans k2)
  change decS5 (encC r) = _ at s5
  have hR : decR (encC r) = r := by
    unfold decR
    rw [s0, s1, s2, s3, s4, sk, f1, g1, i1, j1, k1]
  have hEE : decE (encC r) = 0 := by unfold decE; rw [s5]; rfl
  unfold decC
  rw [if_neg (by rw [sk, h1]; simp), hEE, if_neg (by decide), hR, h, if_neg (by decide)]

theorem done_zero (l : List UInt8) (e : Int) (h : doneE l e = 0) : e = 0 ∧ l = [] := by
  unfold doneE at h
  split at h
  · cases h
  · rename_i hn
    exact ⟨h, Classical.byContradiction fun hl => hn ⟨h, hl⟩⟩

theorem dec_good (l : List UInt8) (h : decE l = 0) : encC (decR l) = l ∧ (decR l).okay ∧ (decS0 l).2 = 0 := by
  obtain ⟨h5, h6⟩ := done_zero _ _ h
  obtain ⟨a4, b4, c4⟩ := fld_zero (kB (decK l)) (decS4 l) h5
  obtain ⟨a3, b3, c3⟩ := fld_zero (kN (decK l)) (decS3 l) a4
  obtain ⟨a2, b2, c2⟩ := fld_zero (kL (decK l)) (decS2 l) a3
  obtain ⟨a1, b1, c1⟩ := txs_zero (decS1 l) a2
  obtain ⟨a0, b0, c0⟩ := rd_zero (decS0 l) 8 a1
  obtain ⟨_, b, c⟩ := rd_zero (l, 0) 1 a0
  refine ⟨?_, ⟨Nat.lt_of_lt_of_le c0 (by decide), ?_, ?_, c2, c3, c4⟩, a0⟩
  · show le 1 (decK l).toNat ++ (le 8 (rdN (decS0 l) 8) ++ (UInt8.ofNat (txT (decS1 l)).length :: (txT (decS1 l) ++ (fldC (kL (decK l)) (fldN (kL (decK l)) (decS2 l)) ++ (fldC (kN (decK l)) (fldN (kN (decK l)) (decS3 l)) ++ fldC (kB (decK l)) (fldN (kB (decK l)) (decS4 l))))))) = l
    have e5 : (fldS (kB (decK l)) (decS4 l)).1 = [] := h6
    rw [e5, List.append_nil] at b4
    rw [← b4, show (fldS (kN (decK l)) (decS3 l)).1 = (decS4 l).1 from rfl] at *
    rw [show (fldS (kL (decK l)) (decS2 l)).1 = (decS3 l).1 from rfl] at b2
    rw [show (txS (decS1 l)).1 = (decS2 l).1 from rfl] at b1
    rw [show (rdS (decS0 l) 8).1 = (decS1 l).1 from rfl] at b0
    rw [← b3, ← b2, ← b1, ← b0]
    exact b.symm
  · show -9223372036854775808 ≤ ((rdN (l, 0) 1 : Nat) : Int)
    omega
  · show ((rdN (l, 0) 1 : Nat) : Int) ≤ 9223372036854775807
    omega

/-- What is decoded has these bytes. -/
theorem dec_ok (l : List UInt8) (h : (decC l).2 = 0) : checkC (decC l).1 = 0 ∧ encC (decC l).1 = l ∧ (decC l).1.okay := by
  unfold decC at h ⊢
  by_cases h1 : (decS0 l).2 = 0 ∧ isK (decK l) = false
  · rw [if_pos h1] at h; cases h
  rw [if_neg h1] at h ⊢
  by_cases h2 : decE l ≠ 0
  · rw [if_pos h2] at h; exact absurd h h2
  rw [if_neg h2] at h ⊢
  by_cases h3 : checkC (decR l) ≠ 0
  · rw [if_pos h3] at h; exact absurd h h3
  rw [if_neg h3]
  have := dec_good l (Classical.not_not.1 h2)
  exact ⟨Classical.not_not.1 h3, this.1, this.2.1⟩

theorem tk_e (l : List UInt8) (e k : Int) (h : (tk l e k).2.2 ≠ 0) (h0 : e = 0) : (tk l e k).2.2 = 1 := by
  unfold tk at h ⊢
  split
  · rename_i hc
    rw [if_pos hc] at h
    exact absurd h0 h
  · split
    · rfl
    · rename_i h1 h2
      rw [if_neg h1, if_neg h2] at h
      exact absurd h0 h
theorem rd_e (s : List UInt8 × Int) (j : Nat) (h : s.2 = 0 ∨ s.2 = 1 ∨ s.2 = 2) : (rdS s j).2 = 0 ∨ (rdS s j).2 = 1 ∨ (rdS s j).2 = 2 := by
  by_cases h0 : s.2 = 0
  · by_cases hz : (rdS s j).2 = 0
    · exact .inl hz
    · exact .inr (.inl (tk_e s.1 s.2 j hz h0))
  · rw [(rd_err s j h0).2]; exact h
theorem fld_e (b : Bool) (s : List UInt8 × Int) (h : s.2 = 0 ∨ s.2 = 1 ∨ s.2 = 2) : (fldS b s).2 = 0 ∨ (fldS b s).2 = 1 ∨ (fldS b s).2 = 2 := by
  cases b
  · exact h
  · exact rd_e s 8 h
theorem txs_e (s : List UInt8 × Int) (h : s.2 = 0 ∨ s.2 = 1 ∨ s.2 = 2) : (txS s).2 = 0 ∨ (txS s).2 = 1 ∨ (txS s).2 = 2 := by
  unfold txS tx
  simp only
  have h1 := rd_e s 1 h
  unfold rdS at h1
  split
  · exact h1
  · split
    · exact .inr (.inr rfl)
    · rename_i hz _
      exact rd_e (_, _) _ h1
theorem dec_e (l : List UInt8) : decE l = 0 ∨ decE l = 1 ∨ decE l = 2 := by
  have h := fld_e (kB (decK l)) _ (fld_e (kN (decK l)) _ (fld_e (kL (decK l)) _ (txs_e _ (rd_e _ 8 (rd_e (l, 0) 1 (.inl rfl))))))
  unfold decE doneE
  split
  · exact .inr (.inr rfl)
  · exact h

theorem dec_nil : decC [] = (zeroR, 1) := by
  have h0 : decS0 [] = ([], 1) := (rd_short ([], 0) 1 rfl (by decide)).2
  have h1 : decS1 [] = ([], 1) := by unfold decS1; rw [h0]; exact (rd_err _ 8 (by decide)).2
  have h2 : decS2 [] = ([], 1) := by unfold decS2; rw [h1]; exact (tx_err _ (by decide)).2
  have h3 : decS3 [] = ([], 1) := by unfold decS3; rw [h2]; exact fld_err _ _ (by decide)
  have h4 : decS4 [] = ([], 1) := by unfold decS4; rw [h3]; exact fld_err _ _ (by decide)
  have h5 : decS5 [] = ([], 1) := by unfold decS5; rw [h4]; exact fld_err _ _ (by decide)
  have hE : decE [] = 1 := by unfold decE; rw [h5]; rfl
  unfold decC
  rw [h0, if_neg (by simp), hE, if_pos (by decide)]
theorem dec_first (b : UInt8) (l : List UInt8) : decK (b :: l) = ((b.toNat : Nat) : Int) ∧ (decS0 (b :: l)).2 = 0 := by
  obtain ⟨h1, h2⟩ := rd_good (b :: l, 0) 1 rfl (by simp)
  constructor
  · unfold decK
    rw [h1]
    show ((b.toNat + 256 * 0 : Nat) : Int) = _
    rw [Nat.mul_zero, Nat.add_zero]
  · unfold decS0; rw [h2]
/-- What is wrong with bytes. -/
theorem dec_bad (l : List UInt8) (h : (decC l).2 ≠ 0) : (decC l).1 = zeroR ∧ ((decC l).2 = 5 ↔ ∃ b r, l = b :: r ∧ (b.toNat < 1 ∨ 5 < b.toNat)) ∧ (l = [] → (decC l).2 = 1) := by
  refine ⟨?_, ?_, fun e => by rw [e, dec_nil]⟩
  · unfold decC at h ⊢
    split
    · rfl
    · split
      · rfl
      · split
        · rfl
        · rename_i h1 h2 h3
          rw [if_neg h1, if_neg h2, if_neg h3] at h
          exact absurd rfl h
  · cases l with
    | nil =>
      rw [dec_nil]
      constructor
      · intro h; cases h
      · rintro ⟨b, r, h, _⟩; cases h
    | cons b r =>
      obtain ⟨hk, hs⟩ := dec_first b r
      have hK : isK (decK (b :: r)) = false ↔ b.toNat < 1 ∨ 5 < b.toNat := by
        rw [hk]; unfold isK; rw [decide_eq_false_iff_not]; omega
      constructor
      · intro h5
        refine ⟨b, r, rfl, hK.1 ?_⟩
        cases hc : isK (decK (b :: r))
        · rfl
        exfalso
        unfold decC at h5
        rw [if_neg (by rw [hc]; simp)] at h5
        have he := dec_e (b :: r)
        by_cases h2 : decE (b :: r) ≠ 0
        · rw [if_pos h2] at h5
          simp only at h5
          omega
        rw [if_neg h2] at h5
        by_cases h3 : checkC (decR (b :: r)) ≠ 0
        · rw [if_pos h3] at h5
          have := check_kind _ h5
          have h4 : (decR (b :: r)).kind = decK (b :: r) := rfl
          rw [h4, hc] at this
          cases this
        · rw [if_neg h3] at h5
          cases h5
      · rintro ⟨b2, r2, h2, h3⟩
        cases h2
        unfold decC
        rw [if_pos ⟨hs, hK.2 h3⟩]

end Go.Proofs.YthjikbhjciphiaaGreatDoor

/-
  Records in segments: what bytes are a record's, the records of segments, segments that are torn. No program stands here.
-/
namespace Go.Proofs.YthjikbhjciphiaaGreatDoor
open Go.RowKit
set_option linter.unusedVariables false
set_option linter.unusedSimpArgs false

/-- A field, if there is one, and what is left. -/
def pf (h : Bool) (r : List UInt8) : Nat × List UInt8 := if h = true ∧ 8 ≤ r.length then (num (r.take 8), r.drop 8) else (0, r)
def tnB (b : List UInt8) : Nat := (b.getD 9 0).toNat
/-- Bytes taken apart as a record's. -/
def recP (b : List UInt8) : Rc :=
  ⟨num ((b.drop 1).take 8), (((b.getD 0 0).toNat : Nat) : Int), (b.drop 10).take (tnB b),
    (pf (kL ((b.getD 0 0).toNat : Nat)) (b.drop (10 + tnB b))).1,
    (pf (kN ((b.getD 0 0).toNat : Nat)) (pf (kL ((b.getD 0 0).toNat : Nat)) (b.drop (10 + tnB b))).2).1,
    (pf (kB ((b.getD 0 0).toNat : Nat)) (pf (kN ((b.getD 0 0).toNat : Nat)) (pf (kL ((b.getD 0 0).toNat : Nat)) (b.drop (10 + tnB b))).2).2).1⟩

theorem pf_lt (h : Bool) (r : List UInt8) : (pf h r).1 < 18446744073709551616 := by
  unfold pf
  split
  · have h1 := num_lt (r.take 8)
    have h2 : (r.take 8).length ≤ 8 := by rw [List.length_take]; omega
    exact Nat.lt_of_lt_of_le h1 (Nat.le_trans (Nat.pow_le_pow_right (by decide) h2) (by decide))
  · show (0 : Nat) < _
    decide
theorem pf_fld (h : Bool) (x : Nat) (t : List UInt8) (hx : x < 18446744073709551616) (h0 : h = false → x = 0) (hh : 8 ≤ t.length → h = false → True) : h = true ∨ x = 0 → pf h (fldC h x ++ t) = (x, t) := by
  intro _
  cases h with
  | true =>
    unfold pf fldC
    rw [if_pos rfl, if_pos ⟨rfl, by rw [List.length_append, le_len]; omega⟩, List.take_left' (le_len 8 x), List.drop_left' (le_len 8 x), num_le]
    rw [Nat.mod_eq_of_lt hx]
  | false =>
    unfold pf fldC
    rw [if_neg (by simp), if_neg (by simp), h0 rfl]
    rfl
theorem pf_no (h : Bool) (r : List UInt8) (e : (h && decide (8 ≤ r.length)) = false) : pf h r = (0, r) := by
  unfold pf
  rw [if_neg]
  rintro ⟨rfl, h8⟩
  rw [decide_eq_true h8] at e
  cases e
theorem pf_yes (h : Bool) (r : List UInt8) (e : (h && decide (8 ≤ r.length)) = true) : pf h r = (num (r.take 8), r.drop 8) := by
  unfold pf
  rw [if_pos]
  have := Bool.and_eq_true_iff.1 e
  exact ⟨this.1, of_decide_eq_true this.2⟩
theorem recP_okay (b : List UInt8) : (recP b).okay := by
  have h1 := num_lt ((b.drop 1).take 8)
  have h2 : ((b.drop 1).take 8).length ≤ 8 := by rw [List.length_take]; omega
  have hb := (b.getD 0 0).toNat_lt
  exact ⟨Nat.lt_of_lt_of_le h1 (Nat.le_trans (Nat.pow_le_pow_right (by decide) h2) (by decide)), by show (-9223372036854775808 : Int) ≤ (((b.getD 0 0).toNat : Nat) : Int); omega, by show (((b.getD 0 0).toNat : Nat) : Int) ≤ 9223372036854775807; omega, pf_lt _ _, pf_lt _ _, pf_lt _ _⟩
theorem recP_enc (r : Rc) (ho : r.okay) (h : checkC r = 0) : recP (encC r) = r ∧ tnB (encC r) = r.ten.length ∧ 10 + r.ten.length ≤ (encC r).length := by
  obtain ⟨hk, ht, _, _, hb⟩ := check_parts r h
  obtain ⟨hb1, hb2, hb3⟩ := bare_parts r hb
  have htl := (ten_len _ ht).2
  have hk' : 1 ≤ r.kind ∧ r.kind ≤ 5 := of_decide_eq_true hk
  obtain ⟨hs, _, _, hl, hn, hbb⟩ := ho
  obtain ⟨kn, hkn⟩ := Int.eq_ofNat_of_zero_le (show 0 ≤ r.kind by omega)
  have l8 := le_len 8 r.seq
  obtain ⟨rest, hrest⟩ : ∃ x, fldC (kL r.kind) r.lease ++ (fldC (kN r.kind) r.n ++ fldC (kB r.kind) r.bits) = x := ⟨_, rfl⟩
  have e : encC r = UInt8.ofNat kn :: (le 8 r.seq ++ (UInt8.ofNat r.ten.length :: (r.ten ++ rest))) := by
    unfold encC
    rw [hrest, hkn]
    rfl
  have g0 : (encC r).getD 0 0 = UInt8.ofNat kn := by rw [e]; rfl
  have d1 : (encC r).drop 1 = le 8 r.seq ++ (UInt8.ofNat r.ten.length :: (r.ten ++ rest)) := by rw [e]; rfl
  have d9 : (encC r).drop 9 = UInt8.ofNat r.ten.length :: (r.ten ++ rest) := by
    have : (encC r).drop 9 = ((encC r).drop 1).drop 8 := by rw [List.drop_drop]
    rw [this, d1, List.drop_left' l8]
  have g9 : (encC r).getD 9 0 = UInt8.ofNat r.ten.length := by
    have : (encC r)[9]? = ((encC r).drop 9)[0]? := by rw [List.getElem?_drop]
    rw [List.getD_eq_getElem?_getD, this, d9]
    rfl
  have ht9 : tnB (encC r) = r.ten.length := by
    unfold tnB
    rw [g9, UInt8.toNat_ofNat']
    omega
  have d10 : (encC r).drop 10 = r.ten ++ rest := by
    have : (encC r).drop 10 = ((encC r).drop 9).drop 1 := by rw [List.drop_drop]
    rw [this, d9]
    rfl
  have dr : (encC r).drop (10 + r.ten.length) = rest := by
    have : (encC r).drop (10 + r.ten.length) = ((encC r).drop 10).drop r.ten.length := by rw [List.drop_drop]
    rw [this, d10, List.drop_left' rfl]
  have hkk : (((UInt8.ofNat kn).toNat : Nat) : Int) = r.kind := by rw [UInt8.toNat_ofNat', hkn]; omega
  have fix : ∀ (h : Bool) (x : Nat) (t : List UInt8), x < 18446744073709551616 → (h = false → x = 0) → pf h (fldC h x ++ t) = (x, t) := fun h x t hx h0 =>
    pf_fld h x t hx h0 (fun _ _ => trivial) (by cases h; exact .inr (h0 rfl); exact .inl rfl)
  have p1 := fix (kL r.kind) r.lease (fldC (kN r.kind) r.n ++ fldC (kB r.kind) r.bits) hl hb1
  have p2 := fix (kN r.kind) r.n (fldC (kB r.kind) r.bits) hn hb2
  have p3 := fix (kB r.kind) r.bits [] hbb hb3
  rw [List.append_nil] at p3
  refine ⟨?_, ht9, ?_⟩
  · unfold recP
    rw [ht9, g0, hkk, d1, d10, dr, ← hrest, p1, p2, p3, List.take_left' l8, List.take_left' rfl, num_le, Nat.mod_eq_of_lt (by exact hs)]
  · have : (encC r).length = 1 + (8 + (1 + (r.ten.length + rest.length))) := by
      rw [e]
      simp [le_len]
      omega
    omega
theorem enc_len (r : Rc) : (encC r).length ≤ 34 + r.ten.length := by
  have hf : ∀ (h : Bool) (x : Nat), (fldC h x).length ≤ 8 := by
    intro h x
    unfold fldC
    split
    · rw [le_len]; exact Nat.le_refl _
    · exact Nat.zero_le _
  have h1 := hf (kL r.kind) r.lease
  have h2 := hf (kN r.kind) r.n
  have h3 := hf (kB r.kind) r.bits
  unfold encC
  simp only [List.length_append, List.length_cons, le_len]
  omega
/-- Which bytes are a record's. -/
def recOk (b : List UInt8) : Bool := decide (10 ≤ b.length ∧ 10 + tnB b ≤ b.length ∧ checkC (recP b) = 0 ∧ encC (recP b) = b)
theorem rec_dec (b : List UInt8) : recOk b = decide ((decC b).2 = 0) ∧ (recOk b = true → (decC b).1 = recP b) := by
  have key : recOk b = true → decC b = (recP b, 0) := by
    intro h
    obtain ⟨_, _, h1, h2⟩ : _ ∧ _ ∧ _ ∧ _ := of_decide_eq_true h
    have := dec_enc (recP b) (recP_okay b) h1
    rwa [h2] at this
  have back : (decC b).2 = 0 → recOk b = true := by
    intro h
    obtain ⟨h1, h2, h3⟩ := dec_ok b h
    obtain ⟨q1, q2, q3⟩ := recP_enc _ h3 h1
    rw [h2] at q1 q2 q3
    unfold recOk
    rw [q1]
    exact decide_eq_true ⟨by omega, by omega, h1, h2⟩
  refine ⟨?_, fun h => by rw [key h]⟩
  cases h : recOk b
  · rw [decide_eq_false]
    intro e
    rw [back e] at h
    cases h
  · rw [key h]
    rfl

/-- The number that is awaited behind these. -/
def awaits (out : List Rc) (r : Rc) : Bool := match out.getLast? with
  | none => true
  | some q => decide (r.seq = (q.seq + 1) % 18446744073709551616)
/-- The records of boxes, behind others. -/
def takeR (out : List Rc) : List (List UInt8) → List Rc
  | [] => out
  | b :: bs => if recOk b = true ∧ awaits out (recP b) = true then takeR (out ++ [recP b]) bs else out
/-- The records of segments. -/
def segsR (out : List Rc) (l : List (List UInt8)) : List Rc := l.foldl (fun o s => takeR o (validC s).1) out

end Go.Proofs.YthjikbhjciphiaaGreatDoor

/-
  The reference's answers: is a text a tenant's, a target's name?
-/
namespace Go.Proofs.YthjikbhjciphiaaGreatDoor
open Go.RowKit
set_option linter.unusedVariables false
set_option linter.unusedSimpArgs false

set_option maxRecDepth 100000 in
set_option maxHeartbeats 2000000 in
theorem refTenant_any (s : ByteArray) (hs : s.size ≤ 10000) (W : World) :
    Calls Tryz.prog 55 #[.string s] W fun e W' => e = .returned (.bool (tenantB s.data.toList)) ∧ W' = W := by
  have hlen : s.data.toList.length = s.size := by simp
  have HT : Hid (tenantB s.data.toList = (decide (1 ≤ s.size) && decide (s.size ≤ 16) && (allR letR (s.data.toList.take 1) && allR tenR s.data.toList))) := Lib.hid (by unfold tenantB; rw [hlen])
  have hon := fun w => refOnly_any s tenT hs (by decide) w
  rw [allIn_ten] at hon
  clear hlen
  go_enter Tryz.func55, Tryz.ntmps55
  by_cases h1 : 1 ≤ s.size
  · have d1 : decide ((1 : Int) ≤ (s.size : Int)) = true := decide_eq_true (by omega)
    by_cases h16 : s.size ≤ 16
    · have d2 : decide ((s.size : Int) ≤ 16) = true := decide_eq_true (by omega)
      have H2 : Hid (tenantB s.data.toList = (allR letR (s.data.toList.take 1) && allR tenR s.data.toList)) := Lib.hid (by rw [HT.out, decide_eq_true h1, decide_eq_true h16]; rfl)
      have hby := byte_at s 0 h1
      obtain ⟨x, hx⟩ : ∃ x, s[0]'h1 = x := ⟨_, rfl⟩
      rw [hx] at hby
      have hl1 : allR letR (s.data.toList.take 1) = letR ((x.toNat : Nat) : Int) := by
        rw [allR_take letR _ 0 x hby]
        simp [allR]
      rw [hl1] at H2
      clear HT hl1 hby
      go_wp2_with fail
      refine (hon _).mono ?_
      rintro e W1 ⟨rfl, rfl⟩
      cases hq : allR tenR s.data.toList
      · rw [hq, Bool.and_false] at H2
        clear hq hon
        go_wp2_with fail
        go_ret
        exact ⟨by rw [H2.out]; rfl, rfl⟩
      · rw [hq, Bool.and_true] at H2
        clear hq hon
        by_cases h97 : (97 : Int) ≤ ((x.toNat : Nat) : Int)
        · have d3 : decide ((97 : Int) ≤ ((x.toNat : Nat) : Int)) = true := decide_eq_true h97
          go_wp2_with fail
          go_ret
          exact ⟨by rw [H2.out]; simp [letR, h97], rfl⟩
        · have d3 : decide ((97 : Int) ≤ ((x.toNat : Nat) : Int)) = false := decide_eq_false h97
          go_wp2_with fail
          go_ret
          exact ⟨by rw [H2.out]; simp [letR] <;> omega, rfl⟩
    · have d2 : decide ((s.size : Int) ≤ 16) = false := decide_eq_false (by omega)
      have H2 : Hid (tenantB s.data.toList = false) := Lib.hid (by rw [HT.out, decide_eq_false h16, Bool.and_false, Bool.false_and])
      clear HT hon
      go_wp2_with fail
      go_ret
      exact ⟨by rw [H2.out]; rfl, rfl⟩
  · have d1 : decide ((1 : Int) ≤ (s.size : Int)) = false := decide_eq_false (by omega)
    have H2 : Hid (tenantB s.data.toList = false) := Lib.hid (by rw [HT.out, decide_eq_false h1]; rfl)
    clear HT hon
    go_wp2_with fail
    go_ret
    exact ⟨by rw [H2.out]; rfl, rfl⟩

theorem ten_of_tar (z : Int) (h : tarR z = true) : tenR z = (decide (z ≠ 46) && decide (z ≠ 58)) := by
  unfold tarR at h
  cases ht : tenR z
  · rw [ht, Bool.false_or, Bool.or_eq_true, decide_eq_true_eq, decide_eq_true_eq] at h
    rcases h with h | h <;> simp [h]
  · have h1 : z ≠ 46 := by rintro rfl; revert ht; decide
    have h2 : z ≠ 58 := by rintro rfl; revert ht; decide
    simp [h1, h2]

end Go.Proofs.YthjikbhjciphiaaGreatDoor
