/-
  What is spoilt is no seal. No program stands here.
-/
import Derived.Test.YtgococpbhbcpmaaDoorCrcSealsWalk
namespace Go.Proofs.YtgococpbhbcpmaaDoor
open Go.RowKit
set_option linter.unusedVariables false
set_option linter.unusedSimpArgs false

theorem xor_cancel {p a b : Nat} (h : p ^^^ a = p ^^^ b) : a = b := by
  have h2 : p ^^^ (p ^^^ a) = p ^^^ (p ^^^ b) := by rw [h]
  simpa [← Nat.xor_assoc] using h2
theorem isSeal_any (e : List UInt8) (n : Nat) (h : e.length = n + 4) : isSeal e = decide (num (e.drop n) = crcSum (e.take n)) := by
  unfold isSeal
  rw [h, show n + 4 - 4 = n by omega, decide_eq_true (show 4 ≤ n + 4 by omega), Bool.true_and]
theorem crcSum_xor (l : List UInt8) : crcSum l = crcReg 4294967295 l ^^^ 4294967295 := by
  unfold crcSum
  rw [sub_xor _ (crcReg_lt l (by decide))]
theorem xorL_len (s d : List UInt8) (h : s.length = d.length) : (xorL s d).length = s.length := by unfold xorL; rw [List.length_zipWith, ← h, Nat.min_self]
theorem spoilt (l : List UInt8) (n a : Nat) (x : List UInt8) (hn : l.length = n) (ha : a ≤ n) (hx : x.length = 4) (h0 : num x ≠ 0) :
    isSeal (xorL (sealC l) (List.replicate a 0 ++ x ++ List.replicate (n - a) 0)) = false := by
  have hd : (List.replicate a (0 : UInt8) ++ x ++ List.replicate (n - a) 0).length = n + 4 := by simp [hx]; omega
  have hb := burst a n x hx h0 ha _ rfl
  generalize List.replicate a (0 : UInt8) ++ x ++ List.replicate (n - a) 0 = d at hd hb ⊢
  have hs : (sealC l).length = n + 4 := by rw [sealC_len, hn]
  have he : (xorL (sealC l) d).length = n + 4 := by rw [xorL_len _ _ (by rw [hs, hd]), hs]
  rw [isSeal_any _ n he]
  have h1 : (xorL (sealC l) d).take n = xorL l (d.take n) := by
    unfold xorL
    rw [List.take_zipWith]
    congr 1
    have := sealC_take l
    rwa [hn] at this
  have h2 : (xorL (sealC l) d).drop n = xorL (le 4 (crcSum l)) (d.drop n) := by
    unfold xorL
    rw [List.drop_zipWith]
    congr 1
    have := sealC_drop l
    rwa [hn] at this
  have hdt : (d.take n).length = n := by rw [List.length_take, hd]; omega
  have hdd : (d.drop n).length = 4 := by rw [List.length_drop, hd]; omega
  rw [h1, h2, num_xor _ _ (by rw [le_len, hdd]), num_le4 _ (crcSum_le l), decide_eq_false_iff_not]
  intro e
  apply hb
  have hc := crcReg_xor l (d.take n) 4294967295 0 (by rw [hn, hdt])
  rw [Nat.xor_zero] at hc
  rw [crcSum_xor, crcSum_xor, hc] at e
  have e2 : (crcReg 4294967295 l ^^^ 4294967295) ^^^ num (d.drop n) = (crcReg 4294967295 l ^^^ 4294967295) ^^^ crcReg 0 (d.take n) := by
    rw [e, Nat.xor_assoc, Nat.xor_assoc, Nat.xor_comm 4294967295]
  exact (xor_cancel e2).symm

/-- The loop's steps. -/
def sp (s : List UInt8) (a : Nat) (x : List UInt8) : Nat → List UInt8
  | 0 => s
  | k + 1 => (sp s a x k).set (a + k) ((sp s a x k).getD (a + k) 0 ^^^ x.getD k 0)
theorem sp_len (s : List UInt8) (a : Nat) (x : List UInt8) (k : Nat) : (sp s a x k).length = s.length := by
  induction k with
  | zero => rfl
  | succ k ih => simp [sp, ih]
theorem xorL_zeros (p : List UInt8) : xorL p (List.replicate p.length 0) = p := by
  unfold xorL
  induction p with
  | nil => rfl
  | cons b p ih => rw [List.length_cons, List.replicate_succ, List.zipWith_cons_cons, ih]; simp
theorem list4u (l : List UInt8) (h : l.length = 4) : ∃ a b c d, l = [a, b, c, d] := by
  match l, h with
  | [a, b, c, d], _ => exact ⟨a, b, c, d, rfl⟩
theorem sp_four (s : List UInt8) (a n : Nat) (x : List UInt8) (hs : s.length = n + 4) (ha : a ≤ n) (hx : x.length = 4) :
    sp s a x 4 = xorL s (List.replicate a 0 ++ x ++ List.replicate (n - a) 0) := by
  obtain ⟨x0, x1, x2, x3, rfl⟩ := list4u x hx
  have h1 : s = s.take a ++ (s.drop a).take 4 ++ (s.drop a).drop 4 := by rw [List.append_assoc, List.take_append_drop, List.take_append_drop]
  obtain ⟨y0, y1, y2, y3, hy⟩ := list4u ((s.drop a).take 4) (by rw [List.length_take, List.length_drop, hs]; omega)
  have hp : (s.take a).length = a := by rw [List.length_take, hs]; omega
  have hq : ((s.drop a).drop 4).length = n - a := by rw [List.length_drop, List.length_drop, hs]; omega
  rw [hy] at h1
  generalize s.take a = p at h1 hp
  generalize (s.drop a).drop 4 = q at h1 hq
  clear hy
  subst h1
  subst hp
  have hz : xorL (p ++ [y0, y1, y2, y3] ++ q) (List.replicate p.length 0 ++ [x0, x1, x2, x3] ++ List.replicate (n - p.length) 0) = p ++ [y0 ^^^ x0, y1 ^^^ x1, y2 ^^^ x2, y3 ^^^ x3] ++ q := by
    unfold xorL
    rw [List.zipWith_append (by simp), List.zipWith_append (by simp)]
    have e1 := xorL_zeros p
    have e2 := xorL_zeros q
    unfold xorL at e1 e2
    rw [hq] at e2
    rw [e1, e2]
    rfl
  rw [hz]
  simp [sp, List.getD_eq_getElem?_getD, List.set_append]

end Go.Proofs.YtgococpbhbcpmaaDoor
