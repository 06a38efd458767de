/-
  The program's disk: a file's bytes, a file cut off, a disk made.
-/
import Derived.Test.YtnjkilmhphcocaaDpB
import Derived.BigRegion
import Derived.Carry
namespace Go.Proofs.Ytnjkilmhphcocaa
open Go.RowKit
set_option linter.unusedVariables false
set_option linter.unusedSimpArgs false

theorem Try.infoByte : (Try.prog.info? 5).map (fun i => (i.zero, i.size, i.bytes)) = some (some (.int .u8 0), 1, 1) := by kernel_rfl

set_option maxRecDepth 100000 in
set_option maxHeartbeats 2000000 in
theorem pbytes_any (x : FM) (W : World) (h : x.at_ W) (hl : x.f.data.length ≤ 100000) :
    Calls Try.prog 34 #[.pointer (some ⟨x.g, 0, none⟩)] W fun e W' => ∃ v, e = .returned v ∧ W'.ownsRow W.heap.size 5 1 v x.f.data.length (x.f.data.map bv) ∧ Below W.heap.size W W' := by
  have hB := FM.byt h
  have hF := FM.form h
  have c0 : W.cell? ⟨x.g, 0, none⟩ = some (.slice x.A x.f.data.length x.c) := h.1.cell 0
  obtain ⟨f, g, A, c⟩ := x
  dsimp only at hB hF c0 hl ⊢
  obtain ⟨l, hl2⟩ : ∃ l, f.data = l := ⟨_, rfl⟩
  rw [hl2] at hB hF c0 hl ⊢
  obtain ⟨n, hn⟩ : ∃ n, l.length = n := ⟨_, rfl⟩
  rw [hn] at hB hF c0 hl ⊢
  obtain ⟨i0, hi0, hz0, hz1, hz2⟩ := info_parts Try.infoByte
  clear h hl2 hn
  go_enter Try.func34, Try.ntmps34
  go_wp2_with (at_builtin; refine wpList_append_byt W rfl _ _ 34 rfl W.heap.size 5 i0 (.int .u8 0) Try.underlying34 hi0 hz0 hz1 hz2 rfl _ 0 [] rfl (World.ownsRow_nil _ _ _ _) W.heap.size A n c l rfl hB (fun e => (hF.1 e).2) (by omega) (Nat.le_refl _) ?_)
  intro v' w' hown hgr
  have hb : Below W.heap.size W w' := (Below.refl _ W).grown hgr (Nat.le_refl _) (fun q hq => by cases hq)
  have HO := Lib.hid hown
  clear hown hgr c0
  go_wp2
  go_ret
  exact ⟨v', rfl, by simpa using HO.out, hb⟩

/-- A file cut off. -/
def FM.cut (keep : Int) (x : FM) : FM := ⟨cutF keep x.f, x.g, x.A, x.c⟩
theorem FM.cut_blks (keep : Int) (x : FM) (k : Nat) : (x.cut keep).blks k ↔ x.blks k := Iff.rfl

theorem own_take {w : World} {base : Nat} {e : TypeId} {A : Option Addr} {n c : Nat} {xs : List Value} (h : w.ownsRow base e 1 (.slice A n c) n xs) (m : Nat) (hm : m ≤ n) : w.ownsRow base e 1 (.slice A m c) m (xs.take m) := by
  rcases h with ⟨h1, h2⟩
  refine ⟨by rw [List.length_take]; omega, ?_⟩
  rcases h2 with ⟨h2, h3⟩ | ⟨g, cap, cur, hv, hg, hh, hn, hc, hz, ht⟩
  · injection h2 with e1 e2 e3
    subst e1 e2 e3
    exact .inl ⟨by rw [show m = 0 by omega], by omega⟩
  · injection hv with e1 e2 e3
    subst e1 e3
    refine .inr ⟨g, c, cur, rfl, hg, hh, by omega, hc, hz, ?_⟩
    rw [← ht, Nat.mul_one, Nat.mul_one, List.take_take, Nat.min_eq_left hm]

set_option maxRecDepth 100000 in
set_option maxHeartbeats 2000000 in
theorem pcut_any (x : FM) (W : World) (keep : Int) (h : x.at_ W) (hl : x.f.data.length ≤ 100000) (hs : x.f.sure ≤ x.f.data.length) (hsep : ∀ a, x.A = some a → a.block ≠ x.g) :
    Calls Try.prog 37 #[.pointer (some ⟨x.g, 0, none⟩), .int .i64 keep] W fun e W' => e = .returned (.tuple #[]) ∧ (x.cut keep).at_ W' ∧ Turn (fun k => k = x.g) W W' := by
  have HH := Lib.hid h
  have HSep := Lib.hid hsep
  clear hsep
  have hF := FM.form h
  have c0 : W.cell? ⟨x.g, 0, none⟩ = some (.slice x.A x.f.data.length x.c) := h.1.cell 0
  have c1 : W.cell? ⟨x.g, 1, none⟩ = some (.int .i64 ((x.f.sure : Nat) : Int)) := h.1.cell 1
  have z0 := h.1.frozen 0
  have z1 := h.1.frozen 1
  obtain ⟨R, hR⟩ : ∃ R, leftF keep x.f = R := ⟨_, rfl⟩
  have HR := Lib.hid hR
  unfold leftF at hR
  obtain ⟨g, hg⟩ : ∃ g, x.g = g := ⟨_, rfl⟩
  obtain ⟨A, hA⟩ : ∃ A, x.A = A := ⟨_, rfl⟩
  obtain ⟨c, hc⟩ : ∃ c, x.c = c := ⟨_, rfl⟩
  obtain ⟨n, hn⟩ : ∃ n, x.f.data.length = n := ⟨_, rfl⟩
  obtain ⟨s, hs2⟩ : ∃ s, x.f.sure = s := ⟨_, rfl⟩
  rw [hg, hA, hc, hn] at c0
  rw [hg, hs2] at c1
  rw [hg] at z0 z1
  rw [hn, hs2] at hs hR
  rw [hA, hc, hn] at hF
  rw [hn] at hl
  rw [hg]
  have HX := Lib.hid (And.intro hg (And.intro hA (And.intro hc (And.intro hn hs2))))
  clear h hg hA hc hn hs2
  obtain ⟨K, hK⟩ : ∃ K, keep.toNat = K := ⟨_, rfl⟩
  rw [hK] at hR
  have hmx : (if keep < 0 then 0 else keep) = (K : Int) := by split <;> omega
  obtain ⟨D, hD⟩ : ∃ D, n - s = D := ⟨_, rfl⟩
  have hsub : (n : Int) - (s : Int) = (D : Int) := by omega
  obtain ⟨M, hM⟩ : ∃ M, min K D = M := ⟨_, rfl⟩
  have hmn : (if (D : Int) < (K : Int) then (D : Int) else (K : Int)) = (M : Int) := by split <;> omega
  have hmn2 : (if D < K then (D : Int) else (K : Int)) = (M : Int) := by split <;> omega
  have hadd : (s : Int) + (M : Int) = (R : Int) := by omega
  have hRn : R ≤ n := by omega
  clear hK hD hM hR
  go_enter Try.func37, Try.ntmps37
  go_wp2_with fail
  go_region
  have ht1 : Turn (fun k => k = g) W (W.setCell ⟨g, 1, none⟩ (.int .i64 (R : Int))).drew := ((Turn.refl (fun k => k = g) W).setCell (p := ⟨g, 1, none⟩) rfl _).drewN 1
  have hB1 : Blk (W.setCell ⟨g, 1, none⟩ (.int .i64 (R : Int))).drew g 71 [.slice A n c, .int .i64 (R : Int)] := by
    obtain ⟨e1, e2, e3, e4, e5⟩ := HX.out
    have := HH.out.1.set 1 (.int .i64 (R : Int))
    rw [e1, e2, e3, e4] at this
    exact this.drew
  have HT := Lib.hid ht1
  have HB1 := Lib.hid hB1
  have y0 := hB1.cell 0
  have y1 := hB1.cell 1
  have yz := hB1.frozen 0
  dsimp only [List.getElem?_cons_zero, List.getElem?_cons_succ] at y0 y1
  revert y0 y1 yz HT HB1
  generalize (W.setCell ⟨g, 1, none⟩ (.int .i64 (R : Int))).drew = w1
  intro HT HB1 y0 y1 yz
  have i0 : (0 : Int) ≤ (R : Int) := by omega
  have i1 : R ≤ c := by omega
  clear ht1 hB1 c0 c1 z0 z1 hmx hsub hmn hadd
  go_wp2_with fail
  go_region
  go_wp2_with fail
  go_end0
  obtain ⟨e1, e2, e3, e4, e5⟩ := HX.out
  have hB2 := (HB1.out.set 0 (.slice A R c)).drew
  have ht2 : Turn (fun k => k = g) w1 (w1.setCell ⟨g, 0, none⟩ (.slice A R c)).drew := ((Turn.refl (fun k => k = g) w1).setCell (p := ⟨g, 0, none⟩) rfl _).drewN 1
  have ht := HT.out.trans ht2
  have hlen : (x.cut keep).f.data.length = R := by
    show (x.f.data.take (leftF keep x.f)).length = R
    rw [List.length_take, HR.out, e4]
    omega
  refine ⟨rfl, ⟨?_, ?_⟩, ht⟩
  · show Blk _ x.g _ [.slice x.A (x.cut keep).f.data.length x.c, .int .i64 ((leftF keep x.f : Nat) : Int)]
    rw [hlen, HR.out, e1, e2, e3]
    exact hB2
  · rw [hlen]
    show World.ownsRow _ 0 _ 1 (.slice x.A R x.c) R ((x.f.data.take (leftF keep x.f)).map bv)
    rw [HR.out, List.map_take]
    exact own_take (own_turn HH.out.2 ht fun a ha => by rw [← e1]; exact HSep.out a ha) R (by rw [e4]; exact hRn)

set_option maxRecDepth 100000 in
set_option maxHeartbeats 2000000 in
theorem pnew_any (W : World) (cap : Int) (hcap : cap < 9223372036854775808) :
    Calls Try.prog 8 #[.int .i64 cap] W fun e W' => ∃ q S, e = .returned (.pointer (some ⟨q, 0, none⟩)) ∧ PD W' S q (newD cap) ∧ (∀ k, S k → W.heap.size ≤ k) ∧ Below W.heap.size W W' := by
  obtain ⟨M, hM⟩ : ∃ M : Int, max cap 0 = M := ⟨_, rfl⟩
  have hmx : (if cap < 0 then 0 else cap) = M := by rw [← hM]; split <;> omega
  have HM := Lib.hid hM
  have hmk := run_makeMap (P := Try.prog) 57 W
  clear hM
  go_enter Try.func8, Try.ntmps8
  go_wp2_with fail
  go_ret
  refine ⟨_, fun k => k = W.heap.size ∨ k = W.heap.size + 1, rfl, ⟨W.heap.size, 0, 0, [], fun _ => none, ?_⟩, fun k hk => by omega, ((Below.refl _ W).alloc (Nat.le_refl _) _).alloc (by simp) _⟩
  have hB : Blk ((W.alloc (.map #[] 0)).alloc (.cells #[.int .i64 M, .map (some W.heap.size), .int .u64 0, .bool false, .int .u64 0, .int .i64 0, .bool false] 61)) (W.alloc (.map #[] 0)).heap.size 61 (dpL (newD cap) W.heap.size 0 0) := by
    refine Blk.new _ _ _ ?_
    unfold dpL newD
    rw [HM.out]
    rfl
  have hs : (W.alloc (.map #[] 0)).heap.size = W.heap.size + 1 := by simp
  rw [hs] at hB
  refine ⟨hB, fun h => (by cases h), by omega, (MapS.made W Try.prog 9).alloc _, ⟨fun s => rfl, fun s => rfl⟩, fun s x h => (by cases h), ⟨fun s x k h => (by cases h), fun s t x y k _ h => (by cases h), fun s x a h => (by cases h)⟩, List.Pairwise.nil, by omega, .inr rfl, .inl rfl, fun k hk => ?_⟩
  simp
  omega

end Go.Proofs.Ytnjkilmhphcocaa
