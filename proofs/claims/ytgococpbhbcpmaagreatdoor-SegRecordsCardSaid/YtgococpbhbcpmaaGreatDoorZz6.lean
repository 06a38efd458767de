/-
  The reference of boxes: a box; the box at a place.
-/
import Derived.Test.YtgococpbhbcpmaaGreatDoorZz4
import Derived.Test.YtgococpbhbcpmaaGreatDoorZz5
import Derived.BigRegion
import Derived.Deep.RegionWith
import Derived.Deep.RegionHeld3
import Derived.Deep.CutRange
import Derived.BigQuiet
namespace Go.Proofs.YtgococpbhbcpmaaGreatDoor
open Go.RowKit
set_option linter.unusedVariables false
set_option linter.unusedSimpArgs false

set_option maxRecDepth 100000 in
set_option maxHeartbeats 1000000 in
theorem refBox_any (B : Nat) (A : Option Addr) (n c : Nat) (l : List UInt8) (W : World) (hl : Byt W B A n l) (hB : B ≤ W.heap.size) (hnil : A = none → c = 0) (hn : n ≤ 60000) :
    Calls Tryz.prog 21 #[.slice A n c] W fun e W' => ∃ v, e = .returned v ∧ W'.ownsRow W.heap.size 5 1 v (n + 6) ((boxC l).map bv) ∧ Below W.heap.size W W' := by
  obtain ⟨i0, hi, hz0, hz1, hz2⟩ := info_parts Tryz.info5
  have hw : IntKind.u64.wrap (n : Int) = (n : Int) := by rw [IntKind.wrap_u64]; omega
  have HL := Lib.hid hl.1
  go_enter Tryz.func21, Tryz.ntmps21
  go_wp2_with fail
  refine (bytes_any 2 n (by omega) (by decide) _).mono ?_
  rintro e w1 ⟨v1, rfl, ho1, hb1⟩
  simp only [show (2 : Int).toNat = 2 from rfl] at ho1
  have hl1 := (hl.more hB).below hb1
  go_wp2_with (at_builtin; refine wpList_append_byt _ rfl _ _ 26 rfl W.heap.size 5 i0 (.int .u8 0) Tryz.underlying26 hi hz0 hz1 hz2 rfl _ _ _ rfl ho1 W.heap.size A n c l rfl hl1 hnil (by omega) hb1.size ?_; intro v2 w2 ho2 hg2; have hb2 := hb1.grown hg2 hb1.size (fun q hq => (ho1.lt q hq).1); obtain ⟨A2, c2, rfl, h1, h2, h3⟩ := own_form ho2; clear hg2)
  have hx2 : Byt w2 w2.heap.size A2 (2 + n) (le 2 n ++ l) := Byt.of_own (by rw [List.map_append]; exact ho2)
  obtain ⟨m, hm⟩ : ∃ m, 2 + n = m := ⟨_, rfl⟩
  rw [hm] at hx2 h1 h2 ⊢
  have HM := Lib.hid hm
  clear hm
  refine (refSeal_any w2.heap.size A2 m c2 _ _ hx2 (Nat.le_refl _) (fun h => (h1 h).2) (by have := HM.out; omega)).mono ?_
  rintro e w3 ⟨v3, rfl, ho3, hb3⟩
  go_wp2_with fail
  go_ret
  refine ⟨_, rfl, ?_, bthen hb2 hb3⟩
  have h4 := own_mono ho3 hb2.size
  rw [show m + 4 = n + 6 by have := HM.out; omega] at h4
  have : sealC (le 2 n ++ l) = boxC l := by unfold boxC; rw [HL.out]
  rw [← this]
  exact h4

/-- A piece of a slice of bytes. -/
theorem Byt.piece {w : World} {B n c : Nat} {A : Option Addr} {l : List UInt8} (h : Byt w B A n l) (a k : Nat) (hk : a + k ≤ n) (hc : n ≤ c) :
    Byt w B (if c = a then A else A.map (·.add a)) k ((l.drop a).take k) :=
  (h.cut (k := a) (by omega) hc).take (by omega)

theorem next_head (l : List UInt8) (a : Nat) (h : a ≤ l.length) (k : Int) (hk : k ≠ 0) (hh : headC (l.drop a) = ([], 0, k)) : nextC l (a : Int) = ([], 0, k) := by
  unfold nextC
  rw [if_neg (by omega), Int.toNat_natCast, hh]
  simp only
  rw [if_neg hk]
theorem next_short (l : List UInt8) (a : Nat) (h : a ≤ l.length) (h2 : l.length < a + 2) : nextC l (a : Int) = ([], 0, 1) :=
  next_head l a h 1 (by decide) (by unfold headC; rw [if_pos (by rw [List.length_drop]; omega)])
theorem next_of (l : List UInt8) (a : Nat) (h2 : a + 2 ≤ l.length) : nextC l (a : Int) = (if nB (l.drop a) = 0 then ([], 0, 2) else if 4096 < nB (l.drop a) then ([], 0, 3) else if l.length < a + (nB (l.drop a) + 6) then ([], 0, 1)
    else if boxC ((l.drop (a + 2)).take (nB (l.drop a))) = (l.drop a).take (nB (l.drop a) + 6) then ((l.drop (a + 2)).take (nB (l.drop a)), a + (nB (l.drop a) + 6), 0) else ([], 0, 4)) := by
  have hd : (l.drop a).length = l.length - a := List.length_drop
  have h20 : ¬ (l.drop a).length < 2 := by omega
  by_cases h0 : nB (l.drop a) = 0
  · rw [if_pos h0]
    exact next_head l a (by omega) 2 (by decide) (by unfold headC; rw [if_neg h20, if_pos h0])
  by_cases h3 : 4096 < nB (l.drop a)
  · rw [if_neg h0, if_pos h3]
    exact next_head l a (by omega) 3 (by decide) (by unfold headC; rw [if_neg h20, if_neg h0, if_pos h3])
  by_cases h4 : l.length < a + (nB (l.drop a) + 6)
  · rw [if_neg h0, if_neg h3, if_pos h4]
    exact next_head l a (by omega) 1 (by decide) (by unfold headC; rw [if_neg h20, if_neg h0, if_neg h3, if_pos (by omega)])
  rw [if_neg h0, if_neg h3, if_neg h4]
  have h5 : ¬ (l.drop a).length < nB (l.drop a) + 6 := by omega
  by_cases hb : boxC ((l.drop (a + 2)).take (nB (l.drop a))) = (l.drop a).take (nB (l.drop a) + 6)
  · rw [if_pos hb]
    have hh : headC (l.drop a) = ((l.drop (a + 2)).take (nB (l.drop a)), nB (l.drop a) + 6, 0) := by
      unfold headC; rw [if_neg h20, if_neg h0, if_neg h3, if_neg h5, List.drop_drop, if_pos hb]
    unfold nextC
    rw [if_neg (by omega), Int.toNat_natCast, hh]
    rfl
  · rw [if_neg hb]
    exact next_head l a (by omega) 4 (by decide) (by unfold headC; rw [if_neg h20, if_neg h0, if_neg h3, if_neg h5, List.drop_drop, if_neg hb])
theorem nB_at (l : List UInt8) (a : Nat) (x y : UInt8) (hx : l[a]? = some x) (hy : l[a + 1]? = some y) : nB (l.drop a) = x.toNat + 256 * y.toNat := by
  obtain ⟨h1, e1⟩ := List.getElem?_eq_some_iff.1 hx
  obtain ⟨h2, e2⟩ := List.getElem?_eq_some_iff.1 hy
  unfold nB
  rw [List.drop_eq_getElem_cons h1, List.drop_eq_getElem_cons h2, e1, e2]
  show x.toNat + 256 * (y.toNat + 256 * 0) = _
  omega

/-- What Next tells. -/
def NextPost (W : World) (B : Nat) (r : List UInt8 × Nat × Int) (e : Ending) (W' : World) : Prop :=
  ∃ A m c, e = .returned (.tuple #[.slice A m c, .int .i64 ((r.2.1 : Nat) : Int), .int .i64 r.2.2]) ∧ Byt W' B A m r.1 ∧ (A = none → c = 0) ∧ m ≤ c ∧ c ≤ maxLen ∧ Below W.heap.size W W'
theorem NextPost.bad {W W' : World} {B : Nat} {k : Int} {r : List UInt8 × Nat × Int} {e : Ending} (hr : r = ([], 0, k)) (he : e = .returned (.tuple #[.slice none 0 0, .int .i64 0, .int .i64 k])) (h : Below W.heap.size W W') : NextPost W B r e W' := by
  subst hr he
  exact ⟨none, 0, 0, rfl, Byt.nil, fun _ => rfl, Nat.le_refl _, Nat.zero_le _, h⟩

set_option maxRecDepth 100000 in
set_option maxHeartbeats 2000000 in
theorem refNext_at (B : Nat) (A : Option Addr) (n c : Nat) (l : List UInt8) (a : Nat) (W : World) (hl : Byt W B A n l) (hB : B ≤ W.heap.size) (hnil : A = none → c = 0) (hnc : n ≤ c) (hcm : c ≤ maxLen) (hn : n ≤ 1000000000) (ha : a ≤ n) :
    Calls Tryz.prog 47 #[.slice A n c, .int .i64 a] W (NextPost W B (nextC l (a : Int))) := by
  unfold maxLen at hcm
  have hln := hl.1
  have hna : ((n : Int) - (a : Int)) = ((n - a : Nat) : Int) := by omega
  have h0a : ¬ ((a : Int) < 0) := by omega
  have h0n : ¬ ((n : Int) < (a : Int)) := by omega
  by_cases h2 : n < a + 2
  · have HN := Lib.hid (next_short l a (by omega) (by omega))
    have hs : ((n - a : Nat) : Int) < 2 := by omega
    go_enter Tryz.func47, Tryz.ntmps47
    go_wp2
    go_ret3
    exact NextPost.bad HN.out rfl (Below.refl _ _)
  have HN := Lib.hid (next_of l a (by omega))
  have hs : ¬ ((n - a : Nat) : Int) < 2 := by omega
  obtain ⟨b, o, rfl, hbB, hc⟩ := hl.2 (by omega)
  obtain ⟨x, hx⟩ : ∃ x, l[a]? = some x := ⟨_, List.getElem?_eq_getElem (by omega)⟩
  obtain ⟨y, hy⟩ : ∃ y, l[a + 1]? = some y := ⟨_, List.getElem?_eq_getElem (by omega)⟩
  have z0 := hc a x hx
  have z1 := hc (a + 1) y hy
  have HB := Lib.hid (nB_at l a x y hx hy)
  have hX := x.toNat_lt
  have hY := y.toNat_lt
  obtain ⟨X, hXX⟩ : ∃ X, x.toNat = X := ⟨_, rfl⟩
  obtain ⟨Y, hYY⟩ : ∃ Y, y.toNat = Y := ⟨_, rfl⟩
  obtain ⟨N, hN⟩ : ∃ N, nB (l.drop a) = N := ⟨_, rfl⟩
  rw [hXX] at z0 hX
  rw [hYY] at z1 hY
  have hNe : (X : Int) + 256 * (Y : Int) = (N : Int) := by have := HB.out; rw [hN, hXX, hYY] at this; omega
  have hNl := nB_le (l.drop a)
  rw [hN] at HN hNl
  have hla : (a : Int) + 1 < (n : Int) := by omega
  have hla0 : (a : Int) < (n : Int) := by omega
  clear hx hy hXX hYY hN HB hc hln
  go_enter Tryz.func47, Tryz.ntmps47
  go_wp2_with fail
  go_region
  by_cases h0 : N = 0
  · subst h0
    have HN2 := Lib.hid (show nextC l (a : Int) = ([], 0, 2) by rw [HN.out, if_pos rfl])
    clear HN
    go_wp2
    go_ret3
    exact NextPost.bad HN2.out rfl (below_drew (Below.refl _ _))
  have h0' : ((N : Int) == 0) = false := by simp; omega
  by_cases h3 : 4096 < N
  · have HN2 := Lib.hid (show nextC l (a : Int) = ([], 0, 3) by rw [HN.out, if_neg h0, if_pos h3])
    have h3' : (4096 : Int) < (N : Int) := by omega
    clear HN h0 h3
    go_wp2
    go_ret3
    exact NextPost.bad HN2.out rfl (below_drew (Below.refl _ _))
  have h3' : ¬ (4096 : Int) < (N : Int) := by omega
  by_cases h4 : n < a + (N + 6)
  · have HN2 := Lib.hid (show nextC l (a : Int) = ([], 0, 1) by rw [HN.out, if_neg h0, if_neg h3, if_pos (by rw [hl.1]; exact h4)])
    have h4' : ((n - a : Nat) : Int) - 2 < (N : Int) + 4 := by omega
    clear HN h0 h3 h4
    go_wp2
    go_ret3
    exact NextPost.bad HN2.out rfl (below_drew (Below.refl _ _))
  have h4' : ¬ ((n - a : Nat) : Int) - 2 < (N : Int) + 4 := by omega
  obtain ⟨P, hP⟩ : ∃ P, a + 2 = P := ⟨_, rfl⟩
  obtain ⟨Q, hQ⟩ : ∃ Q, a + 2 + N = Q := ⟨_, rfl⟩
  obtain ⟨R, hR⟩ : ∃ R, a + 6 = R := ⟨_, rfl⟩
  obtain ⟨T, hTT⟩ : ∃ T, a + 6 + N = T := ⟨_, rfl⟩
  have e1 : (a : Int) + 2 = (P : Int) := by omega
  have e2 : (P : Int) + (N : Int) = (Q : Int) := by omega
  have e3 : (a : Int) + 6 = (R : Int) := by omega
  have e4 : (R : Int) + (N : Int) = (T : Int) := by omega
  have hpc : Byt W B (some ⟨b, o + P, none⟩) N ((l.drop P).take N) := by
    have := hl.piece P N (by omega) hnc
    rw [if_neg (by omega)] at this
    simpa [Addr.add_lit] using this
  have hwh : Byt W B (some ⟨b, o + a, none⟩) (N + 6) ((l.drop a).take (N + 6)) := by
    have := hl.piece a (N + 6) (by omega) hnc
    rw [if_neg (by omega)] at this
    simpa [Addr.add_lit] using this
  rw [hP] at HN
  have f1 : P ≤ Q := by omega
  have f2 : Q ≤ c := by omega
  have f3 : a ≤ T := by omega
  have f4 : T ≤ c := by omega
  have f5 : Q - P = N := by omega
  have f6 : T - a = N + 6 := by omega
  have f7 : ¬ c = P := by omega
  have g1 : (a : Int) ≤ (T : Int) := by omega
  have u1 : IntKind.i64.wrap (R : Int) = (R : Int) := by rw [IntKind.wrap_i64]; omega
  have u2 : IntKind.i64.wrap (T : Int) = (T : Int) := by rw [IntKind.wrap_i64]; omega
  have g2 : (T : Int) ≤ (c : Int) := by omega
  have f8 : ¬ c = a := by omega
  have HP := Lib.hid (And.intro hpc hwh)
  have HT := Lib.hid (show a + (N + 6) = T by omega)
  clear hP hQ hR hTT hpc hwh hNe hna hX hY z0 z1
  go_wp2_with fail
  have hbox := fun w hw => refBox_any B (some ⟨b, o + P, none⟩) N (c - P) ((l.drop P).take N) w hw
  go_region_held3 (fun _ => True) (trivial)
    ((first
      | (go_at_call 21; refine (hbox _ (by exact HP.out.1) (by simpa using hB) (fun h => by cases h) (by omega)).mono ?_; rintro e w1 ⟨v1, rfl, ho1, hb1⟩; obtain ⟨A1, c1, rfl, q1, q2, q3⟩ := own_form ho1; have hx1 := Byt.of_own ho1; have hb2 : Below W.heap.size W w1 := ⟨hb1.os, hb1.tape, hb1.output, hb1.size, hb1.block⟩; have hp2 := (HP.out.2.below (hb2.mono hB)).more (B' := w1.heap.size) (by have := hb2.size; omega))
      | (go_at_call 8; refine (same_any _ _ _ _ _ _ _ _ w1.heap.size _ hx1 hp2 (by omega)).mono ?_; rintro e w2 ⟨rfl, r2, rfl⟩)))
  all_goals
    by_cases hq : boxC ((l.drop P).take N) = (l.drop a).take (N + 6)
    · rw [decide_eq_true hq]
      have HN2 := Lib.hid (show nextC l (a : Int) = ((l.drop P).take N, T, 0) by rw [HN.out, if_neg h0, if_neg h3, if_neg (by rw [hl.1]; exact h4), if_pos hq, HT.out])
      clear HN hq h0 h3 h4
      go_wp2_with fail
      go_ret3
      rw [HN2.out]
      exact ⟨_, _, _, rfl, (HP.out.1.below (hb2.mono hB)).drewN _, (fun h => by cases h), by omega, by unfold maxLen; omega, below_drewN hb2 _⟩
    · rw [decide_eq_false hq]
      have HN2 := Lib.hid (show nextC l (a : Int) = ([], 0, 4) by rw [HN.out, if_neg h0, if_neg h3, if_neg (by rw [hl.1]; exact h4), if_neg hq])
      clear HN hq h0 h3 h4
      go_wp2_with fail
      go_ret3
      exact NextPost.bad HN2.out rfl (below_drewN hb2 _)

theorem refNext_any (B : Nat) (A : Option Addr) (n c : Nat) (l : List UInt8) (a : Int) (W : World) (hl : Byt W B A n l) (hB : B ≤ W.heap.size) (hnil : A = none → c = 0) (hnc : n ≤ c) (hcm : c ≤ maxLen) (hn : n ≤ 1000000000) :
    Calls Tryz.prog 47 #[.slice A n c, .int .i64 a] W (NextPost W B (nextC l a)) := by
  have hln := hl.1
  by_cases h0 : a < 0
  · have HN := Lib.hid (show nextC l a = ([], 0, 6) by unfold nextC; rw [if_pos (.inl h0)])
    go_enter Tryz.func47, Tryz.ntmps47
    go_wp2
    go_ret3
    exact NextPost.bad HN.out rfl (Below.refl _ _)
  by_cases h1 : (n : Int) < a
  · have HN := Lib.hid (show nextC l a = ([], 0, 6) by unfold nextC; rw [if_pos (.inr (by rw [hln]; exact h1))])
    clear hln
    go_enter Tryz.func47, Tryz.ntmps47
    go_wp2
    go_ret3
    exact NextPost.bad HN.out rfl (Below.refl _ _)
  obtain ⟨k, rfl⟩ := Int.eq_ofNat_of_zero_le (show 0 ≤ a by omega)
  exact refNext_at B A n c l k W hl hB hnil hnc hcm hn (by omega)

end Go.Proofs.YtgococpbhbcpmaaGreatDoor

/-
  The reference of boxes: all from the beginning on; whether two lists of bytes are the same.
-/
namespace Go.Proofs.YtgococpbhbcpmaaGreatDoor
open Go.RowKit
set_option linter.unusedVariables false
set_option linter.unusedSimpArgs false

theorem Tryz.infoBs : (Tryz.prog.info? 26).map (fun i => (i.zero, i.size, i.bytes)) = some (some (.slice none 0 0), 1, 24) := by kernel_rfl

/-- Lists of bytes as structs of one part. -/
def bts (l : List (List UInt8)) : List (List Prt) := l.map fun b => [.byt b]
theorem bts_len (l : List (List UInt8)) : (bts l).length = l.length := List.length_map ..
theorem bts_snoc (l : List (List UInt8)) (b : List UInt8) : bts (l ++ [b]) = bts l ++ [[.byt b]] := by unfold bts; simp
theorem bts_one (l : List (List UInt8)) : ∀ f ∈ bts l, f.length = 1 := by
  intro f hf
  obtain ⟨b, _, rfl⟩ := List.mem_map.1 hf
  rfl
/-- The slice value '.slice A n c' reads as these lists of bytes. -/
def Lst (w : World) (S : Nat → Prop) (A : Option Addr) (n : Nat) (l : List (List UInt8)) : Prop := Sls w S 1 A n (bts l)
theorem Lst.at_ {w : World} {S : Nat → Prop} {A : Option Addr} {n : Nat} {l : List (List UInt8)} (h : Lst w S A n l) {j : Nat} {b : List UInt8} (hj : l[j]? = some b) :
    ∃ g o A2 n2 c2, A = some ⟨g, o, none⟩ ∧ ¬ S g ∧ g < w.heap.size ∧ w.cell? ⟨g, o + j, none⟩ = some (.slice A2 n2 c2) ∧ BytS w S A2 n2 b ∧ (A2 = none → n2 = 0 ∧ c2 = 0) ∧ n2 ≤ c2 ∧ c2 ≤ maxLen := by
  have hj' : (bts l)[j]? = some [.byt b] := by unfold bts; rw [List.getElem?_map, hj]; rfl
  obtain ⟨g, o, ys, e, hs, hl, hp, _, hc⟩ := Sls.at_ h hj'
  obtain ⟨v, r, rfl, ⟨A2, n2, c2, rfl, h2⟩, hr⟩ := hp
  refine ⟨g, o, A2, n2, c2, e, hs, hl, ?_, h2⟩
  have := hc 0 _ rfl
  rwa [Nat.mul_one, Nat.add_zero] at this

theorem next_go (l : List UInt8) (a : Nat) (h : a ≤ l.length) (h0 : (headC (l.drop a)).2.2 = 0) : nextC l (a : Int) = ((headC (l.drop a)).1, a + (headC (l.drop a)).2.1, 0) := by
  unfold nextC
  rw [if_neg (by omega), Int.toNat_natCast, if_pos h0]
theorem next_no (l : List UInt8) (a : Nat) (h : a ≤ l.length) (h0 : (headC (l.drop a)).2.2 ≠ 0) : nextC l (a : Int) = ([], 0, (headC (l.drop a)).2.2) := by
  unfold nextC
  rw [if_neg (by omega), Int.toNat_natCast, if_neg h0]

/-- What is kept while boxes are gone through. -/
def ValI (B : Nat) (W : World) (l : List UInt8) (v i : Value) (wr : World) : Prop :=
  ∃ (a : Nat) (gs : List (List UInt8)) (xs : List Value), i = .int .i64 a ∧ a ≤ l.length ∧ gs.length ≤ a ∧ wr.ownsRow W.heap.size 26 1 v (bts gs).length xs ∧ PrtsV wr (fun k => B ≤ k) xs (bts gs).flatten ∧ Below W.heap.size W wr ∧
    validC l = (gs ++ (validC (l.drop a)).1, a + (validC (l.drop a)).2)

set_option maxRecDepth 100000 in
set_option maxHeartbeats 2000000 in
theorem refValid_off (B : Nat) (A : Option Addr) (n c : Nat) (l : List UInt8) (W : World) (hl : Byt W B A n l) (hB : B ≤ W.heap.size) (hnil : A = none → c = 0) (hnc : n ≤ c) (hcm : c ≤ maxLen) (hn : n ≤ 1000000) :
    Calls Tryz.prog 25 #[.slice A n c] W fun e W' => ∃ A' k c', e = .returned (.tuple #[.slice A' k c', .int .i64 ((validC l).2 : Nat)]) ∧ Lst W' (fun j => B ≤ j ∧ j < W.heap.size) A' k (validC l).1 ∧ Below W.heap.size W W' := by
  obtain ⟨i0, hi, hz0, hz1, hz2⟩ := info_parts Tryz.infoBs
  have HLN := Lib.hid hl.1
  go_enter Tryz.func25, Tryz.ntmps25
  go_wp2_with fail
  go_loopw [4, 5] (fun v i wr => ValI B W l v i wr) (fun _ i _ => n - (intOf i).toNat)
  case atStart => exact ⟨0, [], [], rfl, Nat.zero_le _, Nat.le_refl _, World.ownsRow_nil _ _ _ _, rfl, Below.refl _ _, by simp⟩
  case round =>
    obtain ⟨a, gs, xs, rfl, ha, hga, hown, hx, hb, hV⟩ := hrel
    have hlb := hl.below (hb.mono hB)
    have hBr : B ≤ wr.heap.size := Nat.le_trans hB hb.size
    by_cases h0 : (headC (l.drop a)).2.2 = 0
    · obtain ⟨s1, s2, s3, s4⟩ := head_size _ h0
      rw [List.length_drop] at s2
      have hN := refNext_any B A n c l (a : Int) wr hlb hBr hnil hnc hcm (by omega)
      rw [next_go l a ha h0] at hN
      have hV2 := valid_go _ h0
      rw [List.drop_drop] at hV2
      obtain ⟨sz, hsz⟩ : ∃ z, (headC (l.drop a)).2.1 = z := ⟨_, rfl⟩
      obtain ⟨bd, hbd⟩ : ∃ z, (headC (l.drop a)).1 = z := ⟨_, rfl⟩
      rw [hsz, hbd] at hN hV2
      rw [hsz] at s1 s2 s3 s4
      rw [hV2] at hV
      have hln := HLN.out
      have HV := Lib.hid (show validC l = ((gs ++ [bd]) ++ (validC (l.drop (a + sz))).1, a + sz + (validC (l.drop (a + sz))).2) by rw [hV]; simp [Nat.add_assoc])
      obtain ⟨a2, ha2⟩ : ∃ z, a + sz = z := ⟨_, rfl⟩
      rw [ha2] at hN HV
      have HA := Lib.hid (show a < a2 ∧ a2 ≤ n by omega)
      clear hV hV2 h0 hsz hbd s1 s2 s3 s4 ha2 hln
      unfold NextPost at hN
      have HO := Lib.hid (And.intro hown (And.intro hx hb))
      clear hown hx hb hlb
      go_wp2_with fail
      refine hN.mono ?_
      rintro e w1 ⟨A1, m1, c1, rfl, hb1, hn1, hm1, hc1, hbel⟩
      obtain ⟨hown, hx, hb⟩ := HO.out
      have hown1 := own_below hown hbel
      have hx1 := hx.side (fun k hk => Nat.le_trans hB hk) hb (hb.trans (hbel.mono hb.size))
      have hbW := hb.trans (hbel.mono hb.size)
      have hbs := hbW.size
      have hv1 : PrtsV w1 (fun k => B ≤ k) [.slice A1 m1 c1] [.byt bd] := ⟨_, _, rfl, ⟨A1, m1, c1, rfl, hb1.off (fun k hk => hk), fun h => ⟨by have := hn1 h; omega, hn1 h⟩, hm1, hc1⟩, rfl⟩
      have hgn : (bts gs).length ≤ 1000000 := by have := HLN.out; rw [bts_len]; omega
      clear hown hx hb hbel
      go_wp2_with (at_builtin; refine wpList_append_prt 26 rfl _ _ 22 rfl 26 i0 _ 1 24 Tryz.underlying22 hi hz0 hz1 hz2 rfl (by decide) (by decide) _ (bts gs) xs rfl hown1 hx1 hbW hbs (fun k hk => Nat.le_trans hB hk) [.slice A1 m1 c1] [.byt bd] hv1 rfl rfl hgn ?_; intro v4 w4 h4; have HR := Lib.hid h4; clear h4)
      go_roundw
      case rel =>
        obtain ⟨r1, r2, r3, _⟩ := HR.out
        rw [← bts_snoc] at r1 r2
        exact ⟨a2, gs ++ [bd], _, rfl, by have := HLN.out; have := HA.out; omega, by have := HA.out; simp; omega, r1, r2, r3, HV.out⟩
      case measure => have := HA.out; simp [intOf]; omega
    · have hN := refNext_any B A n c l (a : Int) wr hlb hBr hnil hnc hcm (by omega)
      rw [next_no l a ha h0] at hN
      have hV2 := valid_stop _ h0
      rw [hV2] at hV
      obtain ⟨k, hk⟩ : ∃ z, (headC (l.drop a)).2.2 = z := ⟨_, rfl⟩
      rw [hk] at hN h0
      have hq : (k != 0) = true := by simpa using h0
      have HV := Lib.hid (show validC l = (gs, a) by rw [hV]; simp)
      clear hV hV2 hk h0
      unfold NextPost at hN
      have HO := Lib.hid (And.intro hown (And.intro hx hb))
      clear hown hx hb hlb
      go_wp2_with fail
      refine hN.mono ?_
      rintro e w1 ⟨A1, m1, c1, rfl, hb1, hn1, hm1, hc1, hbel⟩
      go_wp2_with fail
      go_ret2
      obtain ⟨hown, hx, hb⟩ := HO.out
      have hown1 := own_below hown hbel
      have hx1 := (hx.side (fun k hk => Nat.le_trans hB hk) hb (hb.trans (hbel.mono hb.size))).less (S' := fun j => B ≤ j ∧ j < W.heap.size) (fun k h => h.1)
      rcases hown1.2 with ⟨rfl, h⟩ | ⟨g, cap, cur, rfl, _⟩
      · refine ⟨none, 0, 0, by rw [HV.out]; rfl, ?_, hb.trans (hbel.mono hb.size)⟩
        rw [HV.out]
        have hg : gs = [] := by rw [bts_len] at h; exact List.eq_nil_of_length_eq_zero h
        rw [hg]
        exact Sls.nil
      · refine ⟨_, (bts gs).length, _, by rw [HV.out]; rfl, ?_, hb.trans (hbel.mono hb.size)⟩
        rw [HV.out]
        exact Sls.of_own hown1 hx1 (bts_one gs) rfl (fun k h => .inl h.2)

theorem refValid_any (B : Nat) (A : Option Addr) (n c : Nat) (l : List UInt8) (W : World) (hl : Byt W B A n l) (hB : B ≤ W.heap.size) (hnil : A = none → c = 0) (hnc : n ≤ c) (hcm : c ≤ maxLen) (hn : n ≤ 1000000) :
    Calls Tryz.prog 25 #[.slice A n c] W fun e W' => ∃ A' k c', e = .returned (.tuple #[.slice A' k c', .int .i64 ((validC l).2 : Nat)]) ∧ Lst W' (fun _ => False) A' k (validC l).1 ∧ Below W.heap.size W W' :=
  (refValid_off B A n c l W hl hB hnil hnc hcm hn).mono fun e W' ⟨A', k, c', h1, h2, h3⟩ => ⟨A', k, c', h1, Sls.less h2 (fun _ h => h.elim), h3⟩

end Go.Proofs.YtgococpbhbcpmaaGreatDoor

/-
  The reference of boxes: two lists of bytes that are the same.
-/
namespace Go.Proofs.YtgococpbhbcpmaaGreatDoor
open Go.RowKit
set_option linter.unusedVariables false
set_option linter.unusedSimpArgs false

theorem Lst.turn {w w' : World} {S : Nat → Prop} {A : Option Addr} {n : Nat} {l : List (List UInt8)} (h : Lst w S A n l) (ht : Turn S w w') : Lst w' S A n l := Sls.turn h ht
theorem Lst.below {w w' : World} {A : Option Addr} {n : Nat} {l : List (List UInt8)} (h : Lst w (fun _ => False) A n l) (hb : Below w.heap.size w w') : Lst w' (fun _ => False) A n l := Sls.turn h (Turn.of_below hb)
theorem Lst.len {w : World} {S : Nat → Prop} {A : Option Addr} {n : Nat} {l : List (List UInt8)} (h : Lst w S A n l) : l.length = n := by have := h.1; rwa [bts_len] at this

end Go.Proofs.YtgococpbhbcpmaaGreatDoor

/-
  The statements of boxes by the program's contracts: awake, BoxPuts, BoxNexts.
-/
namespace Go.Proofs.YtgococpbhbcpmaaGreatDoor
open Go.RowKit
set_option linter.unusedVariables false
set_option linter.unusedSimpArgs false

/-- What Put answers. -/
def putE (x : List UInt8) : Int := if x.length = 0 then 2 else if 4096 < x.length then 3 else 0
def putB (b x : List UInt8) : List UInt8 := if putE x = 0 then b ++ boxC x else []
def sizeB (n : Int) : Int := if 1 ≤ n ∧ n ≤ 4096 then n + 6 else 0
def PutPost (W : World) (b x : List UInt8) (e : Ending) (W' : World) : Prop :=
  ∃ v m, e = .returned (.tuple #[v, .int .i64 (putE x)]) ∧ W'.ownsRow W.heap.size 5 1 v m ((putB b x).map bv) ∧ Below W.heap.size W W'
def NextQ (W : World) (r : List UInt8 × Nat × Int) (e : Ending) (W' : World) : Prop :=
  ∃ A m c, e = .returned (.tuple #[.slice A m c, .int .i64 ((r.2.1 : Nat) : Int), .int .i64 r.2.2]) ∧ Byt W' W'.heap.size A m r.1 ∧ (A = none → c = 0) ∧ m ≤ c ∧ c ≤ maxLen ∧ Below W.heap.size W W'
def ValidQ (W : World) (r : List (List UInt8) × Nat) (e : Ending) (W' : World) : Prop :=
  ∃ A k c, e = .returned (.tuple #[.slice A k c, .int .i64 ((r.2 : Nat) : Int)]) ∧ Lst W' (fun _ => False) A k r.1 ∧ Below W.heap.size W W'

/-- The program's boxes. -/
structure BoxC : Prop where
  put : ∀ (A A2 : Option Addr) (n c n2 c2 : Nat) (b x : List UInt8) (W : World), Byt W W.heap.size A n b → (A = none → c = 0) → Byt W W.heap.size A2 n2 x → (A2 = none → c2 = 0) → n ≤ 1000000 → n2 ≤ 1000000 →
    Calls Tryz.prog 17 #[.slice A n c, .slice A2 n2 c2] W (PutPost W b x)
  size : ∀ (n : Int) (W : World), Calls Tryz.prog 105 #[.int .i64 n] W fun e W' => e = .returned (.int .i64 (sizeB n)) ∧ W' = W
  next : ∀ (A : Option Addr) (n c : Nat) (l : List UInt8) (a : Int) (W : World), Byt W W.heap.size A n l → (A = none → c = 0) → n ≤ c → c ≤ maxLen → n ≤ 1000000 →
    Calls Tryz.prog 78 #[.slice A n c, .int .i64 a] W (NextQ W (nextC l a))
  valid : ∀ (A : Option Addr) (n c : Nat) (l : List UInt8) (W : World), Byt W W.heap.size A n l → (A = none → c = 0) → n ≤ c → c ≤ maxLen → n ≤ 1000000 →
    Calls Tryz.prog 24 #[.slice A n c] W (ValidQ W (validC l))

theorem valid_parts (l : List UInt8) : ∀ b ∈ (validC l).1, b.length ≤ l.length := by
  suffices h : ∀ n (r : List UInt8), r.length = n → ∀ b ∈ (validC r).1, b.length ≤ r.length from h l.length l rfl
  intro n
  induction n using Nat.strongRecOn with
  | ind n ih =>
    intro r hr b hb
    by_cases h0 : (headC r).2.2 = 0
    · obtain ⟨h1, h2, h3, _⟩ := head_size r h0
      have hd : (r.drop (headC r).2.1).length = r.length - (headC r).2.1 := List.length_drop
      rw [valid_go r h0] at hb
      rcases List.mem_cons.1 hb with rfl | hb
      · omega
      · have := ih _ (by omega) (r.drop (headC r).2.1) hd b hb
        omega
    · rw [valid_stop r h0] at hb
      cases hb

end Go.Proofs.YtgococpbhbcpmaaGreatDoor
