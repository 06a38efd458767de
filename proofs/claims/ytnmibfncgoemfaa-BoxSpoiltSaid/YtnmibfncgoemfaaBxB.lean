/-
  The reference of boxes: all from the beginning on; whether two lists of bytes are the same.
-/
import Derived.Test.YtnmibfncgoemfaaBxA
namespace Go.Proofs.Ytnmibfncgoemfaa
open Go.RowKit
set_option linter.unusedVariables false
set_option linter.unusedSimpArgs false

theorem Try.infoBs : (Try.prog.info? 22).map (fun i => (i.zero, i.size, i.bytes)) = some (some (.slice none 0 0), 1, 24) := by kernel_rfl

/-- Lists of bytes as structs of one part. -/
def bts (l : List (List UInt8)) : List (List Prt) := l.map fun b => [.byt b]
theorem bts_len (l : List (List UInt8)) : (bts l).length = l.length := List.length_map ..
theorem bts_snoc (l : List (List UInt8)) (b : List UInt8) : bts (l ++ [b]) = bts l ++ [[.byt b]] := by unfold bts; simp
theorem bts_one (l : List (List UInt8)) : ∀ f ∈ bts l, f.length = 1 := by
  intro f hf
  obtain ⟨b, _, rfl⟩ := List.mem_map.1 hf
  rfl
/-- The slice value '.slice A n c' reads as these lists of bytes. -/
def Lst (w : World) (S : Nat → Prop) (A : Option Addr) (n : Nat) (l : List (List UInt8)) : Prop := Sls w S 1 A n (bts l)
theorem Lst.at_ {w : World} {S : Nat → Prop} {A : Option Addr} {n : Nat} {l : List (List UInt8)} (h : Lst w S A n l) {j : Nat} {b : List UInt8} (hj : l[j]? = some b) :
    ∃ g o A2 n2 c2, A = some ⟨g, o, none⟩ ∧ ¬ S g ∧ g < w.heap.size ∧ w.cell? ⟨g, o + j, none⟩ = some (.slice A2 n2 c2) ∧ BytS w S A2 n2 b ∧ (A2 = none → n2 = 0 ∧ c2 = 0) ∧ n2 ≤ c2 ∧ c2 ≤ maxLen := by
  have hj' : (bts l)[j]? = some [.byt b] := by unfold bts; rw [List.getElem?_map, hj]; rfl
  obtain ⟨g, o, ys, e, hs, hl, hp, _, hc⟩ := Sls.at_ h hj'
  obtain ⟨v, r, rfl, ⟨A2, n2, c2, rfl, h2⟩, hr⟩ := hp
  refine ⟨g, o, A2, n2, c2, e, hs, hl, ?_, h2⟩
  have := hc 0 _ rfl
  rwa [Nat.mul_one, Nat.add_zero] at this

theorem next_go (l : List UInt8) (a : Nat) (h : a ≤ l.length) (h0 : (headC (l.drop a)).2.2 = 0) : nextC l (a : Int) = ((headC (l.drop a)).1, a + (headC (l.drop a)).2.1, 0) := by
  unfold nextC
  rw [if_neg (by omega), Int.toNat_natCast, if_pos h0]
theorem next_no (l : List UInt8) (a : Nat) (h : a ≤ l.length) (h0 : (headC (l.drop a)).2.2 ≠ 0) : nextC l (a : Int) = ([], 0, (headC (l.drop a)).2.2) := by
  unfold nextC
  rw [if_neg (by omega), Int.toNat_natCast, if_neg h0]

/-- What is kept while boxes are gone through. -/
def ValI (W : World) (l : List UInt8) (v i : Value) (wr : World) : Prop :=
  ∃ (a : Nat) (gs : List (List UInt8)) (xs : List Value), i = .int .i64 a ∧ a ≤ l.length ∧ gs.length ≤ a ∧ wr.ownsRow W.heap.size 22 1 v (bts gs).length xs ∧ PrtsV wr (fun k => W.heap.size ≤ k) xs (bts gs).flatten ∧ Below W.heap.size W wr ∧
    validC l = (gs ++ (validC (l.drop a)).1, a + (validC (l.drop a)).2)

set_option maxRecDepth 100000 in
set_option maxHeartbeats 2000000 in
theorem refValid_any (B : Nat) (A : Option Addr) (n c : Nat) (l : List UInt8) (W : World) (hl : Byt W B A n l) (hB : B ≤ W.heap.size) (hnil : A = none → c = 0) (hnc : n ≤ c) (hcm : c ≤ maxLen) (hn : n ≤ 1000000) :
    Calls Try.prog 15 #[.slice A n c] W fun e W' => ∃ A' k c', e = .returned (.tuple #[.slice A' k c', .int .i64 ((validC l).2 : Nat)]) ∧ Lst W' (fun _ => False) A' k (validC l).1 ∧ Below W.heap.size W W' := by
  obtain ⟨i0, hi, hz0, hz1, hz2⟩ := info_parts Try.infoBs
  have HLN := Lib.hid hl.1
  go_enter Try.func15, Try.ntmps15
  go_wp2_with fail
  go_loopw [4, 5] (fun v i wr => ValI W l v i wr) (fun _ i _ => n - (intOf i).toNat)
  case atStart => exact ⟨0, [], [], rfl, Nat.zero_le _, Nat.le_refl _, World.ownsRow_nil _ _ _ _, rfl, Below.refl _ _, by simp⟩
  case round =>
    obtain ⟨a, gs, xs, rfl, ha, hga, hown, hx, hb, hV⟩ := hrel
    have hlb := hl.below (hb.mono hB)
    have hBr : B ≤ wr.heap.size := Nat.le_trans hB hb.size
    by_cases h0 : (headC (l.drop a)).2.2 = 0
    · obtain ⟨s1, s2, s3, s4⟩ := head_size _ h0
      rw [List.length_drop] at s2
      have hN := refNext_any B A n c l (a : Int) wr hlb hBr hnil hnc hcm (by omega)
      rw [next_go l a ha h0] at hN
      have hV2 := valid_go _ h0
      rw [List.drop_drop] at hV2
      obtain ⟨sz, hsz⟩ : ∃ z, (headC (l.drop a)).2.1 = z := ⟨_, rfl⟩
      obtain ⟨bd, hbd⟩ : ∃ z, (headC (l.drop a)).1 = z := ⟨_, rfl⟩
      rw [hsz, hbd] at hN hV2
      rw [hsz] at s1 s2 s3 s4
      rw [hV2] at hV
      have hln := HLN.out
      have HV := Lib.hid (show validC l = ((gs ++ [bd]) ++ (validC (l.drop (a + sz))).1, a + sz + (validC (l.drop (a + sz))).2) by rw [hV]; simp [Nat.add_assoc])
      obtain ⟨a2, ha2⟩ : ∃ z, a + sz = z := ⟨_, rfl⟩
      rw [ha2] at hN HV
      have HA := Lib.hid (show a < a2 ∧ a2 ≤ n by omega)
      clear hV hV2 h0 hsz hbd s1 s2 s3 s4 ha2 hln
      unfold NextPost at hN
      have HO := Lib.hid (And.intro hown (And.intro hx hb))
      clear hown hx hb hlb
      go_wp2_with fail
      refine hN.mono ?_
      rintro e w1 ⟨A1, m1, c1, rfl, hb1, hn1, hm1, hc1, hbel⟩
      obtain ⟨hown, hx, hb⟩ := HO.out
      have hown1 := own_below hown hbel
      have hx1 := hx.side (fun k hk => hk) hb (hb.trans (hbel.mono hb.size))
      have hbW := hb.trans (hbel.mono hb.size)
      have hbs := hbW.size
      have hv1 : PrtsV w1 (fun k => W.heap.size ≤ k) [.slice A1 m1 c1] [.byt bd] := ⟨_, _, rfl, ⟨A1, m1, c1, rfl, hb1.off (fun k hk => Nat.le_trans hB hk), fun h => ⟨by have := hn1 h; omega, hn1 h⟩, hm1, hc1⟩, rfl⟩
      have hgn : (bts gs).length ≤ 1000000 := by have := HLN.out; rw [bts_len]; omega
      clear hown hx hb hbel
      go_wp2_with (at_builtin; refine wpList_append_prt 22 rfl _ _ 32 rfl 22 i0 _ 1 24 Try.underlying32 hi hz0 hz1 hz2 rfl (by decide) (by decide) _ (bts gs) xs rfl hown1 hx1 hbW hbs (fun k hk => hk) [.slice A1 m1 c1] [.byt bd] hv1 rfl rfl hgn ?_; intro v4 w4 h4; have HR := Lib.hid h4; clear h4)
      go_roundw
      case rel =>
        obtain ⟨r1, r2, r3, _⟩ := HR.out
        rw [← bts_snoc] at r1 r2
        exact ⟨a2, gs ++ [bd], _, rfl, by have := HLN.out; have := HA.out; omega, by have := HA.out; simp; omega, r1, r2, r3, HV.out⟩
      case measure => have := HA.out; simp [intOf]; omega
    · have hN := refNext_any B A n c l (a : Int) wr hlb hBr hnil hnc hcm (by omega)
      rw [next_no l a ha h0] at hN
      have hV2 := valid_stop _ h0
      rw [hV2] at hV
      obtain ⟨k, hk⟩ : ∃ z, (headC (l.drop a)).2.2 = z := ⟨_, rfl⟩
      rw [hk] at hN h0
      have hq : (k != 0) = true := by simpa using h0
      have HV := Lib.hid (show validC l = (gs, a) by rw [hV]; simp)
      clear hV hV2 hk h0
      unfold NextPost at hN
      have HO := Lib.hid (And.intro hown (And.intro hx hb))
      clear hown hx hb hlb
      go_wp2_with fail
      refine hN.mono ?_
      rintro e w1 ⟨A1, m1, c1, rfl, hb1, hn1, hm1, hc1, hbel⟩
      go_wp2_with fail
      go_ret2
      obtain ⟨hown, hx, hb⟩ := HO.out
      have hown1 := own_below hown hbel
      have hx1 := (hx.side (fun k hk => hk) hb (hb.trans (hbel.mono hb.size))).less (S' := fun _ => False) (fun k h => h.elim)
      rcases hown1.2 with ⟨rfl, h⟩ | ⟨g, cap, cur, rfl, _⟩
      · refine ⟨none, 0, 0, by rw [HV.out]; rfl, ?_, hb.trans (hbel.mono hb.size)⟩
        rw [HV.out]
        have hg : gs = [] := by rw [bts_len] at h; exact List.eq_nil_of_length_eq_zero h
        rw [hg]
        exact Sls.nil
      · refine ⟨_, (bts gs).length, _, by rw [HV.out]; rfl, ?_, hb.trans (hbel.mono hb.size)⟩
        rw [HV.out]
        exact Sls.of_own hown1 hx1 (bts_one gs) rfl (fun k h => h.elim)

end Go.Proofs.Ytnmibfncgoemfaa
