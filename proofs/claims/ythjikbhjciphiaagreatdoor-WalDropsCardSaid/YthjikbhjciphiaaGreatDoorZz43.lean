/-
  The program's numbers of names: read, in order, each once.
-/
import Derived.Test.YthjikbhjciphiaaGreatDoorZz39
import Derived.Test.YthjikbhjciphiaaGreatDoorZz16
import Derived.Test.YthjikbhjciphiaaGreatDoorZz42
import Derived.Test.YthjikbhjciphiaaGreatDoorZz3
import Derived.Test.YthjikbhjciphiaaGreatDoorZz37
import Derived.Test.YthjikbhjciphiaaGreatDoorZz29
import Derived.Test.YthjikbhjciphiaaGreatDoorZz35
import Derived.Test.YthjikbhjciphiaaGreatDoorZz41
namespace Go.Proofs.YthjikbhjciphiaaGreatDoor
open Go.RowKit
set_option linter.unusedVariables false
set_option linter.unusedSimpArgs false

theorem Tryz.infoU64 : (Tryz.prog.info? 23).map (fun i => (i.zero, i.size, i.bytes)) = some (some (.int .u64 0), 1, 8) := by kernel_rfl

theorem nts_cells {w : World} {S : Nat → Prop} {g : Nat} {R : List Nat} (hg : g < w.heap.size) (hs : ¬ S g) (h : ∀ j x, R[j]? = some x → w.cell? ⟨g, j, none⟩ = some (.int .u64 (x : Nat))) : Nts w S (some ⟨g, 0, none⟩) R.length R := by
  refine ⟨by rw [ones_len, List.length_map], ones_one _, fun _ => ⟨g, 0, rfl, hs, hg, fun j f hj => ?_⟩⟩
  unfold ones at hj
  rw [List.getElem?_map, List.getElem?_map] at hj
  obtain ⟨p, hp, rfl⟩ := Option.map_eq_some_iff.1 hj
  obtain ⟨x, hx, rfl⟩ := Option.map_eq_some_iff.1 hp
  refine ⟨[.int .u64 (x : Int)], ⟨_, [], rfl, rfl, rfl⟩, fun i y hy => ?_⟩
  match i, hy with
  | 0, hy =>
    simp at hy
    subst hy
    rw [Nat.mul_one, Nat.zero_add, Nat.add_zero]
    exact h j x hx

/-- The numbers of the first names. -/
def numsL (L : List (List UInt8)) : List Nat := L.filterMap fun s => if (numC s).2 then some (numC s).1 else none
theorem numsL_snoc (L : List (List UInt8)) (s : List UInt8) (x : Nat) (is : Bool) (h : numC s = (x, is)) : numsL (L ++ [s]) = numsL L ++ if is then [x] else [] := by
  unfold numsL
  rw [List.filterMap_append]
  congr 1
  cases is <;> simp [h]
theorem numsL_len (L : List (List UInt8)) : (numsL L).length ≤ L.length := List.length_filterMap_le _ _
theorem mem_numsL (L : List (List UInt8)) (x : Nat) : x ∈ numsL L ↔ ∃ s ∈ L, numC s = (x, true) := by
  unfold numsL
  rw [List.mem_filterMap]
  constructor
  · rintro ⟨s, hs, h⟩
    refine ⟨s, hs, ?_⟩
    split at h
    · next h2 => cases h; exact Prod.ext rfl h2
    · cases h
  · rintro ⟨s, hs, h⟩
    exact ⟨s, hs, by rw [h]; rfl⟩
theorem numsQ_of {L : List (List UInt8)} {zs R : List Nat} (hp : zs.Perm (numsL L)) (h : CmpQ zs R) : NumsQ L R :=
  ⟨fun x => by rw [h.1 x, hp.mem_iff, mem_numsL], h.2.1, by have := h.2.2; rw [hp.length_eq] at this; exact Nat.le_trans this (numsL_len L)⟩

set_option maxRecDepth 100000 in
theorem compact_nil (W : World) : Calls Tryz.prog 44 #[.slice none 0 0] W fun e W' => e = .returned (.slice none 0 0) ∧ W' = W := by
  go_enter Tryz.func44, Tryz.ntmps44
  go_wp2_with fail
  go_ret
  exact ⟨rfl, rfl⟩

/-- What stands between two names. -/
def NumI (W : World) (L : List (List UInt8)) (j m : Nat) (v : Value) (w : World) : Prop := m = (numsL (L.take j)).length ∧ w.ownsRow W.heap.size 23 1 v m ((numsL (L.take j)).map nu) ∧ Below W.heap.size W w
/-- What Numbers leaves. -/
def NumP (W : World) (L : List (List UInt8)) (e : Ending) (W' : World) : Prop := ∃ A' k c' R, e = .returned (.slice A' k c') ∧ Nts W' (fun j => W'.heap.size ≤ j) A' k R ∧ Below W.heap.size W W' ∧ NumsQ L R

/-- .. in memory of its own. -/
def NumN (W : World) (L : List (List UInt8)) (e : Ending) (W' : World) : Prop := ∃ A' k c' R, e = .returned (.slice A' k c') ∧ Nts W' (fun j => W'.heap.size ≤ j) A' k R ∧ Below W.heap.size W W' ∧ NumsQ L R ∧ ∀ a, A' = some a → W.heap.size ≤ a.block

set_option maxRecDepth 100000 in
set_option maxHeartbeats 4000000 in
theorem snumbers_new (A : Option Addr) (n c : Nat) (L : List (List UInt8)) (W : World) (hS : SV W) (hL : Txs W (fun k => W.heap.size ≤ k) A n L) (hLl : ∀ s ∈ L, s.length ≤ 281474976710656) (hn : n ≤ 1000000000) :
    Calls Tryz.prog 28 #[.slice A n c] W (NumN W L) := by
  obtain ⟨i0, hi, hz0, hz1, hz2⟩ := info_parts Tryz.infoU64
  have hLn := hL.len
  have HL := Lib.hid (And.intro hL (And.intro hLl hLn))
  clear hL hLl hLn
  go_enter Tryz.func28, Tryz.ntmps28
  go_wp2_with fail
  go_loopw [3, 10] (fun v i wr => ∃ j m : Nat, i = .int .i64 j ∧ j ≤ n ∧ NumI W L j m v wr) (fun _ i _ => n - (intOf i).toNat)
  case atStart => exact ⟨0, 0, rfl, Nat.zero_le _, rfl, World.ownsRow_nil _ _ _ _, Below.refl _ _⟩
  case round =>
    obtain ⟨j, m, rfl, hj, hm, hown, hb⟩ := hrel
    obtain ⟨A2, c2, rfl, hn2, hl2, hm2⟩ := own_form hown
    have hml : m ≤ j := by
      rw [hm]
      refine Nat.le_trans (numsL_len _) ?_
      rw [List.length_take]
      exact Nat.min_le_left _ _
    have hsz := hb.size
    by_cases hlt : j < n
    · have t1 : (j : Int) < (n : Int) := by omega
      have hj9 : j ≤ 1000000000 := by omega
      have hm9 : m ≤ 1000000000 := by omega
      obtain ⟨s, hs⟩ : ∃ s, L[j]? = some s := ⟨_, List.getElem?_eq_getElem (by have := HL.out.2.2; omega)⟩
      have hsm := HL.out.2.1 s (List.mem_of_getElem? hs)
      obtain ⟨g, o, rfl, _, hgl, hcell⟩ := Txs.at_ (HL.out.1.below hb) hs
      have hNu := snumber_any ⟨s.toArray⟩ wr (by show s.toArray.size ≤ _; rw [List.size_toArray]; exact hsm) (hS.below hb)
      rw [show (⟨s.toArray⟩ : ByteArray).data.toList = s from rfl] at hNu
      obtain ⟨q, hq⟩ : ∃ q, numC s = q := ⟨_, rfl⟩
      obtain ⟨x, is⟩ := q
      have htk : numsL (L.take (j + 1)) = numsL (L.take j) ++ if is then [x] else [] := by
        rw [List.take_add_one, hs]
        exact numsL_snoc _ _ _ _ hq
      have hsg : segN s = if is then (x, 0) else (0, 2) := by unfold segN; rw [hq]
      rw [hsg] at hNu
      cases is with
      | false =>
        have HI := Lib.hid (show NumI W L (j + 1) m (.slice A2 m c2) wr ∧ j < n from ⟨by unfold NumI; rw [htk]; exact ⟨by simpa using hm, by simpa using hown, hb⟩, hlt⟩)
        clear hown hb hm hml hs hsm hq htk hsg hlt hj hn2 hl2 hm2 hsz
        go_wp2_with fail
        refine hNu.mono ?_
        rintro e w2 ⟨rfl, hb2⟩
        go_wp2_with fail
        go_roundw
        case rel => exact ⟨j + 1, m, by go_num, by have := HI.out.2; omega, HI.out.1.1, own_below HI.out.1.2.1 hb2, bthen HI.out.1.2.2 hb2⟩
        case measure => have := HI.out.2; simp [intOf]; omega
      | true =>
        have HI := Lib.hid (show NumI W L j m (.slice A2 m c2) wr ∧ j < n ∧ numsL (L.take (j + 1)) = numsL (L.take j) ++ [x] from ⟨⟨hm, hown, hb⟩, hlt, htk⟩)
        clear hown hb hm hml hs hsm hq htk hsg hlt hj hn2 hl2 hm2
        go_wp2_with fail
        refine hNu.mono ?_
        rintro e w2 ⟨rfl, hb2⟩
        have hown2 := own_below HI.out.1.2.1 hb2
        have hb3 := bthen HI.out.1.2.2 hb2
        have hsz2 := hb3.size
        go_wp2_with (at_builtin; refine wpList_append_vals _ rfl _ _ 58 rfl W.heap.size 23 i0 (.int .u64 0) 8 Tryz.underlying58 hi hz0 hz1 hz2 rfl _ _ _ rfl (hown2.alloc _) (w2.heap.size + 1) _ 1 1 [nu x] rfl ?c1 ?c2 ?c3 ?c4 ?c5 ?c6 ?_)
        case c1 => exact Vals.one _ _ _ rfl _
        case c2 => intro h; cases h
        case c3 => intro u hu; rw [List.mem_singleton.1 hu]; rfl
        case c4 => omega
        case c5 => omega
        case c6 => simp; omega
        intro v' w3 hown3 hgrow
        have hb4 := own_step hb3 (Nat.le_refl _) hown2 hgrow
        have HF := Lib.hid (show NumI W L (j + 1) (m + 1) v' w3 from ⟨by rw [HI.out.2.2, List.length_append, ← HI.out.1.1]; rfl, by rw [HI.out.2.2, List.map_append]; exact hown3, hb4⟩)
        obtain ⟨A3, c3, rfl, _, _, _⟩ := own_form hown3
        clear hown2 hb3 hown3 hgrow hb4
        go_wp2_with fail
        go_roundw
        case rel => exact ⟨j + 1, m + 1, by go_num, by have := HI.out.2.1; omega, HF.out⟩
        case measure => have := HI.out.2.1; simp [intOf]; omega
    · have t1 : ¬ (j : Int) < (n : Int) := by omega
      obtain rfl : j = n := by omega
      have htk : L.take j = L := List.take_of_length_le (by have := HL.out.2.2; omega)
      rw [htk] at hm hown
      have HB := Lib.hid hb
      rcases hown.2 with ⟨hv, hm0⟩ | ⟨g, cap, cur, hv, hBg, hgh, hmc, hcm, _⟩
      · cases hv
        have hx : numsL L = [] := List.length_eq_zero_iff.1 (by omega)
        have hS1 := sort_nil wr
        have hC := compact_nil wr
        clear hown hb hm hml hlt hj hn2 hl2 hm2 hsz hm0 htk
        go_wp2_with fail
        refine hS1.mono ?_
        rintro e w2 ⟨rfl, rfl⟩
        go_wp2_with fail
        refine hC.mono ?_
        rintro e w3 ⟨rfl, rfl⟩
        go_wp2_with fail
        go_ret
        exact ⟨none, 0, 0, [], rfl, One.nil, HB.out, ⟨fun x => by rw [← mem_numsL, hx], (fun i x y h => by simp at h), Nat.zero_le _⟩, fun a h => by cases h⟩
      · cases hv
        have hS1 := sort_any W.heap.size g m c2 (by omega) (numsL L) wr hown
        have hgl : g < wr.heap.size := by
          rcases Nat.lt_or_ge g wr.heap.size with h | h
          · exact h
          · rw [Array.getElem?_eq_none h] at hgh; cases hgh
        have HG := Lib.hid (show W.heap.size ≤ g ∧ m ≤ c2 ∧ c2 ≤ maxLen ∧ m ≤ 1000000000 ∧ g < wr.heap.size ∧ W.heap.size ≤ wr.heap.size from ⟨hBg, hmc, hcm, by omega, hgl, hsz⟩)
        clear hown hb hm hml hlt hj hn2 hl2 hm2 hsz htk hBg hgh hmc hcm hgl
        go_wp2_with fail
        refine hS1.mono ?_
        rintro e w2 ⟨rfl, zs, hr2, ht2, hs2, hz2⟩
        have hC := compact_any W.heap.size g m c2 HG.out.2.2.2.1 HG.out.2.1 HG.out.2.2.1 zs w2 hr2 hz2
        have HP := Lib.hid (And.intro hs2.perm ht2)
        clear hr2 ht2 hs2 hz2 hS1
        go_wp2_with fail
        refine hC.mono ?_
        rintro e w3 ⟨R, rfl, hcs, ht3, hQ⟩
        have HR := Lib.hid (show NumN W L (.returned (.slice (some ⟨g, 0, none⟩) R.length c2)) w3 from by
          have ht := HP.out.2.trans ht3
          have hg := HG.out
          have hsz := ht.size
          exact ⟨_, _, _, R, rfl, nts_cells (by omega) (by omega) hcs, (HB.out).trans (ht.below (by omega) (fun k hk => by omega)), numsQ_of HP.out.1 hQ, fun a h => by cases h; exact hg.1⟩)
        clear hcs ht3 hQ
        go_wp2_with fail
        go_ret
        exact HR.out

theorem snumbers_any (A : Option Addr) (n c : Nat) (L : List (List UInt8)) (W : World) (hS : SV W) (hL : Txs W (fun k => W.heap.size ≤ k) A n L) (hLl : ∀ s ∈ L, s.length ≤ 281474976710656) (hn : n ≤ 1000000000) :
    Calls Tryz.prog 28 #[.slice A n c] W (NumP W L) :=
  (snumbers_new A n c L W hS hL hLl hn).mono fun e W' ⟨A', k, c', R, h1, h2, h3, h4, _⟩ => ⟨A', k, c', R, h1, h2, h3, h4⟩

theorem segS_all : SegS SV := ⟨segN_all, fun A n c L W hS hL hl _ _ _ hn => snumbers_any A n c L W hS hL hl (by omega)⟩

end Go.Proofs.YthjikbhjciphiaaGreatDoor

/-
  The program's journal: the segments of a disk, read.
-/
namespace Go.Proofs.YthjikbhjciphiaaGreatDoor
open Go.RowKit
set_option linter.unusedVariables false
set_option linter.unusedSimpArgs false

/-- What is kept while segments are read. -/
structure ReadI (W : World) (ds : List (List UInt8)) (xs : List Value) (v : Value) (wr : World) : Prop where
  o7 : wr.ownsRow W.heap.size 70 1 v ds.length xs
  ps : PrtsV wr (fun x => v.ownBlock = some x) xs (bts ds).flatten
  bel : Below W.heap.size W wr
section
variable {W wr w' : World} {ds : List (List UInt8)} {xs : List Value} {v : Value}
theorem ReadI.below (h : ReadI W ds xs v wr) (hb : Below wr.heap.size wr w') : ReadI W ds xs v w' :=
  ⟨own_below h.o7 hb, PrtsV.turn h.ps ⟨hb.os, hb.tape, hb.output, hb.size, fun k hk _ => hb.block k hk⟩, h.bel.trans (hb.mono h.bel.size)⟩
theorem ReadI.step (h : ReadI W ds xs v wr) {b : Nat} {v8 : Value} {d : List UInt8} (h8 : wr.ownsRow b 5 1 v8 d.length (d.map bv)) {v7' : Value} (h7 : w'.ownsRow W.heap.size 70 1 v7' (ds.length + 1) (xs ++ [v8])) (hg : wr.grownBy w' v.ownBlock) (hp : v7'.ownBlock = v.ownBlock ∨ v7'.ownBlock = some wr.heap.size) :
    ReadI W (ds ++ [d]) (xs ++ [v8]) v7' w' := by
  have o8' := own_stay h8 h.o7 (by decide) hg
  refine ⟨by rw [List.length_append]; exact h7, ?_, bel_grow h.bel (Nat.le_refl _) h.o7 hg⟩
  rw [bts_snoc, List.flatten_append]
  refine PrtsV.append _ _ _ _ (prts_grow h.ps hg (fun k hk => hk) ?_) ?_
  · intro k hk
    rcases hp with e | e
    · exact .inl (e.symm.trans hk)
    · rw [e] at hk
      exact .inr (by cases hk; exact Nat.le_refl _)
  · obtain ⟨A, c, rfl, h1, h2, h3⟩ := own_form o8'
    have hB := Byt.of_own o8'
    refine ⟨_, [], rfl, ⟨A, _, c, rfl, ⟨hB.1, fun hn => ?_⟩, h1, h2, h3⟩, rfl⟩
    obtain ⟨g, o, rfl, _, hc⟩ := hB.2 hn
    refine ⟨g, o, rfl, ?_, hc⟩
    intro hk
    refine own_two h7 o8' (by decide) hk ?_
    rcases o8'.2 with ⟨e, _⟩ | ⟨g2, cap, cur', e, _⟩
    · cases e
    · cases e; rfl
theorem ReadI.lst (h : ReadI W ds xs v wr) : ∃ A c, v = .slice A ds.length c ∧ Lst wr (fun k => wr.heap.size ≤ k) A ds.length ds := by
  obtain ⟨A, c, rfl, h1, h2, h3⟩ := own_form h.o7
  refine ⟨A, c, rfl, Sls.of_own h.o7 (PrtsV.more (PrtsV.less h.ps (S' := fun k => False) (fun k hk => hk.elim)) (fun k hk hlt => by omega)) (bts_one _) (bts_len _) (fun k hk => .inr hk)⟩
end

set_option maxRecDepth 100000 in
set_option maxHeartbeats 1000000 in
theorem lread_any (W : World) (S : Nat → Prop) (q : Nat) (m : Dk) (A : Option Addr) (n c : Nat) (R : List Nat) (hP : PD W S q m) (hOk : OkD 200 m) (hN : Nts W (fun k => W.heap.size ≤ k) A n R) (hn : n ≤ 1000) (hR : ∀ x ∈ R, x < 18446744073709551616) (hS : SV W) :
    Calls Tryz.prog 31 #[.pointer (some ⟨q, 0, none⟩), .slice A n c] W fun e W' => ∃ A' c', e = .returned (.slice A' n c') ∧ Lst W' (fun k => W'.heap.size ≤ k) A' n (R.map fun x => (readD m (nameL x)).2) ∧ Below W.heap.size W W' := by
  obtain ⟨i1, hj, hj0, hj1, hj2⟩ := info_parts Tryz.infoBs
  have hln := hN.len
  have hNm := fun w x (h : x < 18446744073709551616) hw => sname_any x w h hw
  have hRd := fun w x (h1 : PD w S q m) => pread_any w S q m (nameL x) h1 hOk (by rw [nameL_len]; omega)
  have HH := Lib.hid (And.intro hP (And.intro hN (And.intro hR (And.intro hS hln))))
  clear hP hOk hN hR hS hln
  go_enter Tryz.func31, Tryz.ntmps31
  go_wp2_with fail
  go_loopw [5, 12] (fun v i wr => ∃ (k : Nat) (xs : List Value), k ≤ n ∧ i = .int .i64 (k : Nat) ∧ ReadI W ((R.take k).map fun x => (readD m (nameL x)).2) xs v wr) (fun _ i _ => n - (intOf i).toNat)
  case atStart => exact ⟨0, [], Nat.zero_le _, rfl, World.ownsRow_nil _ _ _ _, rfl, Below.refl _ _⟩
  case round =>
    obtain ⟨k, xs, hk, rfl, hI⟩ := hrel
    by_cases hlt : k < n
    · have t1 : (k : Int) < (n : Int) := by omega
      obtain ⟨x, hx⟩ : ∃ x, R[k]? = some x := ⟨_, List.getElem?_eq_getElem (by have := HH.out.2.2.2.2; omega)⟩
      obtain ⟨g, o, rfl, hgS, hgl, hc0⟩ := HH.out.2.1.at_ hx
      have e0 := (hI.bel.cell (p := ⟨g, o + k, none⟩) hgl).trans hc0
      have hx64 := HH.out.2.2.1 x (List.mem_of_getElem? hx)
      have hN1 := hNm wr x hx64 ((HH.out.2.2.2.1).below hI.bel).1
      have hP1 := HH.out.1.below hI.bel
      have hds : ((R.take k).map fun x => (readD m (nameL x)).2).length = k := by rw [List.length_map, List.length_take]; have := HH.out.2.2.2.2; omega
      have hsn : ((R.take k).map fun x => (readD m (nameL x)).2) ++ [(readD m (nameL x)).2] = (R.take (k + 1)).map fun x => (readD m (nameL x)).2 := by
        rw [List.take_add_one, hx, Option.toList_some, List.map_append]
        rfl
      obtain ⟨ds, hdd⟩ : ∃ ds, ((R.take k).map fun x => (readD m (nameL x)).2) = ds := ⟨_, rfl⟩
      rw [hdd] at hI hds hsn
      have hRx := fun w h1 => hRd w x h1
      obtain ⟨rp, hrp⟩ : ∃ rp, readD m (nameL x) = rp := ⟨_, rfl⟩
      rw [hrp] at hRx hsn
      obtain ⟨rc, d⟩ := rp
      simp only at hRx hsn
      have HI := Lib.hid (And.intro hI (And.intro hP1 (And.intro hsn (And.intro hds hlt))))
      clear hI hP1 hsn hlt hrp hdd hc0 hx hgS hgl hx64
      obtain ⟨nm, hnm⟩ : ∃ nm : ByteArray, ⟨(nameL x).toArray⟩ = nm := ⟨_, rfl⟩
      rw [hnm] at hN1 hRx
      clear hnm
      go_wp2_with fail
      refine hN1.mono ?_
      rintro e w1 ⟨rfl, hb1⟩
      have hR1 := hRx w1 (HI.out.2.1.below hb1)
      have hI1 := HI.out.1.below hb1
      have HI1 := Lib.hid hI1
      clear hI1 hb1 hN1 hRx e0
      go_wp2_with fail
      refine hR1.mono ?_
      rintro e w2 ⟨v2, rfl, hown2, hb2⟩
      obtain ⟨A2, c2, rfl, hn2, hnc2, hcm2⟩ := own_form hown2
      have hI2 := HI1.out.below hb2
      have o7 := hI2.o7
      rw [hds] at o7
      have H2 := Lib.hid (And.intro hI2 hown2)
      have hbs := hI2.bel.size
      clear hI2 hown2 hb2 hR1 hn2 hnc2 hcm2
      go_wp2_with (at_builtin; refine wpList_append_own_at _ rfl _ _ 63 rfl W.heap.size 70 i1 _ 1 24 Tryz.underlying63 hj hj0 hj1 hj2 rfl (by decide) _ _ _ rfl (o7.alloc _) ⟨w2.heap.size, 0, none⟩ 1 1 [.slice A2 d.length c2] rfl rfl (fun q u hu => by rw [Addr.add_lit, Nat.zero_add, World.cell?_alloc_new]; simpa using hu) (by simp [Value.oneCell']) (by unfold maxLen; omega) (by omega) (by simp; omega) ?_)
      intro v4 w4 hown4 hgr4 hat4
      have hI4 := ReadI.step (H2.out.1.below ((Below.refl _ w2).alloc (Nat.le_refl _) (.cells #[.slice A2 d.length c2] 70))) (H2.out.2.alloc _) (by rw [hds]; exact hown4) hgr4 (by rw [World.size_alloc]; exact hat4)
      rw [HI.out.2.2.1] at hI4
      have H4 := Lib.hid hI4
      clear hown4 hgr4 hat4 hI4 o7
      go_wp2_with fail
      go_roundw
      case rel => exact ⟨k + 1, _, HI.out.2.2.2.2, by go_num, H4.out⟩
      case measure => have := HI.out.2.2.2.2; simp [intOf]; omega
    · have t1 : ¬ (k : Int) < (n : Int) := by omega
      have hkk : k = n := by omega
      rw [hkk, List.take_of_length_le (by have := HH.out.2.2.2.2; omega)] at hI
      have hl9 : (R.map fun x => (readD m (nameL x)).2).length = n := by rw [List.length_map]; exact HH.out.2.2.2.2
      obtain ⟨A9, c9, hv9, hL9⟩ := hI.lst
      rw [hl9] at hv9 hL9
      subst hv9
      have H9 := Lib.hid (And.intro hL9 hI.bel)
      clear hI hL9 hl9 hkk hlt
      go_wp2_with fail
      go_ret
      exact ⟨A9, ⟨c9, rfl⟩, H9.out.1, H9.out.2⟩

end Go.Proofs.YthjikbhjciphiaaGreatDoor

/-
  The program's journal: Open.
-/
namespace Go.Proofs.YthjikbhjciphiaaGreatDoor
open Go.RowKit
set_option linter.unusedVariables false
set_option linter.unusedSimpArgs false

theorem rise_pair : ∀ (l : List Nat), (∀ i x y, l[i]? = some x → l[i + 1]? = some y → x < y) → l.Pairwise (· < ·) := by
  intro l
  induction l with
  | nil => intro _; exact List.Pairwise.nil
  | cons a t ih =>
    intro h
    have ht := ih fun i x y hx hy => h (i + 1) x y (by simpa using hx) (by simpa using hy)
    refine List.pairwise_cons.2 ⟨fun y hy => ?_, ht⟩
    cases t with
    | nil => cases hy
    | cons b u =>
      have h1 := h 0 a b rfl rfl
      rcases List.mem_cons.1 hy with rfl | hy
      · exact h1
      · exact Nat.lt_trans h1 ((List.pairwise_cons.1 ht).1 y hy)
theorem rise_ext : ∀ (a b : List Nat), a.Pairwise (· < ·) → b.Pairwise (· < ·) → (∀ x, x ∈ a ↔ x ∈ b) → a = b := by
  intro a
  induction a with
  | nil =>
    intro b _ _ h
    cases b with
    | nil => rfl
    | cons y t => exact absurd ((h y).2 List.mem_cons_self) (by simp)
  | cons x t ih =>
    intro b ha hb h
    cases b with
    | nil => exact absurd ((h x).1 List.mem_cons_self) (by simp)
    | cons y u =>
      obtain ⟨ha1, ha2⟩ := List.pairwise_cons.1 ha
      obtain ⟨hb1, hb2⟩ := List.pairwise_cons.1 hb
      have hxy : x = y := by
        rcases List.mem_cons.1 ((h x).1 List.mem_cons_self) with e | e
        · exact e
        · rcases List.mem_cons.1 ((h y).2 List.mem_cons_self) with e2 | e2
          · exact e2.symm
          · have := hb1 x e
            have := ha1 y e2
            omega
      subst hxy
      rw [ih u ha2 hb2 fun z => ⟨fun hz => by
        rcases List.mem_cons.1 ((h z).1 (List.mem_cons_of_mem _ hz)) with e | e
        · have := ha1 z hz; omega
        · exact e, fun hz => by
        rcases List.mem_cons.1 ((h z).2 (List.mem_cons_of_mem _ hz)) with e | e
        · have := hb1 z hz; omega
        · exact e⟩]
theorem look_all : ∀ (l : List (Nat × List UInt8)) (p : Nat × List UInt8), (l.map Prod.fst).Pairwise (· < ·) → (∀ p ∈ l, p.1 < 18446744073709551616) → p ∈ l → lookF (nameL p.1) (l.map sgF) = some (sgF p) := by
  intro l
  induction l with
  | nil => intro p _ _ h; cases h
  | cons a t ih =>
    intro p hr hs hp
    rw [List.map_cons] at hr
    obtain ⟨h1, h2⟩ := List.pairwise_cons.1 hr
    rcases List.mem_cons.1 hp with rfl | hp
    · unfold lookF
      rw [List.map_cons, List.find?_cons, decide_eq_true (show (sgF p).name = nameL p.1 from rfl)]
    · have h3 := h1 p.1 (List.mem_map_of_mem hp)
      have h4 := (less_ne a.1 p.1 (hs a List.mem_cons_self) (hs p (List.mem_cons_of_mem _ hp)) h3).2
      have h5 := ih p h2 (fun q hq => hs q (List.mem_cons_of_mem _ hq)) hp
      unfold lookF at h5 ⊢
      rw [List.map_cons, List.find?_cons, decide_eq_false (show ¬ (sgF a).name = nameL p.1 from h4)]
      exact h5
section
variable {fs : List Fl} {own : Nat} {pre : List (Nat × List UInt8)} {R0 cur : List Rc}
theorem HeldJ.rises (h : HeldJ fs own pre R0 cur) : ((allJ own pre cur).map Prod.fst).Pairwise (· < ·) ∧ ∀ p ∈ allJ own pre cur, p.1 < 18446744073709551616 := by
  have hs := h.small
  unfold allJ
  refine ⟨?_, fun p hp => ?_⟩
  · rw [List.map_append, List.pairwise_append]
    refine ⟨h.rise, ?_, fun a ha b hb => ?_⟩
    · split
      · exact List.Pairwise.nil
      · exact List.pairwise_singleton _ _
    · split at hb
      · cases hb
      · rw [List.map_singleton, List.mem_singleton] at hb
        obtain ⟨p, hp, rfl⟩ := List.mem_map.1 ha
        rw [hb]
        exact (h.less p hp).2
  · rcases List.mem_append.1 hp with hp | hp
    · have := h.less p hp; omega
    · split at hp
      · cases hp
      · rw [List.mem_singleton.1 hp]; show own < _; omega
/-- The numbers of the disk's files, and what those hold. -/
theorem HeldJ.nums (h : HeldJ fs own pre R0 cur) {R : List Nat} (hQ : NumsQ (fs.map Fl.name) R) : R = (segsD fs).map Prod.fst ∧ ∀ m : Dk, m.files = fs → m.down = false → (R.map fun x => (readD m (nameL x)).2) = (segsD fs).map Prod.snd := by
  obtain ⟨h1, h2⟩ := h.rises
  obtain ⟨a1, a2, a3⟩ := h.all
  have hR : R = (segsD fs).map Prod.fst := by
    rw [a2]
    refine rise_ext _ _ (rise_pair R hQ.2.1) h1 fun x => ?_
    rw [hQ.1 x, a1]
    constructor
    · rintro ⟨s, hs, hn⟩
      rw [List.map_map] at hs
      obtain ⟨p, hp, rfl⟩ := List.mem_map.1 hs
      have h3 := num_name p.1 (h2 p hp)
      have h4 : numC (nameL p.1) = (x, true) := hn
      rw [h3] at h4
      have h5 : p.1 = x := congrArg Prod.fst h4
      rw [← h5]
      exact List.mem_map_of_mem hp
    · intro hx
      obtain ⟨p, hp, rfl⟩ := List.mem_map.1 hx
      refine ⟨nameL p.1, ?_, num_name p.1 (h2 p hp)⟩
      rw [List.map_map]
      exact List.mem_map.2 ⟨p, hp, rfl⟩
  refine ⟨hR, fun m hm hd => ?_⟩
  rw [hR, a2, List.map_map]
  refine List.map_congr_left fun p hp => ?_
  show (readD m (nameL p.1)).2 = p.2
  unfold readD
  rw [hd, hm, a1, look_all _ p h1 h2 hp]
  rfl
theorem HeldJ.sums (h : HeldJ fs own pre R0 cur) : sumL ((segsD fs).map Prod.snd) = sizeF fs := by
  obtain ⟨a1, a2, a3⟩ := h.all
  rw [a2]
  conv => rhs; rw [a1]
  unfold sumL sizeF
  rw [List.map_map, List.map_map]
  rfl
end

set_option maxRecDepth 100000 in
theorem lbehind_any (A : Option Addr) (n c : Nat) (l : List Rc) (S : Nat → Prop) (next : Nat) (W : World) (hR : Rcs W S A n l) (hn : n ≤ 1000000) (hnx : next < 18446744073709551616) (hs : nextJ l next < 18446744073709551616) :
    Calls Tryz.prog 32 #[.slice A n c, .int .u64 ((next : Nat) : Int)] W fun e W' => e = .returned (.int .u64 ((nextJ l next : Nat) : Int)) ∧ W' = W := by
  have hl := hR.len
  by_cases h0 : n = 0
  · subst h0
    have e : l = [] := List.eq_nil_of_length_eq_zero hl
    subst e
    have e2 : nextJ [] next = max next 1 := rfl
    rw [e2] at hs ⊢
    clear hR hl e2 hs
    by_cases h1 : next = 0
    · subst h1
      go_enter Tryz.func32, Tryz.ntmps32
      go_wp2_with fail
      go_ret
      exact ⟨rfl, rfl⟩
    · have e3 : max next 1 = next := by omega
      rw [e3]
      have t2 : max (next : Int) 1 = (next : Int) := by omega
      clear h1 e3
      go_enter Tryz.func32, Tryz.ntmps32
      go_wp2_with fail
      go_ret
      exact ⟨rfl, rfl⟩
  · obtain ⟨r, hr⟩ : ∃ r, l[n - 1]? = some r := ⟨_, List.getElem?_eq_getElem (by omega)⟩
    obtain ⟨g, o, rfl, _, _, f0, _⟩ := Rcs.at_ hR hr
    have e2 : nextJ l next = r.seq + 1 := by
      unfold nextJ
      rw [List.getLast?_eq_getElem?, hl, hr]
    rw [e2] at hs ⊢
    obtain ⟨k, hk⟩ : ∃ k, n - 1 = k := ⟨_, rfl⟩
    rw [hk] at f0
    have t1 : (n : Int) - 1 = (k : Int) := by omega
    have t2 : ((n : Int) == 0) = false := by simp; omega
    have t3 : k < n := by omega
    have t4 : (k : Int) < (n : Int) := by omega
    obtain ⟨s, hs2⟩ : ∃ s, r.seq = s := ⟨_, rfl⟩
    rw [hs2] at f0 hs ⊢
    have hw : IntKind.u64.wrap ((s : Int) + 1) = ((s + 1 : Nat) : Int) := by rw [IntKind.wrap_u64]; omega
    clear hR hl h0 hr e2 hk hs2 hs
    go_enter Tryz.func32, Tryz.ntmps32
    go_wp2_with fail
    go_ret
    exact ⟨rfl, rfl⟩

set_option maxRecDepth 100000 in
theorem lfresh_any (A : Option Addr) (n c : Nat) (l : List Nat) (S : Nat → Prop) (W : World) (hR : Nts W S A n l) (hn : n ≤ 1000000) (hs : ∀ x ∈ l, x + 1 < 18446744073709551616) :
    Calls Tryz.prog 33 #[.slice A n c] W fun e W' => e = .returned (.int .u64 (((l.getLast?.map fun x => x + 1).getD 1 : Nat) : Int)) ∧ W' = W := by
  have hl := hR.len
  by_cases h0 : n = 0
  · subst h0
    have e : l = [] := List.eq_nil_of_length_eq_zero hl
    subst e
    clear hR hl hs
    go_enter Tryz.func33, Tryz.ntmps33
    go_wp2_with fail
    go_ret
    exact ⟨rfl, rfl⟩
  · obtain ⟨r, hr⟩ : ∃ r, l[n - 1]? = some r := ⟨_, List.getElem?_eq_getElem (by omega)⟩
    obtain ⟨g, o, rfl, _, _, f0⟩ := hR.at_ hr
    have e2 : (l.getLast?.map fun x => x + 1).getD 1 = r + 1 := by
      rw [List.getLast?_eq_getElem?, hl, hr]
      rfl
    rw [e2]
    have hs1 := hs r (List.mem_of_getElem? hr)
    obtain ⟨k, hk⟩ : ∃ k, n - 1 = k := ⟨_, rfl⟩
    rw [hk] at f0
    have t1 : (n : Int) - 1 = (k : Int) := by omega
    have t2 : ((n : Int) == 0) = false := by simp; omega
    have t3 : k < n := by omega
    have t4 : (k : Int) < (n : Int) := by omega
    have hw : IntKind.u64.wrap ((r : Int) + 1) = ((r + 1 : Nat) : Int) := by rw [IntKind.wrap_u64]; omega
    clear hR hl h0 hr e2 hk hs hs1
    go_enter Tryz.func33, Tryz.ntmps33
    go_wp2_with fail
    go_ret
    exact ⟨rfl, rfl⟩

end Go.Proofs.YthjikbhjciphiaaGreatDoor

/-
  The program's journal: Open.
-/
namespace Go.Proofs.YthjikbhjciphiaaGreatDoor
open Go.RowKit
set_option linter.unusedVariables false
set_option linter.unusedSimpArgs false

/-- What an opening leaves. -/
def OpPost (W : World) (q : Nat) (r : Jn × List Rc) (e : Ending) (W' : World) : Prop :=
  ∃ p A n c, e = .returned (.tuple #[.pointer (some ⟨p, 0, none⟩), .slice A n c, .int .i64 0]) ∧ LDat W' (fun k => k = p) p q r.1 none 0 ∧ W.heap.size ≤ p ∧ Rcs W' (fun k => k < W.heap.size ∨ k = p) A n r.2 ∧ n ≤ c ∧ c ≤ maxLen ∧ Below W.heap.size W W'
theorem txs_own {w : World} {base : Nat} {A : Option Addr} {n c : Nat} {ns : List (List UInt8)} (h : w.ownsRow base 9 1 (.slice A n c) n (wsV ns)) : Txs w (fun k => w.heap.size ≤ k) A n ns := by
  have hl : ns.length = n := by
    have := h.1
    unfold wsV at this
    simpa using this
  refine Sls.of_own h ?_ (ones_one _) (by rw [ones_len, List.length_map]; exact hl) (fun k hk => .inr hk)
  clear h hl
  induction ns with
  | nil => rfl
  | cons s t ih => exact ⟨_, _, rfl, rfl, ih⟩
theorem nextJ_pos (l : List Rc) (next : Nat) : 1 ≤ nextJ l next := by
  unfold nextJ
  split <;> omega

theorem lopen_nil (W : World) (next : Nat) : Calls Tryz.prog 10 #[.pointer none, .int .u64 ((next : Nat) : Int)] W fun e W' => e = .returned (.tuple #[.pointer none, .slice none 0 0, .int .i64 8]) ∧ W' = W := by
  go_enter Tryz.func10, Tryz.ntmps10
  go_wp2_with fail
  go_ret3
  exact ⟨rfl, rfl⟩

theorem lopen_down (W : World) (S : Nat → Prop) (q : Nat) (m : Dk) (next : Nat) (hP : PD W S q m) (hd : m.down = true) : Calls Tryz.prog 10 #[.pointer (some ⟨q, 0, none⟩), .int .u64 ((next : Nat) : Int)] W fun e W' => e = .returned (.tuple #[.pointer none, .slice none 0 0, .int .i64 19]) ∧ W' = W := by
  obtain ⟨mb, l, kp, L, G, h⟩ := hP
  have hdn := pdown_any W h
  rw [hd] at hdn
  clear h hd
  go_enter Tryz.func10, Tryz.ntmps10
  go_wp2_with fail
  refine hdn.mono ?_
  rintro e w1 ⟨rfl, rfl⟩
  go_wp2_with fail
  go_ret3
  exact ⟨rfl, rfl⟩

set_option maxRecDepth 100000 in
set_option maxHeartbeats 1000000 in
theorem lopen_any (W : World) (S : Nat → Prop) (q : Nat) (m : Dk) (next own : Nat) (pre : List (Nat × List UInt8)) (R0 cur : List Rc) (hS : SV W) (hP : PD W S q m) (hO : OkJ m) (hH : HeldJ m.files own pre R0 cur) (hup : m.down = false) (hnx : next < 18446744073709551616) (hs : (openJ m next).1.next < 18446744073709551616) :
    Calls Tryz.prog 10 #[.pointer (some ⟨q, 0, none⟩), .int .u64 ((next : Nat) : Int)] W (OpPost W q (openJ m next)) := by
  obtain ⟨hx, hfl, hfs, _⟩ := hO
  have hOk := okd_of hH hx (by omega) (by omega) (by omega)
  have hdn : Calls Tryz.prog 15 #[.pointer (some ⟨q, 0, none⟩)] W fun e W' => e = .returned (.bool false) ∧ W' = W := by
    obtain ⟨mb, l, kp, L, G, h⟩ := hP
    have := pdown_any W h
    rwa [hup] at this
  have hLs := plist_any W S q m hP hOk
  have hnam : ∀ s ∈ m.files.map Fl.name, s.length ≤ 281474976710656 := by
    intro s hs
    rw [hH.all.1, List.map_map] at hs
    obtain ⟨p, _, rfl⟩ := List.mem_map.1 hs
    show (nameL p.1).length ≤ _
    rw [nameL_len]
    omega
  have hNm := fun A n c w h1 h2 h3 => snumbers_any A n c (m.files.map Fl.name) w h1 h2 hnam h3
  have hj : openJ m next = (⟨(((segsD m.files).map Prod.fst).getLast?.map fun x => x + 1).getD 1, nextJ (segsR [] ((segsD m.files).map Prod.snd)) next, nextJ (segsR [] ((segsD m.files).map Prod.snd)) next - 1, [], 0⟩, segsR [] ((segsD m.files).map Prod.snd)) := by
    unfold openJ
    rw [List.getLast?_map, Option.map_map]
    rfl
  have hnx2 : nextJ (segsR [] ((segsD m.files).map Prod.snd)) next < 18446744073709551616 := hs
  have hsum := hH.sums
  have hr64 : ∀ x ∈ (segsD m.files).map Prod.fst, x + 1 < 18446744073709551616 := by
    intro x hx
    rw [hH.all.2.1] at hx
    obtain ⟨p, hp, rfl⟩ := List.mem_map.1 hx
    have hsm := hH.small
    unfold allJ at hp
    rcases List.mem_append.1 hp with hp | hp
    · have := hH.less p hp; omega
    · split at hp
      · cases hp
      · rw [List.mem_singleton.1 hp]; show own + 1 < _; omega
  have hflen : ((segsD m.files).map Prod.fst).length ≤ 190 := by
    have h1 : (segsD m.files).length ≤ m.files.length := by unfold segsD; exact List.length_filterMap_le _ _
    rw [List.length_map]
    omega
  have HH := Lib.hid (And.intro hP (And.intro hOk (And.intro hH (And.intro hup (And.intro hj (And.intro hS (And.intro hsum hfs)))))))
  rw [hj]
  obtain ⟨Ns, hNs⟩ : ∃ Ns, (segsD m.files).map Prod.fst = Ns := ⟨_, rfl⟩
  obtain ⟨RR, hRR⟩ : ∃ RR, segsR [] ((segsD m.files).map Prod.snd) = RR := ⟨_, rfl⟩
  have hrl : RR.length ≤ 20000 := by
    rw [← hRR]
    have h1 := segsR_len ((segsD m.files).map Prod.snd) []
    simp at h1
    omega
  rw [hNs] at hr64 hflen ⊢
  rw [hRR] at hnx2 ⊢
  obtain ⟨o, ho⟩ : ∃ o, (Ns.getLast?.map fun x => x + 1).getD 1 = o := ⟨_, rfl⟩
  have ho9 : o < 18446744073709551616 := by
    rw [← ho]
    cases hg : Ns.getLast? with
    | none => decide
    | some y => exact hr64 y (List.mem_of_getLast? hg)
  obtain ⟨x, hx2⟩ : ∃ x, nextJ RR next = x := ⟨_, rfl⟩
  have hx1 := nextJ_pos RR next
  rw [hx2] at hnx2 hx1 ⊢
  rw [ho]
  have HV := Lib.hid (And.intro hNs (And.intro hRR (And.intro ho (And.intro hx2 (And.intro ho9 (And.intro hx1 hrl))))))
  clear hNs hRR ho hx2 ho9 hx1 hrl
  clear hP hOk hH hup hj hS hsum hfs hnam hx hs
  have hfl2 : m.files.length ≤ 190 := hfl
  go_enter Tryz.func10, Tryz.ntmps10
  go_wp2_with fail
  refine hdn.mono ?_
  rintro e w1 ⟨rfl, rfl⟩
  go_wp2_with fail
  refine hLs.mono ?_
  rintro e w2 ⟨v2, rfl, ho2, hb2⟩
  obtain ⟨A2, c2, rfl, q1, q2, q3⟩ := own_form ho2
  have s2 := HH.out.2.2.2.2.2.1.below hb2
  have hNm2 := hNm A2 m.files.length c2 w2 s2 (txs_own ho2) (by omega)
  have HB2 := Lib.hid hb2
  clear hLs hdn ho2 hb2 hNm s2 q1 q2 q3
  go_wp2_with fail
  refine hNm2.mono ?_
  rintro e w3 ⟨A3, n3, c3, R3, rfl, hN3, hb3, hQ⟩
  obtain ⟨hR, hdat⟩ := HH.out.2.2.1.nums hQ
  rw [HV.out.1] at hR
  subst hR
  have hdat2 := hdat m rfl HH.out.2.2.2.1
  have hbb := bthen HB2.out hb3
  have hl3 := hN3.len
  have hRd := lread_any w3 S q m A3 n3 c3 _ (HH.out.1.below hbb) HH.out.2.1 hN3 (by omega) (fun x hx => by have := hr64 x hx; omega) (HH.out.2.2.2.2.2.1.below hbb)
  rw [hdat2] at hRd
  have H3 := Lib.hid (And.intro hbb (And.intro hN3 (And.intro hr64 hl3)))
  have hn3 : n3 ≤ 190 := by omega
  clear hNm2 hQ hb3 hbb hdat hdat2 hN3 hr64 hl3 hflen
  go_wp2_with fail
  refine hRd.mono ?_
  rintro e w4 ⟨A4, c4, rfl, hL4, hb4⟩
  have hbb4 := bthen H3.out.1 hb4
  have hN4 := H3.out.2.1.below hb4
  have hsr := srecords_off A4 n3 c4 _ w4 (HH.out.2.2.2.2.2.1.below hbb4) hL4 (by have := HH.out.2.2.2.2.2.2; omega) (by omega)
  rw [HV.out.2.1] at hsr
  have hrl := HV.out.2.2.2.2.2.2
  have H4 := Lib.hid (And.intro hbb4 hN4)
  clear hRd hL4 hb4 hbb4 hN4
  go_wp2_with fail
  refine hsr.mono ?_
  rintro e w5 ⟨A5, n5, c5, rfl, hR5, q1, q2, q3, hb5⟩
  have hl5 := hR5.len
  have hBe := lbehind_any A5 n5 c5 RR _ next w5 hR5 (by omega) hnx (by rw [HV.out.2.2.2.1]; exact hnx2)
  have hFr := lfresh_any A3 n3 c3 R3 _ w5 (H4.out.2.below hb5) (by omega) H3.out.2.2.1
  rw [HV.out.2.2.2.1] at hBe
  rw [HV.out.2.2.1] at hFr
  have H5 := Lib.hid (And.intro (bthen H4.out.1 hb5) (And.intro hR5 (And.intro q1 q2)))
  have HSZ := Lib.hid H4.out.1.size
  clear hsr hR5 hb5 hl5 q1 q2 q3 hrl
  go_wp2_with fail
  refine hBe.mono ?_
  rintro e w6 ⟨rfl, rfl⟩
  go_wp2_with fail
  refine hFr.mono ?_
  rintro e w7 ⟨rfl, rfl⟩
  go_wp2_with fail
  go_ret3
  obtain ⟨g1, g2, g3, g4⟩ := H5.out
  have hba := (Below.refl w7.heap.size w7).alloc (Nat.le_refl _) (.cells #[.pointer (some ⟨q, 0, none⟩), .int .u64 ((x : Nat) : Int), .slice none 0 0, .int .u64 ((o : Nat) : Int), .int .i64 0] 68)
  refine ⟨w7.heap.size, A5, n5, c5, rfl, ⟨Blk.new _ _ _ rfl, World.ownsRow_nil _ _ _ _, fun k => by simp, ?_, ⟨hnx2, HV.out.2.2.2.2.1, (show (0 : Nat) < 1000000000 by decide)⟩⟩, g1.size, Rcs.below (Sls.more g2 fun k hk hlt => ?_) hba, g3, g4, g1.alloc g1.size _⟩
  · show x = x - 1 + 1 + 0
    have := HV.out.2.2.2.2.2.1
    omega
  · have := HSZ.out
    rcases hk with hk | hk <;> omega

end Go.Proofs.YthjikbhjciphiaaGreatDoor
