/-
  The program's numbers of names: read, in order, each once.
-/
import Derived.Test.YtgococpbhbcpmaaDoorSpC
import Derived.Test.YtgococpbhbcpmaaDoorSgC
import Derived.Test.YtgococpbhbcpmaaDoorSoN
import Derived.Test.YtgococpbhbcpmaaDoorVals
import Derived.Test.YtgococpbhbcpmaaDoorSiz
namespace Go.Proofs.YtgococpbhbcpmaaDoor
open Go.RowKit
set_option linter.unusedVariables false
set_option linter.unusedSimpArgs false

theorem Tryd.infoU64 : (Tryd.prog.info? 22).map (fun i => (i.zero, i.size, i.bytes)) = some (some (.int .u64 0), 1, 8) := by kernel_rfl

theorem nts_cells {w : World} {S : Nat → Prop} {g : Nat} {R : List Nat} (hg : g < w.heap.size) (hs : ¬ S g) (h : ∀ j x, R[j]? = some x → w.cell? ⟨g, j, none⟩ = some (.int .u64 (x : Nat))) : Nts w S (some ⟨g, 0, none⟩) R.length R := by
  refine ⟨by rw [ones_len, List.length_map], ones_one _, fun _ => ⟨g, 0, rfl, hs, hg, fun j f hj => ?_⟩⟩
  unfold ones at hj
  rw [List.getElem?_map, List.getElem?_map] at hj
  obtain ⟨p, hp, rfl⟩ := Option.map_eq_some_iff.1 hj
  obtain ⟨x, hx, rfl⟩ := Option.map_eq_some_iff.1 hp
  refine ⟨[.int .u64 (x : Int)], ⟨_, [], rfl, rfl, rfl⟩, fun i y hy => ?_⟩
  match i, hy with
  | 0, hy =>
    simp at hy
    subst hy
    rw [Nat.mul_one, Nat.zero_add, Nat.add_zero]
    exact h j x hx

/-- The numbers of the first names. -/
def numsL (L : List (List UInt8)) : List Nat := L.filterMap fun s => if (numC s).2 then some (numC s).1 else none
theorem numsL_snoc (L : List (List UInt8)) (s : List UInt8) (x : Nat) (is : Bool) (h : numC s = (x, is)) : numsL (L ++ [s]) = numsL L ++ if is then [x] else [] := by
  unfold numsL
  rw [List.filterMap_append]
  congr 1
  cases is <;> simp [h]
theorem numsL_len (L : List (List UInt8)) : (numsL L).length ≤ L.length := List.length_filterMap_le _ _
theorem mem_numsL (L : List (List UInt8)) (x : Nat) : x ∈ numsL L ↔ ∃ s ∈ L, numC s = (x, true) := by
  unfold numsL
  rw [List.mem_filterMap]
  constructor
  · rintro ⟨s, hs, h⟩
    refine ⟨s, hs, ?_⟩
    split at h
    · next h2 => cases h; exact Prod.ext rfl h2
    · cases h
  · rintro ⟨s, hs, h⟩
    exact ⟨s, hs, by rw [h]; rfl⟩
theorem numsQ_of {L : List (List UInt8)} {zs R : List Nat} (hp : zs.Perm (numsL L)) (h : CmpQ zs R) : NumsQ L R :=
  ⟨fun x => by rw [h.1 x, hp.mem_iff, mem_numsL], h.2.1, by have := h.2.2; rw [hp.length_eq] at this; exact Nat.le_trans this (numsL_len L)⟩

set_option maxRecDepth 100000 in
theorem compact_nil (W : World) : Calls Tryd.prog 16 #[.slice none 0 0] W fun e W' => e = .returned (.slice none 0 0) ∧ W' = W := by
  go_enter Tryd.func16, Tryd.ntmps16
  go_wp2_with fail
  go_ret
  exact ⟨rfl, rfl⟩

/-- What stands between two names. -/
def NumI (W : World) (L : List (List UInt8)) (j m : Nat) (v : Value) (w : World) : Prop := m = (numsL (L.take j)).length ∧ w.ownsRow W.heap.size 22 1 v m ((numsL (L.take j)).map nu) ∧ Below W.heap.size W w
/-- What Numbers leaves. -/
def NumP (W : World) (L : List (List UInt8)) (e : Ending) (W' : World) : Prop := ∃ A' k c' R, e = .returned (.slice A' k c') ∧ Nts W' (fun j => W'.heap.size ≤ j) A' k R ∧ Below W.heap.size W W' ∧ NumsQ L R

set_option maxRecDepth 100000 in
set_option maxHeartbeats 4000000 in
theorem snumbers_any (A : Option Addr) (n c : Nat) (L : List (List UInt8)) (W : World) (hS : SV W) (hL : Txs W (fun k => W.heap.size ≤ k) A n L) (hLl : ∀ s ∈ L, s.length ≤ 281474976710656) (hn : n ≤ 1000000000) :
    Calls Tryd.prog 10 #[.slice A n c] W (NumP W L) := by
  obtain ⟨i0, hi, hz0, hz1, hz2⟩ := info_parts Tryd.infoU64
  have hLn := hL.len
  have HL := Lib.hid (And.intro hL (And.intro hLl hLn))
  clear hL hLl hLn
  go_enter Tryd.func10, Tryd.ntmps10
  go_wp2_with fail
  go_loopw [3, 10] (fun v i wr => ∃ j m : Nat, i = .int .i64 j ∧ j ≤ n ∧ NumI W L j m v wr) (fun _ i _ => n - (intOf i).toNat)
  case atStart => exact ⟨0, 0, rfl, Nat.zero_le _, rfl, World.ownsRow_nil _ _ _ _, Below.refl _ _⟩
  case round =>
    obtain ⟨j, m, rfl, hj, hm, hown, hb⟩ := hrel
    obtain ⟨A2, c2, rfl, hn2, hl2, hm2⟩ := own_form hown
    have hml : m ≤ j := by
      rw [hm]
      refine Nat.le_trans (numsL_len _) ?_
      rw [List.length_take]
      exact Nat.min_le_left _ _
    have hsz := hb.size
    by_cases hlt : j < n
    · have t1 : (j : Int) < (n : Int) := by omega
      have hj9 : j ≤ 1000000000 := by omega
      have hm9 : m ≤ 1000000000 := by omega
      obtain ⟨s, hs⟩ : ∃ s, L[j]? = some s := ⟨_, List.getElem?_eq_getElem (by have := HL.out.2.2; omega)⟩
      have hsm := HL.out.2.1 s (List.mem_of_getElem? hs)
      obtain ⟨g, o, rfl, _, hgl, hcell⟩ := Txs.at_ (HL.out.1.below hb) hs
      have hNu := snumber_any ⟨s.toArray⟩ wr (by show s.toArray.size ≤ _; rw [List.size_toArray]; exact hsm) (hS.below hb)
      rw [show (⟨s.toArray⟩ : ByteArray).data.toList = s from rfl] at hNu
      obtain ⟨q, hq⟩ : ∃ q, numC s = q := ⟨_, rfl⟩
      obtain ⟨x, is⟩ := q
      have htk : numsL (L.take (j + 1)) = numsL (L.take j) ++ if is then [x] else [] := by
        rw [List.take_add_one, hs]
        exact numsL_snoc _ _ _ _ hq
      have hsg : segN s = if is then (x, 0) else (0, 2) := by unfold segN; rw [hq]
      rw [hsg] at hNu
      cases is with
      | false =>
        have HI := Lib.hid (show NumI W L (j + 1) m (.slice A2 m c2) wr ∧ j < n from ⟨by unfold NumI; rw [htk]; exact ⟨by simpa using hm, by simpa using hown, hb⟩, hlt⟩)
        clear hown hb hm hml hs hsm hq htk hsg hlt hj hn2 hl2 hm2 hsz
        go_wp2_with fail
        refine hNu.mono ?_
        rintro e w2 ⟨rfl, hb2⟩
        go_wp2_with fail
        go_roundw
        case rel => exact ⟨j + 1, m, by go_num, by have := HI.out.2; omega, HI.out.1.1, own_below HI.out.1.2.1 hb2, bthen HI.out.1.2.2 hb2⟩
        case measure => have := HI.out.2; simp [intOf]; omega
      | true =>
        have HI := Lib.hid (show NumI W L j m (.slice A2 m c2) wr ∧ j < n ∧ numsL (L.take (j + 1)) = numsL (L.take j) ++ [x] from ⟨⟨hm, hown, hb⟩, hlt, htk⟩)
        clear hown hb hm hml hs hsm hq htk hsg hlt hj hn2 hl2 hm2
        go_wp2_with fail
        refine hNu.mono ?_
        rintro e w2 ⟨rfl, hb2⟩
        have hown2 := own_below HI.out.1.2.1 hb2
        have hb3 := bthen HI.out.1.2.2 hb2
        have hsz2 := hb3.size
        go_wp2_with (at_builtin; refine wpList_append_vals _ rfl _ _ 32 rfl W.heap.size 22 i0 (.int .u64 0) 8 Tryd.underlying32 hi hz0 hz1 hz2 rfl _ _ _ rfl (hown2.alloc _) (w2.heap.size + 1) _ 1 1 [nu x] rfl ?c1 ?c2 ?c3 ?c4 ?c5 ?c6 ?_)
        case c1 => exact Vals.one _ _ _ rfl _
        case c2 => intro h; cases h
        case c3 => intro u hu; rw [List.mem_singleton.1 hu]; rfl
        case c4 => omega
        case c5 => omega
        case c6 => simp; omega
        intro v' w3 hown3 hgrow
        have hb4 := own_step hb3 (Nat.le_refl _) hown2 hgrow
        have HF := Lib.hid (show NumI W L (j + 1) (m + 1) v' w3 from ⟨by rw [HI.out.2.2, List.length_append, ← HI.out.1.1]; rfl, by rw [HI.out.2.2, List.map_append]; exact hown3, hb4⟩)
        obtain ⟨A3, c3, rfl, _, _, _⟩ := own_form hown3
        clear hown2 hb3 hown3 hgrow hb4
        go_wp2_with fail
        go_roundw
        case rel => exact ⟨j + 1, m + 1, by go_num, by have := HI.out.2.1; omega, HF.out⟩
        case measure => have := HI.out.2.1; simp [intOf]; omega
    · have t1 : ¬ (j : Int) < (n : Int) := by omega
      obtain rfl : j = n := by omega
      have htk : L.take j = L := List.take_of_length_le (by have := HL.out.2.2; omega)
      rw [htk] at hm hown
      have HB := Lib.hid hb
      rcases hown.2 with ⟨hv, hm0⟩ | ⟨g, cap, cur, hv, hBg, hgh, hmc, hcm, _⟩
      · cases hv
        have hx : numsL L = [] := List.length_eq_zero_iff.1 (by omega)
        have hS1 := sort_nil wr
        have hC := compact_nil wr
        clear hown hb hm hml hlt hj hn2 hl2 hm2 hsz hm0 htk
        go_wp2_with fail
        refine hS1.mono ?_
        rintro e w2 ⟨rfl, rfl⟩
        go_wp2_with fail
        refine hC.mono ?_
        rintro e w3 ⟨rfl, rfl⟩
        go_wp2_with fail
        go_ret
        exact ⟨none, 0, 0, [], rfl, One.nil, HB.out, fun x => by rw [← mem_numsL, hx], (fun i x y h => by simp at h), Nat.zero_le _⟩
      · cases hv
        have hS1 := sort_any W.heap.size g m c2 (by omega) (numsL L) wr hown
        have hgl : g < wr.heap.size := by
          rcases Nat.lt_or_ge g wr.heap.size with h | h
          · exact h
          · rw [Array.getElem?_eq_none h] at hgh; cases hgh
        have HG := Lib.hid (show W.heap.size ≤ g ∧ m ≤ c2 ∧ c2 ≤ maxLen ∧ m ≤ 1000000000 ∧ g < wr.heap.size ∧ W.heap.size ≤ wr.heap.size from ⟨hBg, hmc, hcm, by omega, hgl, hsz⟩)
        clear hown hb hm hml hlt hj hn2 hl2 hm2 hsz htk hBg hgh hmc hcm hgl
        go_wp2_with fail
        refine hS1.mono ?_
        rintro e w2 ⟨rfl, zs, hr2, ht2, hs2, hz2⟩
        have hC := compact_any W.heap.size g m c2 HG.out.2.2.2.1 HG.out.2.1 HG.out.2.2.1 zs w2 hr2 hz2
        have HP := Lib.hid (And.intro hs2.perm ht2)
        clear hr2 ht2 hs2 hz2 hS1
        go_wp2_with fail
        refine hC.mono ?_
        rintro e w3 ⟨R, rfl, hcs, ht3, hQ⟩
        have HR := Lib.hid (show NumP W L (.returned (.slice (some ⟨g, 0, none⟩) R.length c2)) w3 from by
          have ht := HP.out.2.trans ht3
          have hg := HG.out
          have hsz := ht.size
          exact ⟨_, _, _, R, rfl, nts_cells (by omega) (by omega) hcs, (HB.out).trans (ht.below (by omega) (fun k hk => by omega)), numsQ_of HP.out.1 hQ⟩)
        clear hcs ht3 hQ
        go_wp2_with fail
        go_ret
        exact HR.out

theorem segS_all : SegS SV := ⟨segN_all, fun A n c L W hS hL hl _ _ _ hn => snumbers_any A n c L W hS hL hl (by omega)⟩

theorem segNumbers_row (A : Option Addr) (n c : Nat) (L : List (List UInt8)) (W : World) (hL : Txs W (fun k => W.heap.size ≤ k) A n L) (hLl : ∀ s ∈ L, s.length ≤ 140737488351232) (hnil : A = none → c = 0) (hnc : n ≤ c) (hcm : c ≤ maxLen) (hS : SV W) :
    Calls Tryd.prog 4 #[.slice A n c] W fun e W' => e = .returned (.bool true) ∧ Below W.heap.size W W' :=
  segNumbers_law segS_all A n c L W hS hL (fun s hs => Nat.le_trans (hLl s hs) (by decide)) hnil hnc hcm

end Go.Proofs.YtgococpbhbcpmaaDoor
