/-
  Package name: the bytes of digits.
-/
import Derived.Test.YtpjjmnkiepdllaaGreatDoorNaK
namespace Go.Proofs.YtpjjmnkiepdllaaGreatDoor
open Go.RowKit
set_option linter.unusedVariables false
set_option linter.unusedSimpArgs false

/-- What Bytes answers: which error, which bytes. -/
def bytesE (l : List UInt8) : Int := if okHex l then 0 else 2
def bytesL (l : List UInt8) : List UInt8 := if okHex l then unhex l else []

theorem enters_hex : ∀ args w, (callFunc 52 args).run Tryz.prog w = .ok (.enter 52 args) w := enters_of Tryz.func52 (by kernel_rfl) rfl

theorem onlyHex_any (s : ByteArray) (W : World) :
    Calls Tryz.prog 47 #[.string s, .func (.func 52) #[] #[]] W fun e W' => e = .returned (.bool (allR hexR s.data.toList)) ∧ Below W.heap.size W W' :=
  only_any 52 hexR hexR_high enters_hex (fun r w h => isHexDigit_any r h w) s W

theorem allR_at (p : Int → Bool) (l : List UInt8) (h : allR p l = true) (k : Nat) (b : UInt8) (hb : l[k]? = some b) : p ((b.toNat : Nat) : Int) = true := by
  unfold allR at h
  rw [List.all_eq_true] at h
  exact h b (List.mem_of_getElem? hb)

set_option maxRecDepth 100000 in
set_option maxHeartbeats 2000000 in
theorem bytes_good (s : ByteArray) (hs : s.size ≤ 10000) (m : Nat) (hm : s.size = 2 * m) (hm0 : 0 < m) (h45 : (s.toList == [45]) = false) (h0 : (s.toList == []) = false) (hall : allR hexR s.data.toList = true) (W : World) :
    Calls Tryz.prog 40 #[.string s] W fun e W' => ∃ A c, e = .returned (.tuple #[.slice A m c, .int .i64 0]) ∧
      W'.ownsRow W.heap.size 5 1 (.slice A m c) m ((outL s.data.toList s.size m).map bv) ∧ Below W.heap.size W W' := by
  obtain ⟨i0, hi, hz0, hz1, hz2⟩ := info_parts Tryz.info5
  have hm2 : ((s.size : Int)) % 2 = 0 := by omega
  have hm3 : ((s.size : Int)) / 2 = (m : Int) := by omega
  have HALL := Lib.hid hall
  have HM := Lib.hid hm
  have hm500 : m ≤ 5000 := by omega
  have hon := fun w => onlyHex_any s w
  rw [hall] at hon
  clear hall hm
  go_enter Tryz.func40, Tryz.ntmps40
  go_wp2_with fail
  refine (hon _).mono ?_
  rintro e Wc ⟨rfl, hbc⟩
  clear hon
  go_wp2_with (first
      | (at_make; refine wpList_make_byt _ rfl _ _ 34 rfl Wc.heap.size 5 i0 Tryz.underlying34 hi hz0 hz1 hz2 .i64 .i64 _ _ m m rfl rfl rfl rfl (Nat.le_refl _) (by omega) (Nat.le_refl _) ?_;
         intro w1 hown1 hg1;
         have hb1 : Below Wc.heap.size Wc w1 := (Below.refl _ _).grown hg1 (Nat.le_refl _) (by intro k h; cases h);
         clear hg1))
  have hgt : Wc.heap.size < w1.heap.size := (hown1.lt Wc.heap.size rfl).2
  obtain ⟨G, hG⟩ : ∃ G, Wc.heap.size = G := ⟨_, rfl⟩
  obtain ⟨IT, hIT⟩ : ∃ IT, w1.heap.size = IT := ⟨_, rfl⟩
  have hWG : W.heap.size ≤ G := by rw [← hG]; exact hbc.size
  have hB1 : Below W.heap.size W w1 := bthen hbc hb1
  rw [← outL_zero s.data.toList m, hG] at hown1
  rw [hG, hIT] at hgt
  have hB2 : Below W.heap.size W (w1.iter s 0) := hB1.alloc (by rw [hIT]; omega) _
  have hit0 : (w1.iter s 0).heap[IT]? = some (.stringIter s 0) := by rw [← hIT]; exact World.iter_heap w1 s 0
  have hown2 := hown1.alloc (.stringIter s 0)
  rw [hG, hIT]
  clear hown1 hb1 hB1 hIT hG hbc
  go_loopw [] (fun wr => ∃ pos : Nat, pos ≤ s.size ∧ wr.heap[IT]? = some (.stringIter s pos) ∧ wr.ownsRow G 5 1 (.slice (some ⟨G, 0, none⟩) m m) m ((outL s.data.toList pos m).map bv) ∧ Below W.heap.size W wr)
    (fun wr => s.size - wr.iterPos IT)
  case atStart => exact ⟨0, Nat.zero_le _, hit0, hown2, hB2⟩
  case round =>
    obtain ⟨pos, hps, hit, hown, hbw⟩ := hrel
    clear hown2 hB2 hit0
    have hsz : IT < wr.heap.size := (Array.getElem?_eq_some_iff.1 hit).1
    by_cases hp' : pos < s.size
    · have hby := byte_at s pos hp'
      have hx1 := allR_at _ _ HALL.out _ _ hby
      have ha : (s[pos]'hp').toNat < 128 := by
        by_cases h : (s[pos]'hp').toNat < 128
        · exact h
        · have := hexR_high (((s[pos]'hp').toNat : Nat) : Int) (by omega)
          rw [this] at hx1
          cases hx1
      have hnx : ∀ ty, (Instr.next (.pointer (some ⟨IT, 0, none⟩)) true ty).run Tryz.prog wr = _ := fun ty => Lib.run_next_ascii_at wr IT s pos ty hit hp' ha
      obtain ⟨x, hx⟩ : ∃ x, s[pos]'hp' = x := ⟨_, rfl⟩
      rw [hx] at hnx hby ha hx1
      clear hx
      have hit2 := Lib.iterAt_heap wr IT s pos (pos + 1) hit
      have hbw2 := Lib.below_iterAt hbw (k := IT) (by omega) s (pos + 1)
      have hown3 := own_iterAt hown (k := IT) (by omega) s (pos + 1)
      obtain ⟨w2, hw2⟩ : ∃ w2, wr.iterAt IT s (pos + 1) = w2 := ⟨_, rfl⟩
      rw [hw2] at hnx hit2 hbw2 hown3
      have hsz2 : wr.heap.size = w2.heap.size := by rw [← hw2, Lib.iterAt_size]
      obtain ⟨j, hj⟩ : ∃ j, pos / 2 = j := ⟨_, rfl⟩
      have hjm : j < m := by have := HM.out; omega
      have hjp : ((pos : Nat) : Int) / 2 = (j : Int) := by omega
      have hjm2 : (j : Int) < (m : Int) := by omega
      have hj0 : (0 : Int) ≤ (j : Int) := Int.natCast_nonneg _
      have hjw : IntKind.i64.wrap (j : Int) = (j : Int) := wrap_small _ hj0 (by omega)
      have hjt : ((pos : Nat) : Int).tdiv 2 = (j : Int) := by rw [Int.tdiv_eq_ediv_of_nonneg (by omega)]; exact hjp
      obtain ⟨hnow, hlow⟩ := outAt_now _ pos x hby
      have hstep := outL_step s.data.toList pos m (by omega)
      rw [hj] at hnow hlow hstep
      rw [hnow] at hstep
      obtain ⟨q, hq⟩ : ∃ q, outAt s.data.toList pos j = q := ⟨_, rfl⟩
      obtain ⟨v, hv1⟩ : ∃ v, hv x = v := ⟨_, rfl⟩
      rw [hq] at hstep hlow
      rw [hv1] at hstep
      have hv16 : v < 16 := by rw [← hv1]; exact hv_lt16 x
      have hcell : w2.cell? ⟨G, j, none⟩ = some (.int .u8 (q : Int)) := by
        rw [hown3.cellAt j (by omega), List.getElem?_map, outL_at _ _ _ _ hjm, hq]
        show some (bv (UInt8.ofNat q)) = _
        unfold bv
        rw [ofNat_mod, Nat.mod_eq_of_lt (by omega)]
      have hfz := hown3.frozenAt j
      have hI : ∀ w : World, Calls Tryz.prog 53 #[.string ⟨#[48, 49, 50, 51, 52, 53, 54, 55, 56, 57, 97, 98, 99, 100, 101, 102]⟩, .int .i32 ((x.toNat : Nat) : Int)] w fun e w' => e = .returned (.int .i64 (v : Int)) ∧ w' = w := by
        intro w
        refine (Tryz.strings_IndexRune_ascii hexT ((x.toNat : Nat) : Int) w (by omega) (by omega)).mono ?_
        rintro e w' ⟨rfl, rfl⟩
        have h1 := hexIx_low ⟨x.toNat, ha⟩
        have h2 := hexIx_is ((x.toNat : Nat) : Int)
        rw [hx1] at h2
        have h3 : 0 ≤ hexIx ((x.toNat : Nat) : Int) := by simpa using h2
        refine ⟨?_, rfl⟩
        have h4 : ((hv x : Nat) : Int) = hexIx ((x.toNat : Nat) : Int) := by unfold hv; omega
        rw [← hv1, h4]
        exact congrArg (fun z => Ending.returned (.int .i64 z)) h1
      have hs1 : IntKind.u8.wrap ((q : Int) * 16) = ((16 * q : Nat) : Int) := by rw [wraps_u8 _ (by omega) (by omega)]; omega
      have hs2 : IntKind.u8.wrap (v : Int) = (v : Int) := wraps_u8 _ (by omega) (by omega)
      have hs3 : bits .or .u8 ((16 * q : Nat) : Int) (v : Int) = ((16 * q + v : Nat) : Int) := u8_or16 ⟨q, by omega⟩ ⟨v, hv16⟩
      obtain ⟨q16, hq16⟩ : ∃ z, 16 * q = z := ⟨_, rfl⟩
      obtain ⟨nw, hnw⟩ : ∃ z, 16 * q + v = z := ⟨_, rfl⟩
      rw [hq16] at hs1 hs3
      rw [hnw] at hstep
      rw [hq16] at hnw
      rw [hnw] at hs3
      have hnw2 : nw < 256 := by omega
      have HST := Lib.hid (hown3.stored j (bv (UInt8.ofNat nw)))
      have HSP := Lib.hid hstep
      have hnv : bv (UInt8.ofNat nw) = .int .u8 (nw : Int) := by unfold bv; rw [ofNat_mod, Nat.mod_eq_of_lt hnw2]
      have HNV := Lib.hid hnv
      have HBW := Lib.hid hbw2
      have HIT2 := Lib.hid hit2
      clear hnv hstep hown3 hown hbw hby hx1 hnow hq hv1 hq16 hnw hj hw2 hbw2 hit2
      go_wp2_with fail
      go_region_with ((go_at_call 53; refine (hI _).mono ?_; rintro e w' ⟨rfl, rfl⟩))
      all_goals
        have hst := HST.out
        rw [HNV.out] at hst
        have hit3 : (w2.setCell ⟨G, j, none⟩ (.int .u8 (nw : Int))).drew.heap[IT]? = some (.stringIter s (pos + 1)) := by
          rw [← HIT2.out]
          exact hst.2.block IT (by omega) (by intro h; injection h with h; omega)
        have hown4 : (w2.setCell ⟨G, j, none⟩ (.int .u8 (nw : Int))).drew.ownsRow G 5 1 (.slice (some ⟨G, 0, none⟩) m m) m ((outL s.data.toList (pos + 1) m).map bv) := by
          rw [HSP.out, List.map_set, HNV.out]
          exact hst.1.drew
        have hb4 : Below W.heap.size W (w2.setCell ⟨G, j, none⟩ (.int .u8 (nw : Int))).drew :=
          below_drew (HBW.out.grown hst.2 (by have := HBW.out.size; omega) (fun g hg => by cases hg; exact hWG))
        have HR := Lib.hid (show (w2.setCell ⟨G, j, none⟩ (.int .u8 (nw : Int))).drew.heap[IT]? = some (.stringIter s (pos + 1)) ∧ _ ∧ _ from ⟨hit3, hown4, hb4⟩)
        revert HR
        clear hst hit3 hown4 hb4 HST HNV HSP HBW HIT2 hcell hfz
        generalize (w2.setCell ⟨G, j, none⟩ (.int .u8 (nw : Int))).drew = w5
        intro HR
        go_wp2
        go_roundw
        case rel => exact ⟨pos + 1, by omega, HR.out.1, HR.out.2.1, HR.out.2.2⟩
        case measure =>
          rw [iterPos_of HR.out.1, iterPos_of hit]
          omega
    · have hnx : ∀ ty, (Instr.next (.pointer (some ⟨IT, 0, none⟩)) true ty).run Tryz.prog wr = _ := fun ty => Lib.run_next_end_at wr IT s pos ty hit hp'
      have hpe : pos = s.size := by omega
      rw [hpe] at hown
      have HO := Lib.hid hown
      clear hown hpe
      go_wp2
      go_ret2
      exact ⟨some ⟨G, 0, none⟩, m, rfl, own_mono HO.out hWG, hbw⟩


set_option maxRecDepth 100000 in
set_option maxHeartbeats 2000000 in
theorem bytes_dash (s : ByteArray) (h45 : (s.toList == [45]) = true) (W : World) :
    Calls Tryz.prog 40 #[.string s] W fun e W' => e = .returned (.tuple #[.slice none 0 0, .int .i64 0]) ∧ W' = W := by
  go_enter Tryz.func40, Tryz.ntmps40
  go_wp2
  go_ret2
  exact ⟨rfl, rfl⟩

set_option maxRecDepth 100000 in
set_option maxHeartbeats 2000000 in
theorem bytes_bad (s : ByteArray) (hs : s.size ≤ 10000) (h45 : (s.toList == [45]) = false) (hb : (decide (0 < s.size) && decide (s.size % 2 = 0) && allR hexR s.data.toList) = false) (W : World) :
    Calls Tryz.prog 40 #[.string s] W fun e W' => e = .returned (.tuple #[.slice none 0 0, .int .i64 2]) ∧ Below W.heap.size W W' := by
  by_cases h0 : 0 < s.size
  · have e0 : (s.toList == []) = false := by
      rw [ByteArray.toList_eq]
      have : s.data.toList ≠ [] := by
        intro h
        have hlen : s.data.toList.length = s.size := by simp
        rw [h] at hlen
        simp at hlen
        omega
      simpa using this
    by_cases h2 : s.size % 2 = 0
    · have e3 : ((s.size : Int) % 2) = 0 := by omega
      have ha : allR hexR s.data.toList = false := by simpa [h0, h2] using hb
      have hon := fun w => onlyHex_any s w
      rw [ha] at hon
      clear hb ha h2
      go_enter Tryz.func40, Tryz.ntmps40
      go_wp2_with fail
      refine (hon _).mono ?_
      rintro e Wc ⟨rfl, hbc⟩
      clear hon
      go_wp2_with fail
      go_ret2
      exact ⟨rfl, hbc⟩
    · have e3 : ((s.size : Int) % 2) = 1 := by omega
      clear hb h2
      go_enter Tryz.func40, Tryz.ntmps40
      go_wp2_with fail
      go_ret2
      exact ⟨rfl, Below.refl _ _⟩
  · have e0 : (s.toList == []) = true := by
      rw [ByteArray.toList_eq]
      have hlen : s.data.toList.length = s.size := by simp
      have : s.data.toList = [] := List.eq_nil_of_length_eq_zero (by omega)
      rw [this]
      rfl
    clear hb
    go_enter Tryz.func40, Tryz.ntmps40
    go_wp2_with fail
    go_ret2
    exact ⟨rfl, Below.refl _ _⟩

theorem nbytes_any (s : ByteArray) (hs : s.size ≤ 10000) (W : World) :
    Calls Tryz.prog 40 #[.string s] W fun e W' => ∃ A n c, e = .returned (.tuple #[.slice A n c, .int .i64 (bytesE s.data.toList)]) ∧
      W'.ownsRow W.heap.size 5 1 (.slice A n c) n ((bytesL s.data.toList).map bv) ∧ Below W.heap.size W W' := by
  have hlen : s.data.toList.length = s.size := by simp
  have hL := ByteArray.toList_eq s
  by_cases h45 : s.data.toList = [45]
  · refine (bytes_dash s (by rw [hL, h45]; rfl) W).mono ?_
    rintro e W' ⟨rfl, rfl⟩
    have h1 : okHex s.data.toList = true := by unfold okHex; rw [decide_eq_true h45]; rfl
    refine ⟨none, 0, 0, by unfold bytesE; rw [h1]; rfl, ?_, Below.refl _ _⟩
    unfold bytesL
    rw [h1, if_pos rfl, h45]
    exact World.ownsRow_nil _ _ _ _
  · have e45 : (s.toList == [45]) = false := by rw [hL]; simpa using h45
    have ho : okHex s.data.toList = (decide (0 < s.size) && decide (s.size % 2 = 0) && allR hexR s.data.toList) := by
      unfold okHex
      rw [decide_eq_false h45, hlen]
      rfl
    cases hk : (decide (0 < s.size) && decide (s.size % 2 = 0) && allR hexR s.data.toList)
    · refine (bytes_bad s hs e45 hk W).mono ?_
      rintro e W' ⟨rfl, hb⟩
      rw [hk] at ho
      refine ⟨none, 0, 0, by unfold bytesE; rw [ho]; rfl, ?_, hb⟩
      unfold bytesL
      rw [ho]
      exact World.ownsRow_nil _ _ _ _
    · rw [hk] at ho
      simp only [Bool.and_eq_true, decide_eq_true_eq] at hk
      obtain ⟨⟨h0, h2⟩, ha⟩ := hk
      obtain ⟨m, hm⟩ : ∃ m, s.size = 2 * m := ⟨s.size / 2, by omega⟩
      have e0 : (s.toList == []) = false := by
        rw [hL]
        have : s.data.toList ≠ [] := by
          intro h
          rw [h] at hlen
          simp at hlen
          omega
        simpa using this
      refine (bytes_good s hs m hm (by omega) e45 e0 ha W).mono ?_
      rintro e W' ⟨A, c, rfl, hown, hb⟩
      refine ⟨A, m, c, by unfold bytesE; rw [ho]; rfl, ?_, hb⟩
      unfold bytesL unhex
      rw [ho, if_pos rfl, hlen, show s.size / 2 = m by omega]
      exact hown

end Go.Proofs.YtpjjmnkiepdllaaGreatDoor
