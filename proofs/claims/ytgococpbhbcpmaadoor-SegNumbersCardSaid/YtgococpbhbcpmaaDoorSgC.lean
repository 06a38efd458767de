/-
  The statement SegNumbers by the program's contracts.
-/
import Derived.Test.YtgococpbhbcpmaaDoorSgB
namespace Go.Proofs.YtgococpbhbcpmaaDoor
open Go.RowKit
set_option linter.unusedVariables false
set_option linter.unusedSimpArgs false

/-- What Numbers tells. -/
def NumsQ (L : List (List UInt8)) (R : List Nat) : Prop :=
  (∀ x, x ∈ R ↔ ∃ s ∈ L, numC s = (x, true)) ∧ (∀ i x y, R[i]? = some x → R[i + 1]? = some y → x < y) ∧ R.length ≤ L.length
structure SegS (I : World → Prop) : Prop extends SegN I where
  numbers : ∀ (A : Option Addr) (n c : Nat) (L : List (List UInt8)) (W : World), I W → Txs W (fun k => W.heap.size ≤ k) A n L → (∀ s ∈ L, s.length ≤ 281474976710656) → (A = none → c = 0) → n ≤ c → c ≤ maxLen → n ≤ 60 →
    Calls Tryd.prog 10 #[.slice A n c] W fun e W' => ∃ A' k c' R, e = .returned (.slice A' k c') ∧ Nts W' (fun j => W'.heap.size ≤ j) A' k R ∧ Below W.heap.size W W' ∧ NumsQ L R

set_option maxRecDepth 100000 in
set_option maxHeartbeats 2000000 in
theorem segNumbers_many {I : World → Prop} (C : SegS I) (A : Option Addr) (n c : Nat) (W : World) (hI : I W) (hn : n ≤ maxLen) (h : 60 < n) :
    Calls Tryd.prog 4 #[.slice A n c] W fun e W' => e = .returned (.bool true) ∧ Below W.heap.size W W' := by
  unfold maxLen at hn
  have hA := awake13_any C.toSegN W hI
  have h1 : (60 : Int) < (n : Int) := by omega
  clear h
  go_enter Tryd.func4, Tryd.ntmps4
  go_wp2_with fail
  refine hA.mono ?_
  rintro e w1 ⟨rfl, hb1⟩
  go_wp2_with fail
  go_ret
  exact ⟨rfl, hb1⟩

/-- Is the number among the first k? -/
def among (R : List Nat) (x k : Nat) : Bool := (R.take k).any (· == x)
theorem among_succ (R : List Nat) (x k y : Nat) (h : R[k]? = some y) : among R x (k + 1) = (among R x k || (y == x)) := by
  unfold among
  rw [List.take_add_one, h, List.any_append]
  simp
def amongT (L : List (List UInt8)) (s : List UInt8) (k : Nat) : Bool := (L.take k).any (· == s)
theorem amongT_succ (L : List (List UInt8)) (s : List UInt8) (k : Nat) (y : List UInt8) (h : L[k]? = some y) : amongT L s (k + 1) = (amongT L s k || (y == s)) := by
  unfold amongT
  rw [List.take_add_one, h, List.any_append]
  simp

set_option maxRecDepth 100000 in
set_option maxHeartbeats 4000000 in
theorem segNumbers_few {I : World → Prop} (C : SegS I) (A : Option Addr) (n c : Nat) (L : List (List UInt8)) (W : World) (hI : I W) (hL : Txs W (fun k => W.heap.size ≤ k) A n L) (hLl : ∀ s ∈ L, s.length ≤ 281474976710656) (hnil : A = none → c = 0) (hnc : n ≤ c) (hcm : c ≤ maxLen) (hn : n ≤ 60) :
    Calls Tryd.prog 4 #[.slice A n c] W fun e W' => e = .returned (.bool true) ∧ Below W.heap.size W W' := by
  have hA := fun w hI => awake13_any C.toSegN w hI
  have keep := @SegN.keep I C.toSegN
  have hNum := C.numbers A n c L W hI hL hLl hnil hnc hcm hn
  have h1 : ¬ (60 : Int) < (n : Int) := by omega
  have hLn := hL.len
  have HN := Lib.hid (And.intro hn hLn)
  have HC := Lib.hid (And.intro hnil (And.intro hnc hcm))
  have HLl := Lib.hid hLl
  clear hn hLn hnil hnc hcm hLl
  go_enter Tryd.func4, Tryd.ntmps4
  go_wp2_with fail
  refine hNum.mono ?_
  rintro e w1 ⟨A1, k1, c1, R, rfl, hR, hb1, hQ⟩
  have hL1 := hL.below hb1
  have i1 := keep hI hb1
  have HQ := Lib.hid hQ
  have hRn : R.length = k1 := hR.len
  have hk1 : k1 ≤ 60 := by have := hQ.2.2; have := HN.out; omega
  have HK := Lib.hid (And.intro hRn hk1)
  clear hQ hRn hk1
  go_wp2_with fail
  go_loopw [4] (fun i wr => ∃ j : Nat, j ≤ n ∧ i = .int .i64 j ∧ wr = w1) (fun i _ => n - (intOf i).toNat)
  case atStart => exact ⟨0, Nat.zero_le _, rfl, rfl⟩
  case round =>
    obtain ⟨j, hj, rfl, rfl⟩ := hrel
    by_cases hlt : j < n
    · obtain ⟨s, hs⟩ : ∃ s, L[j]? = some s := ⟨_, List.getElem?_eq_getElem (by have := HN.out; omega)⟩
      have hsm := HLl.out s (List.mem_of_getElem? hs)
      obtain ⟨g, o, rfl, _, hgl, hcell⟩ := Txs.at_ hL1 hs
      have hjn : (j : Int) < (n : Int) := by omega
      by_cases h100 : 100 < s.length
      · have h2 : (100 : Int) < (s.length : Int) := by omega
        have hA1 := hA _ i1
        clear hlt hs hsm hj h100
        go_wp2_with fail
        refine hA1.mono ?_
        rintro e w2 ⟨rfl, hb2⟩
        go_wp2_with fail
        go_ret
        exact ⟨rfl, bthen hb1 hb2⟩
      · have h2 : ¬ (100 : Int) < (s.length : Int) := by omega
        have hRN := refSegNumber_any ⟨s.toArray⟩ (by show s.toArray.size ≤ _; rw [List.size_toArray]; omega) wr
        rw [show (⟨s.toArray⟩ : ByteArray).data.toList = s from rfl] at hRN
        have hsL := List.mem_of_getElem? hs
        obtain ⟨q, hq⟩ : ∃ q, numC s = q := ⟨_, rfl⟩
        rw [hq] at hRN
        obtain ⟨x, is⟩ := q
        have HF := Lib.hid (show is = true → among R x k1 = true by
          intro h
          subst h
          have hx := (HQ.out.1 x).2 ⟨s, hsL, hq⟩
          unfold among
          rw [List.take_of_length_le (by have := HK.out; omega), List.any_eq_true]
          exact ⟨x, hx, by simp⟩)
        simp only at hRN
        have HJ := Lib.hid (show j < n from hlt)
        clear hlt hs hsm hj h100 hsL hq
        go_wp2_with fail
        refine hRN.mono ?_
        rintro e w2 ⟨rfl, rfl⟩
        go_wp2_with fail
        go_loopw [7, 8] (fun b m w3 => ∃ t : Nat, t ≤ k1 ∧ m = .int .i64 t ∧ b = .bool (among R x t) ∧ w3 = w2) (fun _ m _ => k1 - (intOf m).toNat)
        case atStart => exact ⟨0, Nat.zero_le _, rfl, rfl, rfl⟩
        case round =>
          obtain ⟨t, ht, rfl, rfl, rfl⟩ := hrel
          by_cases htl : t < k1
          · obtain ⟨y, hy⟩ : ∃ y, R[t]? = some y := ⟨_, List.getElem?_eq_getElem (by have := HK.out; omega)⟩
            obtain ⟨g2, o2, hA1e, _, hgl2, hcell2⟩ := Nts.at_ hR hy
            have hsu := among_succ R x t y hy
            obtain ⟨b, hb⟩ : ∃ b, among R x t = b := ⟨_, rfl⟩
            rw [hb] at hsu ⊢
            have htk : (t : Int) < (k1 : Int) := by omega
            have HT := Lib.hid (show t < k1 from htl)
            have ht60 : t < 60 := by have := HK.out; omega
            have hxy : ((y : Int) == (x : Int)) = (y == x) := Bool.eq_iff_iff.2 (by simp; omega)
            obtain ⟨d, hd⟩ : ∃ d, (y == x) = d := ⟨_, rfl⟩
            rw [hd] at hxy hsu
            have HS := Lib.hid hsu
            clear hb hsu hd htl ht hy
            cases b
            · go_wp2_with fail
              go_roundw
              case rel => exact ⟨t + 1, by have := HT.out; omega, by go_num, by rw [HS.out]; rfl, trivial⟩
              case measure => have := HT.out; simp [intOf]; omega
            · go_wp2_with fail
              go_roundw
              case rel => exact ⟨t + 1, by have := HT.out; omega, by go_num, by rw [HS.out]; rfl, trivial⟩
              case measure => have := HT.out; simp [intOf]; omega
          · have htk : ¬ (t : Int) < (k1 : Int) := by omega
            obtain rfl : t = k1 := by omega
            cases is with
            | true =>
              rw [HF.out rfl]
              go_wp2_with fail
              go_roundw
              case rel => exact ⟨j + 1, by have := HJ.out; omega, by go_num, trivial⟩
              case measure => have := HJ.out; simp [intOf]; omega
            | false =>
              go_wp2_with fail
              go_roundw
              case rel => exact ⟨j + 1, by have := HJ.out; omega, by go_num, trivial⟩
              case measure => have := HJ.out; simp [intOf]; omega
    · have hjn : ¬ (j : Int) < (n : Int) := by omega
      clear hlt hj
      go_wp2_with fail
      obtain ⟨w1, rfl⟩ : ∃ w1, w1 = wr := ⟨_, rfl⟩
      go_loopw [9] (fun v w3 => ∃ i : Nat, i ≤ k1 ∧ v = .int .i64 i ∧ Below w1.heap.size w1 w3) (fun v _ => k1 - (intOf v).toNat)
      case atStart => exact ⟨0, Nat.zero_le _, rfl, Below.refl _ _⟩
      case round =>
        obtain ⟨i, hi, rfl, hb3⟩ := hrel
        have hR3 := hR.below hb3
        have hL3 := hL1.below hb3
        by_cases hil : i < k1
        · obtain ⟨r, hr⟩ : ∃ r, R[i]? = some r := ⟨_, List.getElem?_eq_getElem (by have := HK.out; omega)⟩
          obtain ⟨s0, hs0, hnum⟩ := (HQ.out.1 r).1 (List.mem_of_getElem? hr)
          have hr64 : r < 18446744073709551616 := by have := (num_is s0 (by rw [hnum])).1; rwa [hnum] at this
          have hsn : s0 = nameL r := (num_eq s0 r hr64).1 hnum
          have HF := Lib.hid (show amongT L (nameL r) n = true by
            unfold amongT
            rw [List.take_of_length_le (by have := HN.out; omega), List.any_eq_true]
            exact ⟨s0, hs0, by simp [hsn]⟩)
          have hi60 : i < 60 := by have := HK.out; omega
          have hik : (i : Int) < (k1 : Int) := by omega
          have hRN := fun w => refSegName_any r hr64 w
          have HI := Lib.hid (show i < k1 from hil)
          have HR := Lib.hid hr
          clear hnum hsn hs0 hil hi
          go_wp2_with fail
          obtain ⟨w3, rfl⟩ : ∃ w3, w3 = wr := ⟨_, rfl⟩
          go_loopw [10, 11] (fun b m w4 => ∃ t : Nat, t ≤ n ∧ m = .int .i64 t ∧ b = .bool (amongT L (nameL r) t) ∧ Below w1.heap.size w1 w4) (fun _ m _ => n - (intOf m).toNat)
          case atStart => exact ⟨0, Nat.zero_le _, rfl, rfl, hb3⟩
          case round =>
            obtain ⟨t, ht, rfl, rfl, hb4⟩ := hrel
            have hR4 := hR.below hb4
            have hL4 := hL1.below hb4
            obtain ⟨g2, o2, hA1e, _, hgl2, hcell2⟩ := Nts.at_ hR4 HR.out
            by_cases htl : t < n
            · obtain ⟨s, hs⟩ : ∃ s, L[t]? = some s := ⟨_, List.getElem?_eq_getElem (by have := HN.out; omega)⟩
              obtain ⟨g, o, hAe, _, hgl, hcell⟩ := Txs.at_ hL4 hs
              have hsu := amongT_succ L (nameL r) t s hs
              obtain ⟨b, hb⟩ : ∃ b, amongT L (nameL r) t = b := ⟨_, rfl⟩
              obtain ⟨d, hd⟩ : ∃ d, (s == nameL r) = d := ⟨_, rfl⟩
              rw [hb, hd] at hsu
              rw [hb]
              have ht60 : t < 60 := by have := HN.out; omega
              have htn : (t : Int) < (n : Int) := by omega
              have HT := Lib.hid (show t < n from htl)
              have HS := Lib.hid hsu
              have HB4 := Lib.hid hb4
              subst hAe hA1e
              clear hsu hb htl ht hs hR4 hL4 hb4 hR3 hL3
              cases b
              · go_wp2_with fail
                go_quiet ((go_at_call 9; exact Calls.quiet_of_same (hRN _)))
                have HB5 := Lib.hid (below_drewN HB4.out nq)
                clear HB4 hb3 hgl2 hcell2 hgl hcell
                generalize wr.drewN nq = w5 at HB5 ⊢
                go_wp2_with fail
                go_roundw
                case rel => exact ⟨t + 1, by have := HT.out; omega, by go_num, by rw [HS.out]; rfl, HB5.out⟩
                case measure => have := HT.out; simp [intOf]; omega
              · go_wp2_with fail
                go_quiet (fail)
                have HB5 := Lib.hid (below_drewN HB4.out nq)
                clear HB4 hb3 hgl2 hcell2 hgl hcell
                generalize wr.drewN nq = w5 at HB5 ⊢
                go_wp2_with fail
                go_roundw
                case rel => exact ⟨t + 1, by have := HT.out; omega, by go_num, by rw [HS.out]; rfl, HB5.out⟩
                case measure => have := HT.out; simp [intOf]; omega
            · have htn : ¬ (t : Int) < (n : Int) := by omega
              obtain rfl : t = n := by omega
              rw [HF.out]
              subst hA1e
              have HB4 := Lib.hid hb4
              clear htl ht hL4 hb4 hR3 hL3
              by_cases hi0 : i = 0
              · have hz : decide ((0 : Int) < (i : Int)) = false := decide_eq_false (by omega)
                have hz2 : decide (0 < i) = false := decide_eq_false (by omega)
                clear hi0 hR4
                go_wp2_with fail
                go_quiet (fail)
                have HB5 := Lib.hid (below_drewN HB4.out nq)
                clear HB4 hb3 hgl2 hcell2
                generalize wr.drewN nq = w5 at HB5 ⊢
                go_wp2_with fail
                go_roundw
                case rel => exact ⟨i + 1, by have := HI.out; omega, by go_num, HB5.out⟩
                case measure => have := HI.out; simp [intOf]; omega
              · obtain ⟨i0, hi0⟩ : ∃ i0, i0 + 1 = i := ⟨i - 1, by omega⟩
                obtain ⟨y, hy⟩ : ∃ y, R[i0]? = some y := ⟨_, List.getElem?_eq_getElem (by have := HK.out; have := HI.out; omega)⟩
                have hyr := HQ.out.2.1 i0 y r hy (by rw [hi0]; exact HR.out)
                obtain ⟨g3, o3, he3, _, hgl3, hcell3⟩ := Nts.at_ hR4 hy
                cases he3
                have hz : decide ((0 : Int) < (i : Int)) = true := decide_eq_true (by omega)
                have hz2 : decide (0 < i) = true := decide_eq_true (by omega)
                have hsub : (i : Int) - 1 = (i0 : Int) := by omega
                have hle : decide ((r : Int) ≤ (y : Int)) = false := decide_eq_false (by omega)
                have hle2 : decide (r ≤ y) = false := decide_eq_false (by omega)
                have hi0k : (i0 : Int) < (k1 : Int) := by omega
                clear hy hyr hR4 hi0
                go_wp2_with fail
                go_quiet (fail)
                have HB5 := Lib.hid (below_drewN HB4.out nq)
                clear HB4 hb3 hgl2 hcell2 hgl3 hcell3
                generalize wr.drewN nq = w5 at HB5 ⊢
                go_wp2_with fail
                go_roundw
                case rel => exact ⟨i + 1, by have := HI.out; omega, by go_num, HB5.out⟩
                case measure => have := HI.out; simp [intOf]; omega
        · have hik : ¬ (i : Int) < (k1 : Int) := by omega
          have hA3 := hA _ (keep i1 hb3)
          clear hil hi hR3 hL3
          go_wp2_with fail
          refine hA3.mono ?_
          rintro e w5 ⟨rfl, hb5⟩
          go_wp2_with fail
          go_ret
          exact ⟨rfl, bthen (bthen hb1 hb3) hb5⟩

theorem segNumbers_law {I : World → Prop} (C : SegS I) (A : Option Addr) (n c : Nat) (L : List (List UInt8)) (W : World) (hI : I W) (hL : Txs W (fun k => W.heap.size ≤ k) A n L) (hLl : ∀ s ∈ L, s.length ≤ 281474976710656) (hnil : A = none → c = 0) (hnc : n ≤ c) (hcm : c ≤ maxLen) :
    Calls Tryd.prog 4 #[.slice A n c] W fun e W' => e = .returned (.bool true) ∧ Below W.heap.size W W' := by
  by_cases h : 60 < n
  · exact segNumbers_many C A n c W hI (Nat.le_trans hnc hcm) h
  · exact segNumbers_few C A n c L W hI hL hLl hnil hnc hcm (by omega)

end Go.Proofs.YtgococpbhbcpmaaDoor
