/-
  Walks of the laws of package hmac.
-/
import Derived.Test.YtbpjklafhohlnaaDoorHmL
namespace Go.Proofs.YtbpjklafhohlnaaDoor
open Go.RowKit
set_option linter.unusedVariables false
set_option linter.unusedSimpArgs false

set_option maxRecDepth 100000 in
set_option maxHeartbeats 2000000 in
theorem hmacSame_law (A1 : Option Addr) (n1 c1 : Nat) (l1 : List UInt8) (A2 : Option Addr) (n2 c2 : Nat) (l2 : List UInt8) (W : World)
    (h1 : Byt W W.heap.size A1 n1 l1) (hnil1 : A1 = none → c1 = 0) (hnc1 : n1 ≤ c1) (hcm1 : c1 ≤ maxLen)
    (h2 : Byt W W.heap.size A2 n2 l2) (hnil2 : A2 = none → c2 = 0) (hnc2 : n2 ≤ c2) (hcm2 : c2 ≤ maxLen) (hC : CK W) :
    Calls Tryd.prog 4 #[.slice A1 n1 c1, .slice A2 n2 c2] W fun e W' => e = .returned (.bool true) ∧ Below W.heap.size W W' := by
  unfold maxLen at hcm1 hcm2
  by_cases hb1 : 500 < n1
  · go_enter Tryd.func4, Tryd.ntmps4
    go_wp2_with (go_at_call 6; refine (awake4_any _ hC).mono ?_; rintro e w' ⟨rfl, hb⟩)
    go_ret
    exact ⟨rfl, hb⟩
  by_cases hb2 : 500 < n2
  · go_enter Tryd.func4, Tryd.ntmps4
    go_wp2_with (go_at_call 6; refine (awake4_any _ hC).mono ?_; rintro e w' ⟨rfl, hb⟩)
    go_ret
    exact ⟨rfl, hb⟩
  obtain ⟨q, hq⟩ : ∃ q, q = decide (l1 = l2) := ⟨_, rfl⟩
  have HQ := Lib.hid hq
  have hqq : (q == q) = true := by simp
  clear hq
  go_enter Tryd.func4, Tryd.ntmps4
  go_wp2_with fail
  refine (hsame_any A1 A2 n1 c1 n2 c2 l1 l2 W.heap.size W h1 h2 (by omega) (by omega)).mono ?_
  rintro e w1 ⟨rfl, k1, rfl⟩
  rw [← HQ.out]
  go_wp2_with fail
  refine (same_any A1 A2 n1 c1 n2 c2 l1 l2 W.heap.size _ (h1.drewN k1) (h2.drewN k1) (by omega)).mono ?_
  rintro e w2 ⟨rfl, k2, rfl⟩
  rw [← HQ.out]
  go_wp2_with fail
  refine (hsame_any A1 A1 n1 c1 n1 c1 l1 l1 W.heap.size _ (h1.drewN _) (h1.drewN _) (by omega) (by omega)).mono ?_
  rintro e w3 ⟨rfl, k3, rfl⟩
  rw [show decide (l1 = l1) = true by simp]
  go_wp2_with fail
  refine (awake4_any _ (hC.drewN _)).mono ?_
  rintro e w4 ⟨rfl, hb4⟩
  go_wp2_with fail
  go_ret
  exact ⟨rfl, bthen (below_drewN (Below.refl _ _) _) hb4⟩

set_option maxRecDepth 100000 in
set_option maxHeartbeats 2000000 in
theorem hmacTags_law (A1 : Option Addr) (n1 c1 : Nat) (l1 : List UInt8) (A2 : Option Addr) (n2 c2 : Nat) (l2 : List UInt8) (A3 : Option Addr) (n3 c3 : Nat) (l3 : List UInt8) (W : World)
    (h1 : Byt W W.heap.size A1 n1 l1) (hnil1 : A1 = none → c1 = 0) (hnc1 : n1 ≤ c1) (hcm1 : c1 ≤ maxLen)
    (h2 : Byt W W.heap.size A2 n2 l2) (hnil2 : A2 = none → c2 = 0) (hnc2 : n2 ≤ c2) (hcm2 : c2 ≤ maxLen)
    (h3 : Byt W W.heap.size A3 n3 l3) (hnil3 : A3 = none → c3 = 0) (hnc3 : n3 ≤ c3) (hcm3 : c3 ≤ maxLen) (hC : CK W) :
    Calls Tryd.prog 3 #[.slice A1 n1 c1, .slice A2 n2 c2, .slice A3 n3 c3] W fun e W' => e = .returned (.bool true) ∧ Below W.heap.size W W' := by
  have hm1 := hcm1
  have hm2 := hcm2
  have hm3 := hcm3
  unfold maxLen at hm1 hm2 hm3
  by_cases hb1 : 300 < n1
  · go_enter Tryd.func3, Tryd.ntmps3
    go_wp2_with (go_at_call 6; refine (awake4_any _ hC).mono ?_; rintro e w' ⟨rfl, hb⟩)
    go_ret
    exact ⟨rfl, hb⟩
  by_cases hb2 : 500 < n2
  · go_enter Tryd.func3, Tryd.ntmps3
    go_wp2_with (go_at_call 6; refine (awake4_any _ hC).mono ?_; rintro e w' ⟨rfl, hb⟩)
    go_ret
    exact ⟨rfl, hb⟩
  by_cases hb3 : 100 < n3
  · go_enter Tryd.func3, Tryd.ntmps3
    go_wp2_with (go_at_call 6; refine (awake4_any _ hC).mono ?_; rintro e w' ⟨rfl, hb⟩)
    go_ret
    exact ⟨rfl, hb⟩
  have z32 : (#[.int .u8 0, .int .u8 0, .int .u8 0, .int .u8 0, .int .u8 0, .int .u8 0, .int .u8 0, .int .u8 0, .int .u8 0, .int .u8 0, .int .u8 0, .int .u8 0, .int .u8 0, .int .u8 0, .int .u8 0, .int .u8 0, .int .u8 0, .int .u8 0, .int .u8 0, .int .u8 0, .int .u8 0, .int .u8 0, .int .u8 0, .int .u8 0, .int .u8 0, .int .u8 0, .int .u8 0, .int .u8 0, .int .u8 0, .int .u8 0, .int .u8 0, .int .u8 0] : Array Value) = (zL.map bv).toArray := rfl
  obtain ⟨D, hD⟩ : ∃ D, D = hmacD l1 l2 := ⟨_, rfl⟩
  have hDl : D.length = 32 := by rw [hD]; exact hmacD_len _ _
  obtain ⟨q, hq⟩ : ∃ q, q = decide (D = l3) := ⟨_, rfl⟩
  have hq2 : q = decide (l3 = D) := by rw [hq, decide_eq_decide]; exact eq_comm
  have HQ := Lib.hid (And.intro hq hq2)
  have HD := Lib.hid hD
  have hqq : (q == q) = true := by simp
  have HC := Lib.hid hC
  clear hq hq2 hD hC
  go_enter Tryd.func3, Tryd.ntmps3
  go_wp2_with fail
  refine (tag_any A1 n1 c1 l1 A2 n2 c2 l2 W h1 hnil1 hnc1 hcm1 (by omega) h2 hnil2 (by omega) HC.out).mono ?_
  rintro e w1 ⟨rfl, hb1'⟩
  rw [← HD.out]
  have hDm : (D.map bv).length = 32 := by rw [List.length_map]; exact hDl
  have hn7 := Blk.new (cs := zL.map bv) w1 24 _ rfl
  have hs := hb1'.size
  have hbx := below_row (hb1'.alloc hs (.cells (zL.map bv).toArray 24)) (g := w1.heap.size) hs (D.map bv).toArray
  have hD1 := bvs_one D
  have HB := Lib.hid (And.intro (hn7.row (D.map bv)) (And.intro hbx (And.intro hDl hDm)))
  clear hbx hDl hDm
  go_upto_region 4 with (refine st_blk rfl 24 _ _ rfl w1.heap.size (D.map bv) rfl rfl 24 (zL.map bv) hn7 (by rw [HB.out.2.2.2]; kernel_rfl) (by rw [HB.out.2.2.2, List.length_map]; rfl) hD1 ?_)
  obtain ⟨hB7, hb7, hDl, _⟩ := HB.out
  obtain ⟨g7, hg7⟩ : ∃ g7, g7 = w1.heap.size := ⟨_, rfl⟩
  rw [← hg7] at hB7 hb7 ⊢
  clear HB hn7 z32
  generalize (w1.alloc (.cells (zL.map bv).toArray 24)).setRow g7 (D.map bv).toArray = w2 at hB7 hb7 ⊢
  have HDl := Lib.hid hDl
  clear hg7 hDl
  go_wp2_with fail
  refine (refTag_any A1 n1 c1 l1 A2 n2 c2 l2 w2 ((h1.below hb7).more hb7.size) hnil1 (by omega) ((h2.below hb7).more hb7.size) hnil2 (by omega)).mono ?_
  rintro e w3 ⟨v3, rfl, hown3, hb3⟩
  rw [← HD.out] at hown3
  obtain ⟨X, cX, rfl, hnX, hlX, hmX⟩ := own_form hown3
  have eX := Byt.of_own hown3
  have e7 := (byt_blk (hB7.below hb3 hB7.lt) HDl.out)
  have hW3 := bthen hb7 hb3
  have k1 := (h1.below hW3).more hW3.size
  have k2 := (h2.below hW3).more hW3.size
  have k3 := (h3.below hW3).more hW3.size
  go_wp2_with fail
  refine (same_true (some ⟨g7, 0, none⟩) X 32 32 32 cX D D w3.heap.size w3 e7 eX (by omega) rfl).mono ?_
  rintro e w4 ⟨rfl, j4, rfl⟩
  go_wp2_with fail
  refine (check_any A1 n1 c1 l1 A2 n2 c2 l2 A3 n3 c3 l3 _ (k1.drewN j4) hnil1 hnc1 hcm1 (by omega) (k2.drewN j4) hnil2 (by omega) (k3.drewN j4) (by omega) ((HC.out.below hW3 HC.out.pos).drewN j4)).mono ?_
  rintro e w5 ⟨rfl, hb5⟩
  rw [← HD.out, ← HQ.out.1]
  have hW5 := bthen (below_drewN hW3 j4) hb5
  have k1 := (h1.below hW5).more hW5.size
  have k2 := (h2.below hW5).more hW5.size
  have k3 := (h3.below hW5).more hW5.size
  have eX := ((eX.drewN j4).below hb5).more hb5.size
  go_wp2_with fail
  refine (same_any A3 X n3 c3 32 cX l3 D w5.heap.size w5 k3 eX (by omega)).mono ?_
  rintro e w6 ⟨rfl, j6, rfl⟩
  rw [← HQ.out.2]
  go_wp2_with fail
  refine (check_any A1 n1 c1 l1 A2 n2 c2 l2 X 32 cX D _ (k1.drewN j6) hnil1 hnc1 hcm1 (by omega) (k2.drewN j6) hnil2 (by omega) (eX.drewN j6) (by omega) ((HC.out.below hW5 HC.out.pos).drewN j6)).mono ?_
  rintro e w7 ⟨rfl, hb7'⟩
  rw [← HD.out, show decide (D = D) = true by simp]
  have hW7 := bthen (below_drewN hW5 j6) hb7'
  go_wp2_with fail
  refine (awake4_any _ (HC.out.below hW7 HC.out.pos)).mono ?_
  rintro e w8 ⟨rfl, hb8⟩
  go_wp2_with fail
  go_ret
  exact ⟨rfl, bthen hW7 hb8⟩

end Go.Proofs.YtbpjklafhohlnaaDoor
