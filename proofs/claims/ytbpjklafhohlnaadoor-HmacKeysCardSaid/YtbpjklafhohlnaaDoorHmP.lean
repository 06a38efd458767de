/-
  Which keys have the same tags: the walk of the law HmacKeys.
-/
import Derived.Test.YtbpjklafhohlnaaDoorHmL
import Derived.Test.YtbpjklafhohlnaaDoorEqU8
namespace Go.Proofs.YtbpjklafhohlnaaDoor
open Go.RowKit
set_option linter.unusedVariables false
set_option linter.unusedSimpArgs false

theorem hmacD_same (k k' b : List UInt8) (h : keyL k' = keyL k) : hmacD k' b = hmacD k b := by unfold hmacD; rw [h]
theorem keyL_rep (l : List UInt8) (k : Nat) (h : l.length ≤ 64) (hk : k = 0 ∨ l.length + k ≤ 64) : keyL (l ++ List.replicate k 0) = keyL l := keyL_zeros l k (by omega)

set_option maxRecDepth 100000 in
set_option maxHeartbeats 2000000 in
theorem hmacKeys_law (A1 : Option Addr) (n1 c1 : Nat) (l1 : List UInt8) (z : Int) (A2 : Option Addr) (n2 c2 : Nat) (l2 : List UInt8) (W : World)
    (h1 : Byt W W.heap.size A1 n1 l1) (hnil1 : A1 = none → c1 = 0) (hnc1 : n1 ≤ c1) (hcm1 : c1 ≤ maxLen) (z0 : 0 ≤ z) (z1 : z ≤ 255)
    (h2 : Byt W W.heap.size A2 n2 l2) (hnil2 : A2 = none → c2 = 0) (hnc2 : n2 ≤ c2) (hcm2 : c2 ≤ maxLen) (hC : CK W) :
    Calls Tryd.prog 5 #[.slice A1 n1 c1, .int .u8 z, .slice A2 n2 c2] W fun e W' => e = .returned (.bool true) ∧ Below W.heap.size W W' := by
  have hm1 := hcm1
  have hm2 := hcm2
  unfold maxLen at hm1 hm2
  by_cases hb1 : 300 < n1
  · go_enter Tryd.func5, Tryd.ntmps5
    go_wp2_with (go_at_call 6; refine (awake4_any _ hC).mono ?_; rintro e w' ⟨rfl, hb⟩)
    go_ret
    exact ⟨rfl, hb⟩
  by_cases hb2 : 500 < n2
  · go_enter Tryd.func5, Tryd.ntmps5
    go_wp2_with (go_at_call 6; refine (awake4_any _ hC).mono ?_; rintro e w' ⟨rfl, hb⟩)
    go_ret
    exact ⟨rfl, hb⟩
  obtain ⟨i0, hi, hz0, hz1, hz2⟩ := info_parts Tryd.info5
  obtain ⟨D, hD⟩ : ∃ D, D = hmacD l1 l2 := ⟨_, rfl⟩
  have hDl : D.length = 32 := by rw [hD]; exact hmacD_len _ _
  have heq : ∀ w, (Op.equalIn 10000 24 (.agg (D.map bv).toArray) (.agg (D.map bv).toArray)).run Tryd.prog w = .ok true w := by
    intro w
    have := equal32 D D hDl hDl w
    simpa using this
  have HD := Lib.hid hD
  have HL1 := Lib.hid h1.1
  have HC := Lib.hid hC
  clear hD hDl hC
  have hlit := World.ownsRow_lit (base := W.heap.size) (e := 5) (size := 1) W #[] 0 (Nat.le_refl _) (by decide) rfl
  go_enter Tryd.func5, Tryd.ntmps5
  go_wp2_with (at_builtin; refine wpList_append_byt _ rfl _ _ 22 rfl W.heap.size 5 i0 (.int .u8 0) Tryd.underlying22 hi hz0 hz1 hz2 rfl _ _ _ rfl hlit W.heap.size A1 n1 c1 l1 rfl (h1.alloc (Nat.le_refl _) _) hnil1 (by omega) (by simp) ?_; intro v1 w1 hown1 hg1)
  have hbw1 : Below W.heap.size W w1 := ((Below.refl _ _).alloc (Nat.le_refl _) _).grown hg1 (by simp) (fun k h => by cases h; exact Nat.le_refl _)
  have hown1' : w1.ownsRow W.heap.size 5 1 v1 n1 (l1.map bv) := by simpa using hown1
  clear hlit hg1 hown1
  go_loopw [7, 8] (fun v i wr => ∃ k m : Nat, i = .int .i64 k ∧ (k : Int) ≤ z ∧ m = n1 + k ∧ (k = 0 ∨ n1 + k ≤ 64) ∧ wr.ownsRow W.heap.size 5 1 v m ((l1 ++ List.replicate k 0).map bv) ∧ Below W.heap.size W wr)
    (fun _ i _ => (z - intOf i).toNat)
  case atStart => exact ⟨0, n1, rfl, z0, rfl, .inl rfl, by simpa using hown1', hbw1⟩
  case round =>
    obtain ⟨k, m, rfl, hkz, hm, hk64, hown, hb⟩ := hrel
    have hs := hb.size
    clear hown1' hbw1
    obtain ⟨A7, c7, rfl, hn7, hl7, hm7⟩ := own_form hown
    have hk64' : k = 0 ∨ m ≤ 64 := by omega
    by_cases hgo : (k : Int) < z ∧ m < 64
    · obtain ⟨hkz', hm64⟩ := hgo
      have HM := Lib.hid hm
      have HN := Lib.hid (And.intro hn7 (And.intro hl7 hm7))
      clear hm hk64 hk64' hn7 hl7 hm7
      go_wp2_with (at_builtin; refine wpList_append_byt _ rfl _ _ 22 rfl W.heap.size 5 i0 (.int .u8 0) Tryd.underlying22 hi hz0 hz1 hz2 rfl _ _ _ rfl (hown.alloc _) (wr.heap.size + 1) _ 1 1 [0] rfl (Byt.one _ _ _ rfl _) (fun h => by cases h) (by omega) (by simp; omega) ?_)
      intro v' w3 hown' hgrow
      have hb' := own_step hb (Nat.le_refl _) hown hgrow
      clear hown hgrow hb
      have HO := Lib.hid hown'
      clear hown'
      go_wp2
      go_roundw
      case rel =>
        refine ⟨k + 1, m + 1, by go_num, by omega, by have := HM.out; omega, .inr (by have := HM.out; omega), ?_, hb'⟩
        have := HO.out
        rw [List.replicate_succ', ← List.append_assoc, List.map_append]
        simpa using this
      case measure => simp [intOf]; omega
    · have hout : ¬ (k : Int) < z ∨ ((k : Int) < z ∧ ¬ m < 64) := by omega
      have hm1000 : m ≤ 1000 := by omega
      have hX := Byt.of_own hown
      have hA7 : A7 = none → c7 = 0 := fun h => (hn7 h).2
      by_cases hbig : 64 < n1
      · have HK := Lib.hid (hmacD_same l1 (shaD l1) l2 (keyL_sha l1 (by rw [HL1.out]; exact hbig)))
        clear hgo hown hm hk64 hk64' hn7 hl7 hm7 hA7 hX
        obtain ⟨wq, rfl⟩ : ∃ wq, wq = wr := ⟨_, rfl⟩
        rcases hout with hnz | ⟨hlz, hm64⟩
        all_goals
          go_wp2_with fail
          refine (refSha_any A1 n1 c1 l1 _ ((h1.below hb).more hb.size) hnil1 (by omega)).mono ?_
          rintro e wq ⟨v8, rfl, hown8, hb8⟩
          obtain ⟨X, cX, rfl, hnX, hlX, hmX⟩ := own_form hown8
          have hX := Byt.of_own hown8
          obtain ⟨LX, hLX⟩ : ∃ LX, LX = shaD l1 := ⟨_, rfl⟩
          rw [← hLX] at hX
          have HX := Lib.hid (And.intro (fun h : X = none => (hnX h).2) (And.intro hlX (And.intro hmX (show hmacD LX l2 = hmacD l1 l2 by rw [hLX]; exact HK.out))))
          have hbq := bthen hb hb8
          clear hLX hnX hlX hmX hown8
          go_wp2_with fail
          refine (tag_any A1 n1 c1 l1 A2 n2 c2 l2 wq ((h1.below hbq).more hbq.size) hnil1 hnc1 hcm1 (by omega) ((h2.below hbq).more hbq.size) hnil2 (by omega) (HC.out.below hbq HC.out.pos)).mono ?_
          rintro e w5 ⟨rfl, hb5⟩
          rw [← HD.out]
          have hbx := bthen hbq hb5
          go_wp2_with fail
          refine (tag_any X 32 cX LX A2 n2 c2 l2 w5 ((hX.below hb5).more hb5.size) HX.out.1 HX.out.2.1 HX.out.2.2.1 (by omega) ((h2.below hbx).more hbx.size) hnil2 (by omega) (HC.out.below hbx HC.out.pos)).mono ?_
          rintro e w6 ⟨rfl, hb6⟩
          rw [HX.out.2.2.2, ← HD.out]
          have hby := bthen hbx hb6
          go_wp2_with fail
          refine (awake4_any _ (HC.out.below hby HC.out.pos)).mono ?_
          rintro e w7 ⟨rfl, hb7⟩
          go_wp2_with fail
          go_ret
          exact ⟨rfl, bthen hby hb7⟩
      · have HK := Lib.hid (hmacD_same l1 (l1 ++ List.replicate k 0) l2 (keyL_rep l1 k (by rw [HL1.out]; omega) (by rw [HL1.out]; exact hk64)))
        obtain ⟨LX, hLX⟩ : ∃ LX, LX = l1 ++ List.replicate k 0 := ⟨_, rfl⟩
        rw [← hLX] at hX
        have HX := Lib.hid (And.intro hA7 (And.intro hl7 (And.intro hm7 (show hmacD LX l2 = hmacD l1 l2 by rw [hLX]; exact HK.out))))
        clear hgo hown hm hk64 hk64' hn7 hl7 hm7 hA7 HK hLX
        obtain ⟨wq, rfl⟩ : ∃ wq, wq = wr := ⟨_, rfl⟩
        have hbq := hb
        rcases hout with hnz | ⟨hlz, hm64⟩
        all_goals
          go_wp2_with fail
          refine (tag_any A1 n1 c1 l1 A2 n2 c2 l2 wq ((h1.below hbq).more hbq.size) hnil1 hnc1 hcm1 (by omega) ((h2.below hbq).more hbq.size) hnil2 (by omega) (HC.out.below hbq HC.out.pos)).mono ?_
          rintro e w5 ⟨rfl, hb5⟩
          rw [← HD.out]
          have hbx := bthen hbq hb5
          go_wp2_with fail
          refine (tag_any A7 m c7 LX A2 n2 c2 l2 w5 ((hX.below hb5).more hb5.size) HX.out.1 HX.out.2.1 HX.out.2.2.1 (by omega) ((h2.below hbx).more hbx.size) hnil2 (by omega) (HC.out.below hbx HC.out.pos)).mono ?_
          rintro e w6 ⟨rfl, hb6⟩
          rw [HX.out.2.2.2, ← HD.out]
          have hby := bthen hbx hb6
          go_wp2_with fail
          refine (awake4_any _ (HC.out.below hby HC.out.pos)).mono ?_
          rintro e w7 ⟨rfl, hb7⟩
          go_wp2_with fail
          go_ret
          exact ⟨rfl, bthen hby hb7⟩

end Go.Proofs.YtbpjklafhohlnaaDoor
