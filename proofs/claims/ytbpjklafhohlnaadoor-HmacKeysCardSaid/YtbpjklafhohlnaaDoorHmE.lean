/-
  The reference of package hmac; whether the program answers at all.
-/
import Derived.Test.YtbpjklafhohlnaaDoorHmD
import Derived.Test.YtbpjklafhohlnaaDoorHmV
import Derived.Test.YtbpjklafhohlnaaDoorShaL
namespace Go.Proofs.YtbpjklafhohlnaaDoor
open Go.RowKit
set_option linter.unusedVariables false
set_option linter.unusedSimpArgs false

set_option maxRecDepth 100000 in
set_option maxHeartbeats 2000000 in
theorem refTag_any (A1 : Option Addr) (n1 c1 : Nat) (k : List UInt8) (A : Option Addr) (n c : Nat) (b : List UInt8) (W : World)
    (h1 : Byt W W.heap.size A1 n1 k) (hnil1 : A1 = none → c1 = 0) (hn1 : n1 ≤ 1000000)
    (h2 : Byt W W.heap.size A n b) (hnil : A = none → c = 0) (hn : n ≤ 1000000) :
    Calls Tryd.prog 8 #[.slice A1 n1 c1, .slice A n c] W fun e W' => ∃ v, e = .returned v ∧
      W'.ownsRow W.heap.size 5 1 v 32 ((hmacD k b).map bv) ∧ Below W.heap.size W W' := by
  obtain ⟨i0, hi, hz0, hz1, hz2⟩ := info_parts Tryd.info5
  obtain ⟨D, hD⟩ : ∃ D, D = (hmacD k b).map bv := ⟨_, rfl⟩
  rw [← hD]
  have HD := Lib.hid hD
  clear hD
  go_enter Tryd.func8, Tryd.ntmps8
  go_wp2_with fail
  refine (padded_any 54 54 rfl A1 n1 c1 k W h1 hnil1 (by omega)).mono ?_
  rintro e w1 ⟨v1, rfl, hown1, hb1⟩
  go_wp2_with (at_builtin; refine wpList_append_byt _ rfl _ _ 22 rfl W.heap.size 5 i0 (.int .u8 0) Tryd.underlying22 hi hz0 hz1 hz2 rfl _ _ _ rfl hown1 W.heap.size A n c b rfl (h2.below hb1) hnil (by omega) hb1.size ?_; intro v2 w2 hown2 hg2)
  have hb2 : Below W.heap.size W w2 := hb1.grown hg2 hb1.size (fun j hj => (hown1.lt j hj).1)
  obtain ⟨A2, c2, rfl, hn2, hl2, hm2⟩ := own_form hown2
  rw [← List.map_append] at hown2
  have e2 := Byt.of_own hown2
  have h12 := (h1.below hb2).more hb2.size
  have h22 := h2.below hb2
  clear hown1 hg2 hb1 hown2
  go_wp2_with fail
  refine (padded_any 92 92 rfl A1 n1 c1 k w2 h12 hnil1 (by omega)).mono ?_
  rintro e w3 ⟨v3, rfl, hown3, hb3⟩
  go_wp2_with fail
  refine (refSha_any A2 (64 + n) c2 _ w3 ((e2.below hb3).more hb3.size) (fun h => (hn2 h).2) (by omega)).mono ?_
  rintro e w4 ⟨v4, rfl, hown4, hb4⟩
  have hown3' := own_below hown3 hb4
  obtain ⟨A4, c4, rfl, hn4, hl4, hm4⟩ := own_form hown4
  have e4 := Byt.of_own hown4
  have hb34 := bthen hb3 hb4
  go_wp2_with (at_builtin; refine wpList_append_byt _ rfl _ _ 22 rfl w2.heap.size 5 i0 (.int .u8 0) Tryd.underlying22 hi hz0 hz1 hz2 rfl _ _ _ rfl hown3' w4.heap.size A4 32 c4 _ rfl e4 (fun h => (hn4 h).2) (by omega) hb34.size ?_; intro v5 w5 hown5 hg5)
  have hb5 : Below w2.heap.size w2 w5 := hb34.grown hg5 hb34.size (fun j hj => (hown3'.lt j hj).1)
  obtain ⟨A5, c5, rfl, hn5, hl5, hm5⟩ := own_form hown5
  rw [← List.map_append] at hown5
  have e5 := Byt.of_own hown5
  go_wp2_with fail
  refine (refSha_any A5 (64 + 32) c5 _ w5 e5 (fun h => (hn5 h).2) (by omega)).mono ?_
  rintro e w6 ⟨v6, rfl, hown6, hb6⟩
  go_wp2_with fail
  go_ret
  refine ⟨_, rfl, ?_, bthen (bthen hb2 hb5) hb6⟩
  rw [HD.out]
  exact own_mono hown6 (Nat.le_trans hb2.size hb5.size)

end Go.Proofs.YtbpjklafhohlnaaDoor
