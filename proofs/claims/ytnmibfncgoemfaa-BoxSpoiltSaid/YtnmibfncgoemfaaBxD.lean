/-
  The statements of boxes by the program's contracts: awake, BoxPuts, BoxNexts.
-/
import Derived.Test.YtnmibfncgoemfaaBxC
namespace Go.Proofs.Ytnmibfncgoemfaa
open Go.RowKit
set_option linter.unusedVariables false
set_option linter.unusedSimpArgs false

/-- What Put answers. -/
def putE (x : List UInt8) : Int := if x.length = 0 then 2 else if 4096 < x.length then 3 else 0
def putB (b x : List UInt8) : List UInt8 := if putE x = 0 then b ++ boxC x else []
def sizeB (n : Int) : Int := if 1 ≤ n ∧ n ≤ 4096 then n + 6 else 0
def PutPost (W : World) (b x : List UInt8) (e : Ending) (W' : World) : Prop :=
  ∃ v m, e = .returned (.tuple #[v, .int .i64 (putE x)]) ∧ W'.ownsRow W.heap.size 5 1 v m ((putB b x).map bv) ∧ Below W.heap.size W W'
def NextQ (W : World) (r : List UInt8 × Nat × Int) (e : Ending) (W' : World) : Prop :=
  ∃ A m c, e = .returned (.tuple #[.slice A m c, .int .i64 ((r.2.1 : Nat) : Int), .int .i64 r.2.2]) ∧ Byt W' W'.heap.size A m r.1 ∧ (A = none → c = 0) ∧ m ≤ c ∧ c ≤ maxLen ∧ Below W.heap.size W W'
def ValidQ (W : World) (r : List (List UInt8) × Nat) (e : Ending) (W' : World) : Prop :=
  ∃ A k c, e = .returned (.tuple #[.slice A k c, .int .i64 ((r.2 : Nat) : Int)]) ∧ Lst W' (fun _ => False) A k r.1 ∧ Below W.heap.size W W'

/-- The program's boxes. -/
structure BoxC : Prop where
  put : ∀ (A A2 : Option Addr) (n c n2 c2 : Nat) (b x : List UInt8) (W : World), Byt W W.heap.size A n b → (A = none → c = 0) → Byt W W.heap.size A2 n2 x → (A2 = none → c2 = 0) → n ≤ 1000000 → n2 ≤ 1000000 →
    Calls Try.prog 8 #[.slice A n c, .slice A2 n2 c2] W (PutPost W b x)
  size : ∀ (n : Int) (W : World), Calls Try.prog 9 #[.int .i64 n] W fun e W' => e = .returned (.int .i64 (sizeB n)) ∧ W' = W
  next : ∀ (A : Option Addr) (n c : Nat) (l : List UInt8) (a : Int) (W : World), Byt W W.heap.size A n l → (A = none → c = 0) → n ≤ c → c ≤ maxLen → n ≤ 1000000 →
    Calls Try.prog 12 #[.slice A n c, .int .i64 a] W (NextQ W (nextC l a))
  valid : ∀ (A : Option Addr) (n c : Nat) (l : List UInt8) (W : World), Byt W W.heap.size A n l → (A = none → c = 0) → n ≤ c → c ≤ maxLen → n ≤ 1000000 →
    Calls Try.prog 14 #[.slice A n c] W (ValidQ W (validC l))

set_option maxRecDepth 100000 in
set_option maxHeartbeats 1000000 in
theorem awake12_any (C : BoxC) (W : World) : Calls Try.prog 7 #[] W fun e W' => e = .returned (.bool true) ∧ Below W.heap.size W W' := by
  have kc := fun (w : World) (C : Array Value) (n c : Nat) => Lib.run_convert_bytes_const (P := Try.prog) w 22 5 C n c Try.underlying22 Try.underlying5
  have hsz := fun w => C.size 1 w
  rw [show sizeB 1 = 7 from rfl] at hsz
  go_enter Try.func7, Try.ntmps7
  have hx := Byt.lit W [97] #[.int .u8 97] rfl 5 (1, 2) 1 rfl
  have hb0 : Below W.heap.size W (W.alloc (.cells #[.int .u8 97] 5 (1, 2))) := (Below.refl W.heap.size W).alloc (Nat.le_refl _) _
  go_wp2_with fail
  refine (C.put none _ 0 0 1 1 [] [97] _ Byt.nil (fun _ => rfl) (by simpa using hx) (fun h => by cases h) (by decide) (by decide)).mono ?_
  rintro e w2 ⟨v, m, rfl, ho, hb2⟩
  obtain ⟨A, c, rfl, h1, h2, h3⟩ := own_form ho
  have hm : m = 7 := (own_len ho).symm.trans (by rw [List.length_map]; show (putB [] [97]).length = 7; unfold putB; rw [if_pos (by decide), List.nil_append, boxC_len]; rfl)
  subst hm
  obtain ⟨b, o, rfl, hlt, hc⟩ := (Byt.of_own ho).2 (by decide)
  have z0 : w2.cell? ⟨b, o, none⟩ = some (.int .u8 1) := hc 0 1 rfl
  have z2 : w2.cell? ⟨b, o + 2, none⟩ = some (.int .u8 97) := hc 2 97 rfl
  rw [show putE [97] = 0 from rfl]
  clear hc ho h1 hx
  go_wp2_with (go_at_call 9; refine (hsz _).mono ?_; rintro e w ⟨rfl, rfl⟩)
  go_ret
  exact ⟨rfl, bthen hb0 hb2⟩

set_option maxRecDepth 100000 in
set_option maxHeartbeats 2000000 in
theorem boxPuts_bad (C : BoxC) (A A2 : Option Addr) (n c n2 c2 : Nat) (b x : List UInt8) (W : World) (h1 : Byt W W.heap.size A n b) (hn1 : A = none → c = 0) (h2 : Byt W W.heap.size A2 n2 x) (hn2 : A2 = none → c2 = 0) (hcm : n ≤ maxLen) (hcm2 : n2 ≤ maxLen)
    (hbad : 300 < n ∨ (300 < n2 ∧ n2 < 4090) ∨ 4100 < n2) :
    Calls Try.prog 3 #[.slice A n c, .slice A2 n2 c2] W fun e W' => e = .returned (.bool true) ∧ Below W.heap.size W W' := by
  unfold maxLen at hcm hcm2
  have hcase : (300 : Int) < (n : Int) ∨ (¬ (300 : Int) < (n : Int) ∧ (300 : Int) < (n2 : Int) ∧ (n2 : Int) < 4090) ∨ (¬ (300 : Int) < (n : Int) ∧ (300 : Int) < (n2 : Int) ∧ ¬ (n2 : Int) < 4090 ∧ (4100 : Int) < (n2 : Int)) := by omega
  have hA := fun w => awake12_any C w
  clear h1 h2 hbad
  rcases hcase with g1 | ⟨g1, g2, g3⟩ | ⟨g1, g2, g3, g4⟩
  all_goals
    go_enter Try.func3, Try.ntmps3
    go_wp2_with (go_at_call 7; refine (hA _).mono ?_; rintro e w ⟨rfl, hb⟩)
    go_ret
    exact ⟨rfl, hb⟩

set_option maxRecDepth 100000 in
set_option maxHeartbeats 2000000 in
theorem boxPuts_no (C : BoxC) (A A2 : Option Addr) (n c n2 c2 : Nat) (b x : List UInt8) (W : World) (h1 : Byt W W.heap.size A n b) (hn1 : A = none → c = 0) (h2 : Byt W W.heap.size A2 n2 x) (hn2 : A2 = none → c2 = 0)
    (hok : n ≤ 300) (hno : n2 = 0 ∨ (4096 < n2 ∧ n2 ≤ 4100)) :
    Calls Try.prog 3 #[.slice A n c, .slice A2 n2 c2] W fun e W' => e = .returned (.bool true) ∧ Below W.heap.size W W' := by
  have hA := fun w => awake12_any C w
  have hP := C.put A A2 n c n2 c2 b x W h1 hn1 h2 hn2 (by omega) (by omega)
  have hS := fun k w => C.size k w
  have hl := h2.1
  unfold PutPost at hP
  rcases hno with h0 | ⟨h3, h4⟩
  · subst h0
    have e1 : putE x = 2 := by unfold putE; rw [if_pos hl]
    have e2 : putB b x = [] := by unfold putB; rw [if_neg (by rw [e1]; decide)]
    rw [e1, e2] at hP
    have e3 : sizeB 0 = 0 := rfl
    have g1 : ¬ (300 : Int) < (n : Int) := by omega
    clear h1 h2 hl e1 e2
    go_enter Try.func3, Try.ntmps3
    go_wp2_with (first
      | (go_at_call 8; refine hP.mono ?_; rintro e w2 ⟨v, m, rfl, ho, hb2⟩; obtain ⟨A3, c3, rfl, _⟩ := own_form ho; obtain rfl : 0 = m := own_len ho)
      | (go_at_call 9; refine (hS _ _).mono ?_; rintro e w ⟨rfl, rfl⟩; rw [e3])
      | (go_at_call 7; refine (hA _).mono ?_; rintro e w ⟨rfl, hb⟩))
    go_ret
    exact ⟨rfl, bthen hb2 hb⟩
  · have e1 : putE x = 3 := by unfold putE; rw [if_neg (by omega), if_pos (by omega)]
    have e2 : putB b x = [] := by unfold putB; rw [if_neg (by rw [e1]; decide)]
    rw [e1, e2] at hP
    have e3 : sizeB (n2 : Int) = 0 := by unfold sizeB; rw [if_neg (by omega)]
    have g1 : ¬ (300 : Int) < (n : Int) := by omega
    have g2 : (300 : Int) < (n2 : Int) := by omega
    have g3 : ¬ (n2 : Int) < 4090 := by omega
    have g4 : ¬ (4100 : Int) < (n2 : Int) := by omega
    have g5 : (4096 : Int) < (n2 : Int) := by omega
    have g6 : ((n2 : Int) == 0) = false := by simp; omega
    clear h1 h2 hl e1 e2 h3 h4 hok
    go_enter Try.func3, Try.ntmps3
    go_wp2_with (first
      | (go_at_call 8; refine hP.mono ?_; rintro e w2 ⟨v, m, rfl, ho, hb2⟩; obtain ⟨A3, c3, rfl, _⟩ := own_form ho; obtain rfl : 0 = m := own_len ho)
      | (go_at_call 9; refine (hS _ _).mono ?_; rintro e w ⟨rfl, rfl⟩; rw [e3])
      | (go_at_call 7; refine (hA _).mono ?_; rintro e w ⟨rfl, hb⟩))
    go_ret
    exact ⟨rfl, bthen hb2 hb⟩

set_option maxRecDepth 100000 in
set_option maxHeartbeats 2000000 in
theorem boxPuts_good (C : BoxC) (A A2 : Option Addr) (n c n2 c2 : Nat) (b x : List UInt8) (W : World) (h1 : Byt W W.heap.size A n b) (hn1 : A = none → c = 0) (h2 : Byt W W.heap.size A2 n2 x) (hn2 : A2 = none → c2 = 0)
    (hok : n ≤ 300) (h0 : 1 ≤ n2) (h4 : n2 ≤ 4096) (hmid : n2 ≤ 300 ∨ 4090 ≤ n2) :
    Calls Try.prog 3 #[.slice A n c, .slice A2 n2 c2] W fun e W' => e = .returned (.bool true) ∧ Below W.heap.size W W' := by
  obtain ⟨i0, hi, hz0, hz1, hz2⟩ := info_parts Try.info5
  have hA := fun w => awake12_any C w
  have hP := C.put A A2 n c n2 c2 b x W h1 hn1 h2 hn2 (by omega) (by omega)
  have hS := fun k w => C.size k w
  have hl := h2.1
  unfold PutPost at hP
  have e1 : putE x = 0 := by unfold putE; rw [if_neg (by omega), if_neg (by omega)]
  have e2 : putB b x = b ++ boxC x := by unfold putB; rw [if_pos e1]
  rw [e1, e2] at hP
  obtain ⟨K, hK⟩ : ∃ K, n2 + 6 = K := ⟨_, rfl⟩
  have e3 : sizeB (n2 : Int) = (K : Int) := by unfold sizeB; rw [if_pos (by omega)]; omega
  have hL : (b ++ boxC x).length = n + K := by rw [List.length_append, boxC_len, hl, h1.1, hK]
  obtain ⟨M, hM⟩ : ∃ M, n + K = M := ⟨_, rfl⟩
  rw [hM] at hL
  have hsw : IntKind.i64.wrap ((M : Int) - (n : Int)) = (K : Int) := by rw [IntKind.wrap_i64]; omega
  have hsq : ((K : Int) == (K : Int)) = true := by simp
  have HK := Lib.hid (show n2 + 6 = K ∧ n + K = M ∧ K ≤ 5000 ∧ M ≤ 6000 by omega)
  have HL := Lib.hid hL
  have g1 : ¬ (300 : Int) < (n : Int) := by omega
  have g4 : ¬ (4100 : Int) < (n2 : Int) := by omega
  have g5 : ¬ (4096 : Int) < (n2 : Int) := by omega
  have g6 : ((n2 : Int) == 0) = false := by simp; omega
  have hmid2 : (¬ (300 : Int) < (n2 : Int) ∧ n2 = n2) ∨ ((300 : Int) < (n2 : Int) ∧ ¬ (n2 : Int) < 4090) := by omega
  have HB := Lib.hid (And.intro hok h4)
  clear hL hl e1 e2 hmid hK hM hok h4 h0
  rcases hmid2 with ⟨k1, _⟩ | ⟨k1, k2⟩
  all_goals
    go_enter Try.func3, Try.ntmps3
    go_wp2_with fail
    refine hP.mono ?_
    rintro e w2 ⟨v, m, rfl, ho, hb2⟩
    obtain ⟨A3, c3, rfl, q1, q2, q3⟩ := own_form ho
    have hx3 := Byt.of_own ho
    obtain rfl : M = m := by have := own_len ho; rw [List.length_map, HL.out] at this; exact this
    have h1' := (h1.below hb2).more hb2.size
    have h2' := (h2.below hb2).more hb2.size
    go_wp2_with (at_builtin; refine wpList_append_byt _ rfl _ _ 22 rfl w2.heap.size 5 i0 (.int .u8 0) Try.underlying22 hi hz0 hz1 hz2 rfl _ 0 [] rfl (World.ownsRow_made w2 #[] 0 (Nat.le_refl _) (Nat.zero_le _) rfl) w2.heap.size A n c b rfl (h1'.alloc (Nat.le_refl _) _) hn1 (by have := HB.out; omega) (by simp) ?_; intro v4 w4 ho4 hg4)
    have hb4 : Below w2.heap.size w2 w4 := ((Below.refl w2.heap.size w2).alloc (Nat.le_refl _) _).grown hg4 (by simp) (fun k h => by cases h; exact Nat.le_refl _)
    have h2q := (h2'.below hb4).more hb4.size
    have hx4 := (hx3.below hb4).more hb4.size
    clear hg4
    go_wp2_with fail
    refine (refBox_any w4.heap.size A2 n2 c2 x _ h2q (Nat.le_refl _) hn2 (by have := HB.out; omega)).mono ?_
    rintro e w5 ⟨v5, rfl, ho5, hb5⟩
    rw [HK.out.1] at ho5
    obtain ⟨A5, c5, rfl, r1, r2, r3⟩ := own_form ho5
    have hx5 := Byt.of_own ho5
    have ho4' := own_below ho4 hb5
    have hb5' := bthen hb4 hb5
    have hx5b := (hx4.below hb5).more hb5.size
    go_wp2_with (at_builtin; refine wpList_append_byt _ rfl _ _ 22 rfl w2.heap.size 5 i0 (.int .u8 0) Try.underlying22 hi hz0 hz1 hz2 rfl _ _ _ rfl ho4' _ A5 _ c5 _ rfl hx5 (fun h => (r1 h).2) (by have := HK.out; omega) hb5'.size ?_; intro v6 w6 ho6 hg6; have hb6 := hb5'.grown hg6 hb5'.size (fun g hg => (ho4'.lt g hg).1); clear hg6; obtain ⟨A6, c6, rfl, s1, s2, s3⟩ := own_form ho6)
    have hx6 : Byt w6 w6.heap.size A6 (0 + n + K) (b ++ boxC x) := Byt.of_own (by rw [List.map_append]; simpa using ho6)
    have hx7 := (hx3.below hb6).more hb6.size
    rw [Nat.zero_add] at hx6
    obtain ⟨M2, hM2⟩ : ∃ M2, n + K = M2 := ⟨_, rfl⟩
    rw [hM2] at hx6 ⊢
    have hMM : M2 ≤ 6000 := by have := HK.out; omega
    clear hM2
    refine (same_true _ _ _ _ _ _ _ _ _ _ hx7 hx6 (by have := HK.out; omega) rfl).mono ?_
    rintro e w7 ⟨rfl, r7, rfl⟩
    have hBB := Lib.hid (bthen hb2 hb6)
    clear s1 s2 s3 r1 r2 r3 q1 q2 q3 hMM hx6 hx7 ho6 hb6 hx5b hb5' ho4' hx5 ho5 hb5 hx4 h2q hb4 ho4 hx3 h1' h2' ho hb2 hi hz0 hz1 hz2 h1 h2 hP
    go_wp2_with (first
      | (go_at_call 9; refine (hS _ _).mono ?_; rintro e w ⟨rfl, rfl⟩; rw [e3])
      | (go_at_call 7; refine (hA _).mono ?_; rintro e w9 ⟨rfl, hb9⟩))
    go_ret
    exact ⟨rfl, (below_drewN hBB.out r7).trans (hb9.mono hBB.out.size)⟩

theorem boxPuts_law (C : BoxC) (A A2 : Option Addr) (n c n2 c2 : Nat) (b x : List UInt8) (W : World) (h1 : Byt W W.heap.size A n b) (hn1 : A = none → c = 0) (h2 : Byt W W.heap.size A2 n2 x) (hn2 : A2 = none → c2 = 0) (hcm : n ≤ maxLen) (hcm2 : n2 ≤ maxLen) :
    Calls Try.prog 3 #[.slice A n c, .slice A2 n2 c2] W fun e W' => e = .returned (.bool true) ∧ Below W.heap.size W W' := by
  by_cases hbad : 300 < n ∨ (300 < n2 ∧ n2 < 4090) ∨ 4100 < n2
  · exact boxPuts_bad C A A2 n c n2 c2 b x W h1 hn1 h2 hn2 hcm hcm2 hbad
  by_cases hno : n2 = 0 ∨ (4096 < n2 ∧ n2 ≤ 4100)
  · exact boxPuts_no C A A2 n c n2 c2 b x W h1 hn1 h2 hn2 (by omega) hno
  exact boxPuts_good C A A2 n c n2 c2 b x W h1 hn1 h2 hn2 (by omega) (by omega) (by omega) (by omega)

theorem valid_parts (l : List UInt8) : ∀ b ∈ (validC l).1, b.length ≤ l.length := by
  suffices h : ∀ n (r : List UInt8), r.length = n → ∀ b ∈ (validC r).1, b.length ≤ r.length from h l.length l rfl
  intro n
  induction n using Nat.strongRecOn with
  | ind n ih =>
    intro r hr b hb
    by_cases h0 : (headC r).2.2 = 0
    · obtain ⟨h1, h2, h3, _⟩ := head_size r h0
      have hd : (r.drop (headC r).2.1).length = r.length - (headC r).2.1 := List.length_drop
      rw [valid_go r h0] at hb
      rcases List.mem_cons.1 hb with rfl | hb
      · omega
      · have := ih _ (by omega) (r.drop (headC r).2.1) hd b hb
        omega
    · rw [valid_stop r h0] at hb
      cases hb

set_option maxRecDepth 100000 in
set_option maxHeartbeats 2000000 in
theorem boxNexts_law (C : BoxC) (A : Option Addr) (n c : Nat) (l : List UInt8) (a : Int) (W : World) (hl : Byt W W.heap.size A n l) (hnil : A = none → c = 0) (hnc : n ≤ c) (hcm : c ≤ maxLen) :
    Calls Try.prog 4 #[.slice A n c, .int .i64 a] W fun e W' => e = .returned (.bool true) ∧ Below W.heap.size W W' := by
  have hA := fun w => awake12_any C w
  by_cases hbig : 600 < n
  · unfold maxLen at hcm
    have g1 : (600 : Int) < (n : Int) := by omega
    go_enter Try.func4, Try.ntmps4
    go_wp2_with (go_at_call 7; refine (hA _).mono ?_; rintro e w ⟨rfl, hb⟩)
    go_ret
    exact ⟨rfl, hb⟩
  have g1 : ¬ (600 : Int) < (n : Int) := by omega
  have hN := C.next A n c l a W hl hnil hnc hcm (by omega)
  have hR := fun w (hb : Below W.heap.size W w) => refNext_any W.heap.size A n c l a w (hl.below hb) hb.size hnil hnc hcm (by omega)
  have hV := fun w (hb : Below W.heap.size W w) => C.valid A n c l w ((hl.below hb).more hb.size) hnil hnc hcm (by omega)
  have hRV := fun w (hb : Below W.heap.size W w) => refValid_any W.heap.size A n c l w (hl.below hb) hb.size hnil hnc hcm (by omega)
  have hlen := (valid_end l).2
  have hpar := valid_parts l
  have hl1 := hl.1
  have hbn : ∀ r : List UInt8 × Nat × Int, nextC l a = r → r.1.length ≤ 1000000 := by
    intro r hr
    by_cases h : a < 0 ∨ (l.length : Int) < a
    · rw [← hr]; unfold nextC; rw [if_pos h]; simp
    · obtain ⟨k, rfl⟩ := Int.eq_ofNat_of_zero_le (show 0 ≤ a by omega)
      by_cases h0 : (headC (l.drop k)).2.2 = 0
      · rw [← hr, next_go l k (by omega) h0]
        have := head_size _ h0
        simp only
        omega
      · rw [← hr, next_no l k (by omega) h0]; simp
  obtain ⟨r, hr⟩ : ∃ r, nextC l a = r := ⟨_, rfl⟩
  have hbr := hbn r hr
  rw [hr] at hN hR
  obtain ⟨vs, hvs⟩ : ∃ r, validC l = r := ⟨_, rfl⟩
  rw [hvs] at hV hRV hlen hpar
  obtain ⟨r1, r2, r3⟩ := r
  obtain ⟨v1, v2⟩ := vs
  unfold NextQ at hN
  unfold NextPost at hR
  unfold ValidQ at hV
  simp only at hN hR hV hRV hlen hpar hbr
  have t1 : ((r2 : Int) == (r2 : Int)) = true := by simp
  have t2 : (r3 == r3) = true := by simp
  have t3 : ((v2 : Int) == (v2 : Int)) = true := by simp
  have HH := Lib.hid (And.intro hlen (And.intro hpar (And.intro hl1 hbr)))
  clear hlen hpar hl1 hbn hr hvs hbr
  go_enter Try.func4, Try.ntmps4
  go_wp2_with fail
  refine hN.mono ?_
  rintro e w1 ⟨A1, m1, c1, rfl, hx1, p1, p2, p3, hb1⟩
  go_wp2_with fail
  refine (hR _ hb1).mono ?_
  rintro e w2 ⟨A2, m2, c2, rfl, hx2, q1, q2, q3, hb2⟩
  have hB2 := bthen hb1 hb2
  have hx1' := (hx1.below hb2).more hb2.size
  have hx2' := hx2.more hB2.size
  go_wp2_with fail
  refine (hV _ hB2).mono ?_
  rintro e w3 ⟨A3, k3, c3, rfl, hL3, hb3⟩
  have hB3 := bthen hB2 hb3
  go_wp2_with fail
  refine (hRV _ hB3).mono ?_
  rintro e w4 ⟨A4, k4, c4, rfl, hL4, hb4⟩
  have hB4 := bthen hB3 hb4
  have hL3' := hL3.below hb4
  have hx1q := (hx1'.below (bthen hb3 hb4)).more (bthen hb3 hb4).size
  have hx2q := (hx2'.below (bthen hb3 hb4)).more (bthen hb3 hb4).size
  obtain rfl : v1.length = k3 := hL3'.len
  obtain rfl : v1.length = k4 := hL4.len
  go_wp2_with (first
    | (go_at_call 10; refine (same_true _ _ _ _ _ _ _ _ _ _ hx1q hx2q (by have := hx1q.1; have := HH.out.2.2.2; omega) rfl).mono ?_; rintro e w7 ⟨rfl, r7, rfl⟩)
    | (go_at_call 16; refine (refLists_true A3 A4 _ c3 c4 v1 _ _ _ (hL3'.turn ((Turn.refl _ _).drewN _)) (hL4.turn ((Turn.refl _ _).drewN _)) (by have := HH.out.1; have := HH.out.2.2.1; omega) (fun b hb => by have := HH.out.2.1 b hb; have := HH.out.2.2.1; omega)).mono ?_; rintro e w8 ⟨rfl, r8, rfl⟩)
    | (go_at_call 7; refine (hA _).mono ?_; rintro e w9 ⟨rfl, hb9⟩))
  go_ret
  exact ⟨rfl, (below_drewN hB4 (r7 + r8)).trans (hb9.mono hB4.size)⟩

end Go.Proofs.Ytnmibfncgoemfaa
