/-
  The library's sort of words: cutting a range at a pivot.
-/
import Derived.Test.YthjikbhjciphiaaGreatDoorZz10
namespace Go.Proofs.YthjikbhjciphiaaGreatDoor
open Go.RowKit
set_option linter.unusedVariables false
set_option linter.unusedSimpArgs false

/-- Ahead of i at most P, behind j more. -/
def EqI (a b i j P : Nat) (ys : List Nat) : Prop := (∀ t, a ≤ t → t < i → atN ys t ≤ P) ∧ (∀ t, j < t → t < b → P < atN ys t) ∧ atN ys a = P
/-- Ahead of i less than P, behind j at least. -/
def PtI (a b i j P : Nat) (ys : List Nat) : Prop := (∀ t, a < t → t < i → atN ys t < P) ∧ (∀ t, j < t → t < b → P ≤ atN ys t) ∧ atN ys a = P
theorem eqI_up {a b i j P : Nat} {ys : List Nat} (h : EqI a b i j P ys) (hx : atN ys i ≤ P) : EqI a b (i + 1) j P ys :=
  ⟨fun t h1 h2 => by by_cases e : t = i; subst e; exact hx; exact h.1 t h1 (by omega), h.2⟩
theorem eqI_down {a b i j j1 P : Nat} {ys : List Nat} (h : EqI a b i j P ys) (hj : j1 + 1 = j) (hx : P < atN ys j) : EqI a b i j1 P ys :=
  ⟨h.1, fun t h1 h2 => by by_cases e : t = j; subst e; exact hx; exact h.2.1 t (by omega) h2, h.2.2⟩
theorem eqI_swap {a b i j j1 P : Nat} {ys : List Nat} (h : EqI a b i j P ys) (hai : a < i) (hij : i < j) (hj : j1 + 1 = j) (hl : j < ys.length) (hx : atN ys j ≤ P) (hy : P < atN ys i) : EqI a b (i + 1) j1 P (swp ys i j) := by
  refine ⟨fun t h1 h2 => ?_, fun t h1 h2 => ?_, ?_⟩
  · rw [at_sw _ _ _ _ (by omega) (by omega), if_neg (by omega)]
    by_cases e : t = i
    · rw [if_pos e]; exact hx
    · rw [if_neg e]; exact h.1 t h1 (by omega)
  · rw [at_sw _ _ _ _ (by omega) (by omega)]
    by_cases e : t = j
    · rw [if_pos e]; exact hy
    · rw [if_neg e, if_neg (by omega)]; exact h.2.1 t (by omega) h2
  · rw [at_sw _ _ _ _ (by omega) (by omega), if_neg (by omega), if_neg (by omega)]; exact h.2.2
theorem ptI_up {a b i j P : Nat} {ys : List Nat} (h : PtI a b i j P ys) (hx : atN ys i < P) : PtI a b (i + 1) j P ys :=
  ⟨fun t h1 h2 => by by_cases e : t = i; subst e; exact hx; exact h.1 t h1 (by omega), h.2⟩
theorem ptI_down {a b i j j1 P : Nat} {ys : List Nat} (h : PtI a b i j P ys) (hj : j1 + 1 = j) (hx : P ≤ atN ys j) : PtI a b i j1 P ys :=
  ⟨h.1, fun t h1 h2 => by by_cases e : t = j; subst e; exact hx; exact h.2.1 t (by omega) h2, h.2.2⟩
theorem ptI_swap {a b i j j1 P : Nat} {ys : List Nat} (h : PtI a b i j P ys) (hai : a < i) (hij : i < j) (hj : j1 + 1 = j) (hl : j < ys.length) (hx : atN ys j < P) (hy : P ≤ atN ys i) : PtI a b (i + 1) j1 P (swp ys i j) := by
  refine ⟨fun t h1 h2 => ?_, fun t h1 h2 => ?_, ?_⟩
  · rw [at_sw _ _ _ _ (by omega) (by omega), if_neg (by omega)]
    by_cases e : t = i
    · rw [if_pos e]; exact hx
    · rw [if_neg e]; exact h.1 t h1 (by omega)
  · rw [at_sw _ _ _ _ (by omega) (by omega)]
    by_cases e : t = j
    · rw [if_pos e]; exact hy
    · rw [if_neg e, if_neg (by omega)]; exact h.2.1 t (by omega) h2
  · rw [at_sw _ _ _ _ (by omega) (by omega), if_neg (by omega), if_neg (by omega)]; exact h.2.2
/-- The pivot put where the parts meet. -/
theorem ptI_cut {a b j P : Nat} {ys : List Nat} (h : PtI a b (j + 1) j P ys) (haj : a ≤ j) (hjb : j < b) (hl : b ≤ ys.length) : Cut a b j (swp ys j a) := by
  have hj : atN (swp ys j a) j = P := by
    rw [at_sw _ _ _ _ (by omega) (by omega)]
    by_cases e : j = a
    · rw [if_pos e, e]; exact h.2.2
    · rw [if_neg e, if_pos rfl]; exact h.2.2
  refine ⟨fun t h1 h2 => ?_, fun t h1 h2 => ?_⟩
  · rw [hj, at_sw _ _ _ _ (by omega) (by omega)]
    by_cases e : t = a
    · rw [if_pos e]; exact Nat.le_of_lt (h.1 j (by omega) (by omega))
    · rw [if_neg e, if_neg (by omega)]; exact Nat.le_of_lt (h.1 t (by omega) (by omega))
  · rw [hj, at_sw _ _ _ _ (by omega) (by omega), if_neg (by omega), if_neg (by omega)]
    exact h.2.1 t h1 h2

set_option maxRecDepth 100000 in
set_option maxHeartbeats 16000000 in
theorem equal_any (B g n c a b p : Nat) (xs : List Nat) (W : World) (h : RowN W B g n c xs) (hap : a ≤ p) (hpb : p < b) (hb : b ≤ n) (hn : n ≤ 1000000000) :
    Calls Tryz.prog 109 #[.slice (some ⟨g, 0, none⟩) n c, .int .i64 (a : Nat), .int .i64 (b : Nat), .int .i64 (p : Nat)] W fun e W' => ∃ (m : Nat) (ys : List Nat), e = .returned (.int .i64 (m : Nat)) ∧ RowN W' B g n c ys ∧ Turn (fun k => k = g) W W' ∧ Sws a b xs ys ∧ a < m ∧ m ≤ b ∧ (∀ t, a ≤ t → t < m → atN ys t ≤ atN xs p) ∧ ∀ t, m ≤ t → t < b → atN xs p < atN ys t := by
  have HB := Lib.hid (show a ≤ p ∧ p < b ∧ b ≤ n ∧ n ≤ 1000000000 from ⟨hap, hpb, hb, hn⟩)
  obtain ⟨X, hX⟩ : ∃ x, atN xs p = x := ⟨_, rfl⟩
  obtain ⟨b1, hb1⟩ : ∃ x, b - 1 = x := ⟨_, rfl⟩
  have g0 : (b : Int) - 1 = (b1 : Int) := by omega
  have a9 : a ≤ 1000000000 := by omega
  have b9 : b ≤ 1000000000 := by omega
  have p9 : p ≤ 1000000000 := by omega
  have HS8 := Lib.hid (show RowN W B g n c xs ∧ Turn (fun k => k = g) W W ∧ True from ⟨h, Turn.refl _ _, trivial⟩)
  have HX := Lib.hid (And.intro hX hb1)
  rw [hX]
  have r9 := HS8.out.1
  have t9 := HS8.out.2.1
  have hln := r9.len
  have hb := HB.out
  obtain ⟨x, hx⟩ : ∃ x, atN xs a = x := ⟨_, rfl⟩
  obtain ⟨y, hy⟩ : ∃ y, atN xs p = y := ⟨_, rfl⟩
  have hpn : a < n := by omega
  have hqn : p < n := by omega
  have c1 := r9.cell a hpn x hx
  have c2 := r9.cell p hqn y hy
  have f1 := r9.frozen a
  have f2 := r9.frozen p
  obtain ⟨x3, hx3⟩ : ∃ x, atN (xs.set a y) p = x := ⟨_, rfl⟩
  have c3 := (r9.set a y).cell p hqn x3 hx3
  have f3 := (r9.set a y).frozen p
  have HRT := Lib.hid (show RowN ((W.setCell ⟨g, a, none⟩ (.int .u64 (y : Nat))).setCell ⟨g, p, none⟩ (.int .u64 (x : Nat))).drew B g n c (swp xs a p) ∧ Turn (fun k => k = g) W ((W.setCell ⟨g, a, none⟩ (.int .u64 (y : Nat))).setCell ⟨g, p, none⟩ (.int .u64 (x : Nat))).drew from ⟨r9.swap a p x y hx hy, turn_swap0 t9 a p (.int .u64 (y : Nat)) (.int .u64 (x : Nat))⟩)
  have hpni : (a : Int) < (n : Int) := by omega
  have hqni : (p : Int) < (n : Int) := by omega
  have HS1 := Lib.hid (show Sws a b xs (swp xs a p) ∧ EqI a b (a + 1) b1 X (swp xs a p) ∧ a + 1 ≤ b1 + 1 ∧ b1 < b from by
    have h1 := HX.out
    obtain ⟨h1, h2⟩ := h1
    refine ⟨Sws.step a p (.refl _) (by omega) (by omega) (by omega) (by omega) (by omega), ⟨fun t h4 h5 => ?_, fun t h4 h5 => by omega, ?_⟩, by omega, by omega⟩
    · obtain rfl : t = a := by omega
      rw [at_sw _ _ _ _ (by omega) (by omega)]
      by_cases e : t = p
      · rw [if_pos e, e, h1]; exact Nat.le_refl _
      · rw [if_neg e, if_pos rfl, h1]; exact Nat.le_refl _
    · rw [at_sw _ _ _ _ (by omega) (by omega)]
      by_cases e : a = p
      · rw [if_pos e, e]; exact h1
      · rw [if_neg e, if_pos rfl]; exact h1)
  clear hX hb1 hap hpb hb hn hx hy hx3 r9 t9 hln h HS8 hpn hqn
  go_enter Tryz.func109, Tryz.ntmps109
  go_wp2_with fail
  go_region
  go_wp2_with fail
  obtain ⟨w1, hw1⟩ : ∃ v, ((W.setCell ⟨g, a, none⟩ (.int .u64 (y : Nat))).setCell ⟨g, p, none⟩ (.int .u64 (x : Nat))).drew = v := ⟨_, rfl⟩
  rw [hw1] at HRT ⊢
  obtain ⟨zs, hzs⟩ : ∃ z, swp xs a p = z := ⟨_, rfl⟩
  rw [hzs] at HRT HS1
  clear hw1 c1 c2 c3 f1 f2 f3 hzs hpni hqni
  go_loopw [9, 10] (fun vi vj wr => ∃ (i j : Nat) (ys : List Nat), vi = .int .i64 i ∧ vj = .int .i64 j ∧ RowN wr B g n c ys ∧ Turn (fun k => k = g) W wr ∧ EqI a b i j X ys ∧ a < i ∧ i ≤ j + 1 ∧ j < b ∧ Sws a b xs ys) (fun vi vj _ => n - (intOf vi).toNat)
  case atStart => exact ⟨a + 1, b1, zs, by go_num, rfl, HRT.out.1, HRT.out.2, HS1.out.2.1, by omega, HS1.out.2.2.1, HS1.out.2.2.2, HS1.out.1⟩
  case round =>
    obtain ⟨i, j, ys, rfl, rfl, hr, ht, hv, hai, hij, hjb, hs⟩ := hrel
    have hi9 : i ≤ 1000000000 := by have := HB.out; omega
    have hj9 : j ≤ 1000000000 := by have := HB.out; omega
    have HQ := Lib.hid (show RowN wr B g n c ys ∧ Turn (fun k => k = g) W wr ∧ EqI a b i j X ys ∧ a < i ∧ i ≤ j + 1 ∧ j < b from ⟨hr, ht, hv, hai, hij, hjb⟩)
    have HSW := Lib.hid (And.intro hs hai)
    clear hr ht hv hai hij hjb hs HRT HS1
    go_wp2_with fail
    obtain ⟨w0, hw0⟩ : ∃ w0, w0 = wr := ⟨_, rfl⟩
    have HQ0 := Lib.hid (show RowN w0 B g n c ys ∧ Turn (fun k => k = g) W w0 ∧ EqI a b i j X ys ∧ a < i ∧ i ≤ j + 1 ∧ j < b from by rw [hw0]; exact HQ.out)
    rw [← hw0]
    clear HQ hw0
    obtain ⟨i0, hi0⟩ : ∃ i0, i0 = i := ⟨_, rfl⟩
    rw [← hi0] at HQ0 ⊢
    have HI9 := Lib.hid hi0
    clear hi0
    go_loopw [9] (fun vi wr => ∃ (i : Nat), vi = .int .i64 i ∧ i0 ≤ i ∧ RowN wr B g n c ys ∧ Turn (fun k => k = g) W wr ∧ EqI a b i j X ys ∧ a < i ∧ i ≤ j + 1 ∧ j < b) (fun vi _ => n - (intOf vi).toNat)
    case atStart => exact ⟨i0, rfl, Nat.le_refl _, HQ0.out⟩
    case round =>
      obtain ⟨i, rfl, hi0, hr, ht, hv, hai, hij, hjb⟩ := hrel
      have HI0 := Lib.hid hi0
      clear hi0
      have hb := HB.out
      have hi9 : i ≤ 1000000000 := by omega
      have hj9 : j ≤ 1000000000 := by omega
      by_cases hlt : i ≤ j
      · have q1 : decide ((i : Int) ≤ (j : Int)) = true := decide_eq_true (by omega)
        have q2 : decide (i ≤ j) = true := decide_eq_true hlt
        obtain ⟨x, hx⟩ : ∃ x, atN ys i = x := ⟨_, rfl⟩
        have c1 := hr.cell i (by omega) x hx
        have c2 := hr.cell a (by omega) X hv.2.2
        have han : (a : Int) < (n : Int) := by omega
        have hvn : (i : Int) < (n : Int) := by omega
        by_cases hc : X < x
        · have hL := lessU_any X x true (decide_eq_true hc)
          have HS := Lib.hid (show RowN wr B g n c ys ∧ Turn (fun k => k = g) W wr ∧ EqI a b i j X ys ∧ a < i ∧ i ≤ j + 1 ∧ j < b ∧ (i ≤ j → X < atN ys i) from ⟨hr, ht, hv, hai, hij, hjb, fun _ => by rw [hx]; omega⟩)
          clear hr ht hv hai hij hjb hb hlt hx hc
          go_wp2_with fail
          go_quiet (first | (go_at_call 108; exact Calls.quiet_of_same (hL _)))
          go_wp2_with fail
          obtain ⟨w9, hw9⟩ : ∃ x, wr.drewN nq = x := ⟨_, rfl⟩
          have HS9 := Lib.hid (And.intro (show RowN w9 B g n c ys by rw [← hw9]; exact HS.out.1.drewN _) (And.intro (show Turn (fun k => k = g) W w9 by rw [← hw9]; exact HS.out.2.1.drewN _) HS.out.2.2))
          rw [hw9]
          clear hw9 HS c1 c2 q1 q2 hL hvn
          obtain ⟨wr, hwr⟩ : ∃ x, x = w9 := ⟨_, rfl⟩
          rw [← hwr] at HS9 ⊢
          have HQ2 := HS9
          clear HS9 hwr
          obtain ⟨w5, hw5⟩ : ∃ w0, w0 = wr := ⟨_, rfl⟩
          have HQ5 := Lib.hid (show RowN w5 B g n c ys ∧ Turn (fun k => k = g) W w5 ∧ EqI a b i j X ys ∧ a < i ∧ i ≤ j + 1 ∧ j < b ∧ (i ≤ j → X < atN ys i) from by rw [hw5]; exact HQ2.out)
          rw [← hw5]
          clear HQ2 hw5
          obtain ⟨j0, hj0⟩ : ∃ j0, j0 = j := ⟨_, rfl⟩
          rw [← hj0] at HQ5 ⊢
          clear hj0
          go_loopw [10] (fun vj wr => ∃ (j : Nat), vj = .int .i64 j ∧ RowN wr B g n c ys ∧ Turn (fun k => k = g) W wr ∧ EqI a b i j X ys ∧ a < i ∧ i ≤ j + 1 ∧ j < b ∧ (i ≤ j → X < atN ys i)) (fun vj _ => (intOf vj).toNat)
          case atStart => exact ⟨j0, rfl, HQ5.out⟩
          case round =>
            obtain ⟨j, rfl, hr, ht, hv, hai, hij, hjb, hst⟩ := hrel
            have hb := HB.out
            have hi9 : i ≤ 1000000000 := by omega
            have hj9 : j ≤ 1000000000 := by omega
            by_cases hlt : i ≤ j
            · have q1 : decide ((i : Int) ≤ (j : Int)) = true := decide_eq_true (by omega)
              have q2 : decide (i ≤ j) = true := decide_eq_true hlt
              obtain ⟨x, hx⟩ : ∃ x, atN ys j = x := ⟨_, rfl⟩
              have c1 := hr.cell j (by omega) x hx
              have c2 := hr.cell a (by omega) X hv.2.2
              have han : (a : Int) < (n : Int) := by omega
              have hvn : (j : Int) < (n : Int) := by omega
              by_cases hc : X < x
              · have hL := lessU_any X x true (decide_eq_true hc)
                obtain ⟨j1, hj1⟩ : ∃ x, j - 1 = x := ⟨_, rfl⟩
                have g1 : (j : Int) - 1 = (j1 : Int) := by omega
                have HS := Lib.hid (show RowN wr B g n c ys ∧ Turn (fun k => k = g) W wr ∧ EqI a b i j1 X ys ∧ a < i ∧ i ≤ j1 + 1 ∧ j1 < b ∧ (i ≤ j1 → X < atN ys i) ∧ j1 < j from ⟨hr, ht, eqI_down hv (by omega) (by rw [hx]; omega), hai, by omega, by omega, fun h => hst (by omega), by omega⟩)
                clear hr ht hv hai hij hjb hb hlt hx hc hst hj1
                go_wp2_with fail
                go_quiet (first | (go_at_call 108; exact Calls.quiet_of_same (hL _)))
                go_wp2_with fail
                go_roundw
                case rel => exact ⟨j1, rfl, HS.out.1.drewN _, HS.out.2.1.drewN _, HS.out.2.2.1, HS.out.2.2.2.1, HS.out.2.2.2.2.1, HS.out.2.2.2.2.2.1, HS.out.2.2.2.2.2.2.1⟩
                case measure => have := HS.out; simp [intOf]; omega
              · have hL := lessU_any X x false (decide_eq_false hc)
                have HS := Lib.hid (show RowN wr B g n c ys ∧ Turn (fun k => k = g) W wr ∧ EqI a b i j X ys ∧ a < i ∧ i < j ∧ j < b ∧ X < atN ys i ∧ atN ys j ≤ X from ⟨hr, ht, hv, hai, by
                  have h1 := hst hlt
                  rcases Nat.lt_or_ge i j with h2 | h2
                  · exact h2
                  · obtain rfl : i = j := by omega
                    rw [hx] at h1; omega, hjb, hst hlt, by rw [hx]; omega⟩)
                clear hr ht hv hai hij hjb hb hlt hx hc hst
                go_wp2_with fail
                go_quiet (first | (go_at_call 108; exact Calls.quiet_of_same (hL _)))
                obtain ⟨w9, hw9⟩ : ∃ x, wr.drewN nq = x := ⟨_, rfl⟩
                have HS9 := Lib.hid (And.intro (show RowN w9 B g n c ys by rw [← hw9]; exact HS.out.1.drewN _) (And.intro (show Turn (fun k => k = g) W w9 by rw [← hw9]; exact HS.out.2.1.drewN _) HS.out.2.2))
                rw [hw9]
                clear hw9 HS c1 c2 q1 q2 hL hvn
                have t1 : ¬ (j : Int) < (i : Int) := by have := HS9.out.2.2.2.2.1; omega
                have hij := HS9.out.2.2.2.2.1
                have hjb := HS9.out.2.2.2.2.2.1
                have r9 := HS9.out.1
                have t9 := HS9.out.2.1
                have hln := r9.len
                have hb := HB.out
                obtain ⟨x, hx⟩ : ∃ x, atN ys i = x := ⟨_, rfl⟩
                obtain ⟨y, hy⟩ : ∃ y, atN ys j = y := ⟨_, rfl⟩
                have hpn : i < n := by omega
                have hqn : j < n := by omega
                have c1 := r9.cell i hpn x hx
                have c2 := r9.cell j hqn y hy
                have f1 := r9.frozen i
                have f2 := r9.frozen j
                obtain ⟨x3, hx3⟩ : ∃ x, atN (ys.set i y) j = x := ⟨_, rfl⟩
                have c3 := (r9.set i y).cell j hqn x3 hx3
                have f3 := (r9.set i y).frozen j
                have HRT := Lib.hid (show RowN ((w9.setCell ⟨g, i, none⟩ (.int .u64 (y : Nat))).setCell ⟨g, j, none⟩ (.int .u64 (x : Nat))).drew B g n c (swp ys i j) ∧ Turn (fun k => k = g) W ((w9.setCell ⟨g, i, none⟩ (.int .u64 (y : Nat))).setCell ⟨g, j, none⟩ (.int .u64 (x : Nat))).drew from ⟨r9.swap i j x y hx hy, turn_swap0 t9 i j (.int .u64 (y : Nat)) (.int .u64 (x : Nat))⟩)
                have hpni : (i : Int) < (n : Int) := by omega
                have hqni : (j : Int) < (n : Int) := by omega
                obtain ⟨j1, hj1⟩ : ∃ x, j - 1 = x := ⟨_, rfl⟩
                have g1 : (j : Int) - 1 = (j1 : Int) := by omega
                have HN := Lib.hid (show EqI a b (i + 1) j1 X (swp ys i j) ∧ a < i + 1 ∧ i + 1 ≤ j1 + 1 ∧ j1 < b ∧ Sws a b xs (swp ys i j) ∧ i < n from ⟨eqI_swap HS9.out.2.2.1 HS9.out.2.2.2.1 hij (by omega) (by omega) HS9.out.2.2.2.2.2.2.2 HS9.out.2.2.2.2.2.2.1, by have := HS9.out.2.2.2.1; omega, by omega, by omega, Sws.step i j HSW.out.1 (by have := HS9.out.2.2.2.1; omega) (by omega) (by have := HS9.out.2.2.2.1; omega) (by omega) (by omega), by omega⟩)
                clear r9 t9 hln hb hx hy hx3 hj1 hij hjb hpn hqn
                go_wp2_with fail
                go_region
                go_wp2_with fail
                go_roundw
                case rel => exact ⟨i + 1, j1, swp ys i j, by go_num, rfl, HRT.out.1, HRT.out.2, HN.out.1, HN.out.2.1, HN.out.2.2.1, HN.out.2.2.2.1, HN.out.2.2.2.2.1⟩
                case measure => have := HN.out; have := HI0.out; have := HI9.out; simp [intOf]; omega
            · have q1 : decide ((i : Int) ≤ (j : Int)) = false := decide_eq_false (by omega)
              have q2 : decide (i ≤ j) = false := decide_eq_false hlt
              have HS := Lib.hid (show RowN wr B g n c ys ∧ Turn (fun k => k = g) W wr ∧ EqI a b i j X ys ∧ a < i ∧ i ≤ j + 1 ∧ j < b ∧ j < i from ⟨hr, ht, hv, hai, hij, hjb, by omega⟩)
              clear hr ht hv hai hij hjb hb hlt hst
              go_wp2_with fail
              go_quiet (fail)
              obtain ⟨w9, hw9⟩ : ∃ x, wr.drewN nq = x := ⟨_, rfl⟩
              have HS9 := Lib.hid (And.intro (show RowN w9 B g n c ys by rw [← hw9]; exact HS.out.1.drewN _) (And.intro (show Turn (fun k => k = g) W w9 by rw [← hw9]; exact HS.out.2.1.drewN _) HS.out.2.2))
              rw [hw9]
              clear hw9 HS q1 q2
              have t1 : (j : Int) < (i : Int) := by have := HS9.out.2.2.2.2.2.2; omega
              go_wp2_with fail
              go_ret
              refine ⟨i, ys, rfl, HS9.out.1, HS9.out.2.1, HSW.out.1, HS9.out.2.2.2.1, ?_, ?_, ?_⟩
              · have := HS9.out.2.2; omega
              · intro t h1 h2; exact HS9.out.2.2.1.1 t h1 h2
              · intro t h1 h2; exact HS9.out.2.2.1.2.1 t (by have := HS9.out.2.2; omega) h2
        · have hL := lessU_any X x false (decide_eq_false hc)
          have HS := Lib.hid (show RowN wr B g n c ys ∧ Turn (fun k => k = g) W wr ∧ EqI a b (i + 1) j X ys ∧ a < i + 1 ∧ i + 1 ≤ j + 1 ∧ j < b ∧ i < n from ⟨hr, ht, eqI_up hv (by rw [hx]; omega), by omega, by omega, hjb, by omega⟩)
          clear hr ht hv hai hij hjb hb hlt hx hc
          go_wp2_with fail
          go_quiet (first | (go_at_call 108; exact Calls.quiet_of_same (hL _)))
          go_wp2_with fail
          go_roundw
          case rel => exact ⟨i + 1, by go_num, by have := HI0.out; omega, HS.out.1.drewN _, HS.out.2.1.drewN _, HS.out.2.2.1, HS.out.2.2.2.1, HS.out.2.2.2.2.1, HS.out.2.2.2.2.2.1⟩
          case measure => have := HS.out; simp [intOf]; omega
      · have q1 : decide ((i : Int) ≤ (j : Int)) = false := decide_eq_false (by omega)
        have q2 : decide (i ≤ j) = false := decide_eq_false hlt
        have HS := Lib.hid (show RowN wr B g n c ys ∧ Turn (fun k => k = g) W wr ∧ EqI a b i j X ys ∧ a < i ∧ i ≤ j + 1 ∧ j < b ∧ (i ≤ j → X < atN ys i) from ⟨hr, ht, hv, hai, hij, hjb, fun h => absurd h hlt⟩)
        clear hr ht hv hai hij hjb hb hlt
        go_wp2_with fail
        go_quiet (fail)
        go_wp2_with fail
        obtain ⟨w9, hw9⟩ : ∃ x, wr.drewN nq = x := ⟨_, rfl⟩
        have HS9 := Lib.hid (And.intro (show RowN w9 B g n c ys by rw [← hw9]; exact HS.out.1.drewN _) (And.intro (show Turn (fun k => k = g) W w9 by rw [← hw9]; exact HS.out.2.1.drewN _) HS.out.2.2))
        rw [hw9]
        clear hw9 HS q1 q2
        obtain ⟨wr, hwr⟩ : ∃ x, x = w9 := ⟨_, rfl⟩
        rw [← hwr] at HS9 ⊢
        have HQ2 := HS9
        clear HS9 hwr
        obtain ⟨w5, hw5⟩ : ∃ w0, w0 = wr := ⟨_, rfl⟩
        have HQ5 := Lib.hid (show RowN w5 B g n c ys ∧ Turn (fun k => k = g) W w5 ∧ EqI a b i j X ys ∧ a < i ∧ i ≤ j + 1 ∧ j < b ∧ (i ≤ j → X < atN ys i) from by rw [hw5]; exact HQ2.out)
        rw [← hw5]
        clear HQ2 hw5
        obtain ⟨j0, hj0⟩ : ∃ j0, j0 = j := ⟨_, rfl⟩
        rw [← hj0] at HQ5 ⊢
        clear hj0
        go_loopw [10] (fun vj wr => ∃ (j : Nat), vj = .int .i64 j ∧ RowN wr B g n c ys ∧ Turn (fun k => k = g) W wr ∧ EqI a b i j X ys ∧ a < i ∧ i ≤ j + 1 ∧ j < b ∧ (i ≤ j → X < atN ys i)) (fun vj _ => (intOf vj).toNat)
        case atStart => exact ⟨j0, rfl, HQ5.out⟩
        case round =>
          obtain ⟨j, rfl, hr, ht, hv, hai, hij, hjb, hst⟩ := hrel
          have hb := HB.out
          have hi9 : i ≤ 1000000000 := by omega
          have hj9 : j ≤ 1000000000 := by omega
          by_cases hlt : i ≤ j
          · have q1 : decide ((i : Int) ≤ (j : Int)) = true := decide_eq_true (by omega)
            have q2 : decide (i ≤ j) = true := decide_eq_true hlt
            obtain ⟨x, hx⟩ : ∃ x, atN ys j = x := ⟨_, rfl⟩
            have c1 := hr.cell j (by omega) x hx
            have c2 := hr.cell a (by omega) X hv.2.2
            have han : (a : Int) < (n : Int) := by omega
            have hvn : (j : Int) < (n : Int) := by omega
            by_cases hc : X < x
            · have hL := lessU_any X x true (decide_eq_true hc)
              obtain ⟨j1, hj1⟩ : ∃ x, j - 1 = x := ⟨_, rfl⟩
              have g1 : (j : Int) - 1 = (j1 : Int) := by omega
              have HS := Lib.hid (show RowN wr B g n c ys ∧ Turn (fun k => k = g) W wr ∧ EqI a b i j1 X ys ∧ a < i ∧ i ≤ j1 + 1 ∧ j1 < b ∧ (i ≤ j1 → X < atN ys i) ∧ j1 < j from ⟨hr, ht, eqI_down hv (by omega) (by rw [hx]; omega), hai, by omega, by omega, fun h => hst (by omega), by omega⟩)
              clear hr ht hv hai hij hjb hb hlt hx hc hst hj1
              go_wp2_with fail
              go_quiet (first | (go_at_call 108; exact Calls.quiet_of_same (hL _)))
              go_wp2_with fail
              go_roundw
              case rel => exact ⟨j1, rfl, HS.out.1.drewN _, HS.out.2.1.drewN _, HS.out.2.2.1, HS.out.2.2.2.1, HS.out.2.2.2.2.1, HS.out.2.2.2.2.2.1, HS.out.2.2.2.2.2.2.1⟩
              case measure => have := HS.out; simp [intOf]; omega
            · have hL := lessU_any X x false (decide_eq_false hc)
              have HS := Lib.hid (show RowN wr B g n c ys ∧ Turn (fun k => k = g) W wr ∧ EqI a b i j X ys ∧ a < i ∧ i < j ∧ j < b ∧ X < atN ys i ∧ atN ys j ≤ X from ⟨hr, ht, hv, hai, by
                have h1 := hst hlt
                rcases Nat.lt_or_ge i j with h2 | h2
                · exact h2
                · obtain rfl : i = j := by omega
                  rw [hx] at h1; omega, hjb, hst hlt, by rw [hx]; omega⟩)
              clear hr ht hv hai hij hjb hb hlt hx hc hst
              go_wp2_with fail
              go_quiet (first | (go_at_call 108; exact Calls.quiet_of_same (hL _)))
              obtain ⟨w9, hw9⟩ : ∃ x, wr.drewN nq = x := ⟨_, rfl⟩
              have HS9 := Lib.hid (And.intro (show RowN w9 B g n c ys by rw [← hw9]; exact HS.out.1.drewN _) (And.intro (show Turn (fun k => k = g) W w9 by rw [← hw9]; exact HS.out.2.1.drewN _) HS.out.2.2))
              rw [hw9]
              clear hw9 HS c1 c2 q1 q2 hL hvn
              have t1 : ¬ (j : Int) < (i : Int) := by have := HS9.out.2.2.2.2.1; omega
              have hij := HS9.out.2.2.2.2.1
              have hjb := HS9.out.2.2.2.2.2.1
              have r9 := HS9.out.1
              have t9 := HS9.out.2.1
              have hln := r9.len
              have hb := HB.out
              obtain ⟨x, hx⟩ : ∃ x, atN ys i = x := ⟨_, rfl⟩
              obtain ⟨y, hy⟩ : ∃ y, atN ys j = y := ⟨_, rfl⟩
              have hpn : i < n := by omega
              have hqn : j < n := by omega
              have c1 := r9.cell i hpn x hx
              have c2 := r9.cell j hqn y hy
              have f1 := r9.frozen i
              have f2 := r9.frozen j
              obtain ⟨x3, hx3⟩ : ∃ x, atN (ys.set i y) j = x := ⟨_, rfl⟩
              have c3 := (r9.set i y).cell j hqn x3 hx3
              have f3 := (r9.set i y).frozen j
              have HRT := Lib.hid (show RowN ((w9.setCell ⟨g, i, none⟩ (.int .u64 (y : Nat))).setCell ⟨g, j, none⟩ (.int .u64 (x : Nat))).drew B g n c (swp ys i j) ∧ Turn (fun k => k = g) W ((w9.setCell ⟨g, i, none⟩ (.int .u64 (y : Nat))).setCell ⟨g, j, none⟩ (.int .u64 (x : Nat))).drew from ⟨r9.swap i j x y hx hy, turn_swap0 t9 i j (.int .u64 (y : Nat)) (.int .u64 (x : Nat))⟩)
              have hpni : (i : Int) < (n : Int) := by omega
              have hqni : (j : Int) < (n : Int) := by omega
              obtain ⟨j1, hj1⟩ : ∃ x, j - 1 = x := ⟨_, rfl⟩
              have g1 : (j : Int) - 1 = (j1 : Int) := by omega
              have HN := Lib.hid (show EqI a b (i + 1) j1 X (swp ys i j) ∧ a < i + 1 ∧ i + 1 ≤ j1 + 1 ∧ j1 < b ∧ Sws a b xs (swp ys i j) ∧ i < n from ⟨eqI_swap HS9.out.2.2.1 HS9.out.2.2.2.1 hij (by omega) (by omega) HS9.out.2.2.2.2.2.2.2 HS9.out.2.2.2.2.2.2.1, by have := HS9.out.2.2.2.1; omega, by omega, by omega, Sws.step i j HSW.out.1 (by have := HS9.out.2.2.2.1; omega) (by omega) (by have := HS9.out.2.2.2.1; omega) (by omega) (by omega), by omega⟩)
              clear r9 t9 hln hb hx hy hx3 hj1 hij hjb hpn hqn
              go_wp2_with fail
              go_region
              go_wp2_with fail
              go_roundw
              case rel => exact ⟨i + 1, j1, swp ys i j, by go_num, rfl, HRT.out.1, HRT.out.2, HN.out.1, HN.out.2.1, HN.out.2.2.1, HN.out.2.2.2.1, HN.out.2.2.2.2.1⟩
              case measure => have := HN.out; have := HI0.out; have := HI9.out; simp [intOf]; omega
          · have q1 : decide ((i : Int) ≤ (j : Int)) = false := decide_eq_false (by omega)
            have q2 : decide (i ≤ j) = false := decide_eq_false hlt
            have HS := Lib.hid (show RowN wr B g n c ys ∧ Turn (fun k => k = g) W wr ∧ EqI a b i j X ys ∧ a < i ∧ i ≤ j + 1 ∧ j < b ∧ j < i from ⟨hr, ht, hv, hai, hij, hjb, by omega⟩)
            clear hr ht hv hai hij hjb hb hlt hst
            go_wp2_with fail
            go_quiet (fail)
            obtain ⟨w9, hw9⟩ : ∃ x, wr.drewN nq = x := ⟨_, rfl⟩
            have HS9 := Lib.hid (And.intro (show RowN w9 B g n c ys by rw [← hw9]; exact HS.out.1.drewN _) (And.intro (show Turn (fun k => k = g) W w9 by rw [← hw9]; exact HS.out.2.1.drewN _) HS.out.2.2))
            rw [hw9]
            clear hw9 HS q1 q2
            have t1 : (j : Int) < (i : Int) := by have := HS9.out.2.2.2.2.2.2; omega
            go_wp2_with fail
            go_ret
            refine ⟨i, ys, rfl, HS9.out.1, HS9.out.2.1, HSW.out.1, HS9.out.2.2.2.1, ?_, ?_, ?_⟩
            · have := HS9.out.2.2; omega
            · intro t h1 h2; exact HS9.out.2.2.1.1 t h1 h2
            · intro t h1 h2; exact HS9.out.2.2.1.2.1 t (by have := HS9.out.2.2; omega) h2

end Go.Proofs.YthjikbhjciphiaaGreatDoor
