/-
  The library's sort of words: a few insertions, where almost all rises.
-/
import Derived.Test.YthjikbhjciphiaaGreatDoorZz10
namespace Go.Proofs.YthjikbhjciphiaaGreatDoor
open Go.RowKit
set_option linter.unusedVariables false
set_option linter.unusedSimpArgs false

theorem srt_snoc {a i : Nat} {ys : List Nat} (h : Srt a i ys) (ha : a < i) (hx : atN ys (i - 1) ≤ atN ys i) : Srt a (i + 1) ys := by
  intro p q h1 h2 h3
  by_cases e : q = i
  · subst e
    by_cases e2 : p = q - 1
    · subst e2; exact hx
    · exact Nat.le_trans (h p (q - 1) h1 (by omega) (by omega)) hx
  · exact h p q h1 h2 (by omega)
theorem srt_sw {a i p q : Nat} {ys : List Nat} (h : Srt a i ys) (hp : i ≤ p) (hq : i ≤ q) (h1 : p < ys.length) (h2 : q < ys.length) : Srt a i (swp ys p q) := by
  intro s t k1 k2 k3
  rw [at_sw _ _ _ _ h1 h2, at_sw _ _ _ _ h1 h2, if_neg (by omega), if_neg (by omega), if_neg (by omega), if_neg (by omega)]
  exact h s t k1 k2 k3

def PinP (W : World) (B g n c a b : Nat) (xs : List Nat) (e : Ending) (W' : World) : Prop := ∃ (bl : Bool) (ys : List Nat), e = .returned (.bool bl) ∧ RowN W' B g n c ys ∧ Turn (fun k => k = g) W W' ∧ Sws a b xs ys ∧ (bl = true → Srt a b ys)

set_option maxRecDepth 100000 in
set_option maxHeartbeats 32000000 in
theorem pins_any (B g n c a b : Nat) (xs : List Nat) (W : World) (h : RowN W B g n c xs) (hab : a < b) (hb : b ≤ n) (hn : n ≤ 1000000000) (hlow : Low a b xs) :
    Calls Tryz.prog 107 #[.slice (some ⟨g, 0, none⟩) n c, .int .i64 (a : Nat), .int .i64 (b : Nat)] W (PinP W B g n c a b xs) := by
  have HB := Lib.hid (show a < b ∧ b ≤ n ∧ n ≤ 1000000000 from ⟨hab, hb, hn⟩)
  have HL := Lib.hid hlow
  obtain ⟨i9, hi9⟩ : ∃ x, a + 1 = x := ⟨_, rfl⟩
  have g00 : (a : Int) + 1 = (i9 : Int) := by omega
  have a9 : a ≤ 1000000000 := by omega
  have b9 : b ≤ 1000000000 := by omega
  have i99 : i9 ≤ 1000000000 := by omega
  have HI9 := Lib.hid hi9
  have HW := Lib.hid h
  clear hab hb hn hlow hi9 h
  go_enter Tryz.func107, Tryz.ntmps107
  go_wp2_with fail
  go_loopw [7, 8] (fun vi vq wr => ∃ (i q : Nat) (ys : List Nat), vi = .int .i64 i ∧ vq = .int .i64 q ∧ a < i ∧ i ≤ b ∧ q ≤ 5 ∧ RowN wr B g n c ys ∧ Turn (fun k => k = g) W wr ∧ Sws a b xs ys ∧ Srt a i ys) (fun vi vq _ => 5 - (intOf vq).toNat)
  case atStart => exact ⟨i9, 0, xs, rfl, rfl, by have := HI9.out; omega, by have := HI9.out; have := HB.out; omega, by omega, HW.out, Turn.refl _ _, .refl _, srt_short _ (by have := HI9.out; omega)⟩
  case round =>
    obtain ⟨i, q, ys, rfl, rfl, hai, hib, hq5, hr, ht, hs, hv⟩ := hrel
    by_cases hq : q < 5
    · have tq : (q : Int) < 5 := by omega
      have HQ := Lib.hid (show RowN wr B g n c ys ∧ Turn (fun k => k = g) W wr ∧ Sws a b xs ys ∧ Srt a i ys ∧ a < i ∧ i ≤ b from ⟨hr, ht, hs, hv, hai, hib⟩)
      have HQ5 := Lib.hid hq
      clear hai hib hq5 hr ht hs hv hq
      go_wp2_with fail
      obtain ⟨w0, hw0⟩ : ∃ w0, w0 = wr := ⟨_, rfl⟩
      rw [← hw0] at HQ ⊢
      clear hw0
      obtain ⟨i0, hi0⟩ : ∃ i0, i0 = i := ⟨_, rfl⟩
      rw [← hi0] at HQ ⊢
      clear hi0
      go_loopw [7] (fun vi wr => ∃ (i : Nat), vi = .int .i64 i ∧ RowN wr B g n c ys ∧ Turn (fun k => k = g) W wr ∧ Sws a b xs ys ∧ Srt a i ys ∧ a < i ∧ i ≤ b) (fun vi _ => n - (intOf vi).toNat)
      case atStart => exact ⟨i0, rfl, HQ.out⟩
      case round =>
        obtain ⟨i, rfl, hr, ht, hs, hv, hai, hib⟩ := hrel
        have hb := HB.out
        have hln := hr.len
        have hi9 : i ≤ 1000000000 := by omega
        by_cases hlt : i < b
        · have q1 : decide ((i : Int) < (b : Int)) = true := decide_eq_true (by omega)
          have q2 : decide (i < b) = true := decide_eq_true hlt
          obtain ⟨m, hm⟩ : ∃ x, i - 1 = x := ⟨_, rfl⟩
          have g1 : (i : Int) - 1 = (m : Int) := by omega
          have hm9 : m ≤ 1000000000 := by omega
          obtain ⟨x, hx⟩ : ∃ x, atN ys i = x := ⟨_, rfl⟩
          obtain ⟨y, hy⟩ : ∃ x, atN ys m = x := ⟨_, rfl⟩
          have c1 := hr.cell i (by omega) x hx
          have c2 := hr.cell m (by omega) y hy
          have hin : (i : Int) < (n : Int) := by omega
          have hmn : (m : Int) < (n : Int) := by omega
          by_cases hc : x < y
          · have hL := lessU_any x y true (decide_eq_true hc)
            have HS := Lib.hid (show RowN wr B g n c ys ∧ Turn (fun k => k = g) W wr ∧ Sws a b xs ys ∧ Srt a i ys ∧ a < i ∧ i < b ∧ i - 1 = m from ⟨hr, ht, hs, hv, hai, hlt, hm⟩)
            have qe : ((i : Int) == (b : Int)) = false := by simp; omega
            obtain ⟨ba, hba⟩ : ∃ x, b - a = x := ⟨_, rfl⟩
            have g2 : (b : Int) - (a : Int) = (ba : Int) := by omega
            have hba9 : ba ≤ 1000000000 := by omega
            clear hr ht hs hv hai hib hb hln hlt hx hy hc hm hba
            by_cases h50 : ba < 50
            · have t50 : (ba : Int) < 50 := by omega
              go_wp2_with fail
              go_quiet (first | (go_at_call 108; exact Calls.quiet_of_same (hL _)))
              go_wp2_with fail
              go_ret
              exact ⟨false, ys, rfl, HS.out.1.drewN _, HS.out.2.1.drewN _, HS.out.2.2.1, fun h => by cases h⟩
            · have t50 : ¬ (ba : Int) < 50 := by omega
              go_wp2_with fail
              go_quiet (first | (go_at_call 108; exact Calls.quiet_of_same (hL _)))
              obtain ⟨w9, hw9⟩ : ∃ x, wr.drewN nq = x := ⟨_, rfl⟩
              have HS9 := Lib.hid (And.intro (show RowN w9 B g n c ys by rw [← hw9]; exact HS.out.1.drewN _) (And.intro (show Turn (fun k => k = g) W w9 by rw [← hw9]; exact HS.out.2.1.drewN _) HS.out.2.2))
              rw [hw9]
              clear hw9 HS c1 c2 q1 q2 hL
              have hs9 := HS9.out.2.2
              have r9 := HS9.out.1
              have t9 := HS9.out.2.1
              have hln := r9.len
              have hb := HB.out
              obtain ⟨x, hx⟩ : ∃ x, atN ys i = x := ⟨_, rfl⟩
              obtain ⟨y, hy⟩ : ∃ y, atN ys m = y := ⟨_, rfl⟩
              have hpn : i < n := by omega
              have hqn : m < n := by omega
              have c1 := r9.cell i hpn x hx
              have c2 := r9.cell m hqn y hy
              have f1 := r9.frozen i
              have f2 := r9.frozen m
              obtain ⟨x3, hx3⟩ : ∃ x, atN (ys.set i y) m = x := ⟨_, rfl⟩
              have c3 := (r9.set i y).cell m hqn x3 hx3
              have f3 := (r9.set i y).frozen m
              have HRT := Lib.hid (show RowN ((w9.setCell ⟨g, i, none⟩ (.int .u64 (y : Nat))).setCell ⟨g, m, none⟩ (.int .u64 (x : Nat))).drew B g n c (swp ys i m) ∧ Turn (fun k => k = g) W ((w9.setCell ⟨g, i, none⟩ (.int .u64 (y : Nat))).setCell ⟨g, m, none⟩ (.int .u64 (x : Nat))).drew from ⟨r9.swap i m x y hx hy, turn_swap0 t9 i m (.int .u64 (y : Nat)) (.int .u64 (x : Nat))⟩)
              have hpni : (i : Int) < (n : Int) := by omega
              have hqni : (m : Int) < (n : Int) := by omega
              have hsw : Sws a b xs (swp ys i m) := Sws.step i m hs9.1 (by omega) (by omega) (by omega) (by omega) (by omega)
              have hpre : Srt a m (swp ys i m) := srt_sw (fun p q h1 h2 h3 => hs9.2.1 p q h1 h2 (by omega)) (by omega) (by omega) (by omega) (by omega)
              obtain ⟨w2, hw2⟩ : ∃ v, ((w9.setCell ⟨g, i, none⟩ (.int .u64 (y : Nat))).setCell ⟨g, m, none⟩ (.int .u64 (x : Nat))).drew = v := ⟨_, rfl⟩
              obtain ⟨zs, hzs⟩ : ∃ z, swp ys i m = z := ⟨_, rfl⟩
              rw [hzs] at hsw hpre HRT
              have HZ := Lib.hid (show Sws a b xs zs ∧ Srt a m zs ∧ m + 1 = i ∧ a ≤ m ∧ i < b ∧ RowN w2 B g n c zs ∧ Turn (fun k => k = g) W w2 from ⟨hsw, hpre, by omega, by omega, by omega, by rw [← hw2]; exact HRT.out.1, by rw [← hw2]; exact HRT.out.2⟩)
              obtain ⟨ia, hia⟩ : ∃ x, i - a = x := ⟨_, rfl⟩
              have g3 : (i : Int) - (a : Int) = (ia : Int) := by omega
              have hia9 : ia ≤ 1000000000 := by omega
              obtain ⟨bi, hbi⟩ : ∃ x, b - i = x := ⟨_, rfl⟩
              have g4 : (b : Int) - (i : Int) = (bi : Int) := by omega
              have hbi9 : bi ≤ 1000000000 := by omega
              have HIA := Lib.hid (show i - a = ia ∧ b - i = bi from ⟨hia, hbi⟩)
              clear r9 t9 hln hb hx hy hx3 hpn hqn hs9 hsw hpre hia hbi HRT HS9 hzs
              by_cases h2 : 2 ≤ ia
              · have t2 : (2 : Int) ≤ (ia : Int) := by omega
                go_wp2_with fail
                go_region
                try rw [hw2]
                clear hw2 c1 c2 c3 f1 f2 f3
                go_wp2_with fail
                go_loopw [9] (fun vj wr => ∃ (j : Nat) (us : List Nat), vj = .int .i64 j ∧ a ≤ j ∧ j ≤ m ∧ RowN wr B g n c us ∧ Turn (fun k => k = g) W wr ∧ Sws a b xs us ∧ InsI a m j us) (fun vj _ => (intOf vj).toNat)
                case atStart => exact ⟨m, zs, rfl, HZ.out.2.2.2.1, Nat.le_refl _, HZ.out.2.2.2.2.2.1, HZ.out.2.2.2.2.2.2, HZ.out.1, ins_start HZ.out.2.1⟩
                case round =>
                  obtain ⟨j, us, rfl, haj, hjm, hr, ht, hs, hv⟩ := hrel
                  have hb := HB.out
                  have hz := HZ.out.2.2
                  have hln := hr.len
                  have hj9 : j ≤ 1000000000 := by omega
                  by_cases hj1 : 1 ≤ j
                  · have tj : (1 : Int) ≤ (j : Int) := by omega
                    obtain ⟨k, hk⟩ : ∃ x, j - 1 = x := ⟨_, rfl⟩
                    have g6 : (j : Int) - 1 = (k : Int) := by omega
                    have hk9 : k ≤ 1000000000 := by omega
                    obtain ⟨x, hx⟩ : ∃ x, atN us j = x := ⟨_, rfl⟩
                    obtain ⟨y, hy⟩ : ∃ x, atN us k = x := ⟨_, rfl⟩
                    have c1 := hr.cell j (by omega) x hx
                    have c2 := hr.cell k (by omega) y hy
                    have f1 := hr.frozen j
                    have f2 := hr.frozen k
                    have hjn : (j : Int) < (n : Int) := by omega
                    have hkn : (k : Int) < (n : Int) := by omega
                    by_cases hc : x < y
                    · have haj2 : a < j := by
                        rcases Nat.lt_or_ge a j with h | h
                        · exact h
                        · obtain rfl : a = j := by omega
                          have := (HL.out.sws hs) (by omega) a (Nat.le_refl _) (by omega)
                          rw [hk, hx, hy] at this
                          omega
                      have hL := lessU_any x y true (decide_eq_true hc)
                      have HR := fun q => Lib.hid (show RowN (((wr.drewN q).setCell ⟨g, j, none⟩ (.int .u64 (y : Nat))).setCell ⟨g, k, none⟩ (.int .u64 (x : Nat))) B g n c (swp us j k) from (hr.drewN q).swap j k x y hx hy)
                      have HT := fun q => Lib.hid (turn_swap ht q j k (.int .u64 (y : Nat)) (.int .u64 (x : Nat)))
                      have HN := Lib.hid (show Sws a b xs (swp us j k) ∧ InsI a m k (swp us j k) ∧ a ≤ k ∧ k ≤ m ∧ k < j from ⟨Sws.step j k hs (by omega) (by omega) (by omega) (by omega) (by omega), by
                        have := ins_step hv haj2 hjm (by omega) (by rw [hk, hx, hy]; exact hc)
                        rwa [hk] at this, by omega, by omega, by omega⟩)
                      clear hr ht hs hv haj hjm hb hz hln hj1 hx hy hc hk haj2
                      go_wp2_with fail
                      go_quiet (first | (go_at_call 108; exact Calls.quiet_of_same (hL _)))
                      go_wp2_with fail
                      go_region
                      go_wp2_with fail
                      go_roundw
                      case rel => exact ⟨k, swp us j k, rfl, HN.out.2.2.1, HN.out.2.2.2.1, (HR _).out, (HT _).out, HN.out.1, HN.out.2.1⟩
                      case measure => have := HN.out; simp [intOf]; omega
                    · have hL := lessU_any x y false (decide_eq_false hc)
                      have HN := Lib.hid (show RowN wr B g n c us ∧ Turn (fun k => k = g) W wr ∧ Sws a b xs us ∧ Srt a i us ∧ a < i ∧ i < b from ⟨hr, ht, hs, by
                        have := ins_stop hv hjm (.inr (by rw [hk, hx, hy]; omega))
                        rwa [hz.1] at this, by omega, by omega⟩)
                      clear hr ht hs hv haj hjm hb hz hln hj1 hx hy hc hk
                      go_wp2_with fail
                      go_quiet (first | (go_at_call 108; exact Calls.quiet_of_same (hL _)))
                      obtain ⟨wb, hwb⟩ : ∃ x, wr.drewN nq = x := ⟨_, rfl⟩
                      have HS := Lib.hid (show RowN wb B g n c us ∧ Turn (fun k => k = g) W wb ∧ Sws a b xs us ∧ Srt a i us ∧ a < i ∧ i < b from ⟨by rw [← hwb]; exact HN.out.1.drewN _, by rw [← hwb]; exact HN.out.2.1.drewN _, HN.out.2.2⟩)
                      rw [hwb]
                      clear hwb HN c1 c2 f1 f2 hL
                      obtain ⟨wr, hwr⟩ : ∃ x, x = wb := ⟨_, rfl⟩
                      rw [← hwr] at HS ⊢
                      clear hwr
                      by_cases h3 : 2 ≤ bi
                      · have t3 : (2 : Int) ≤ (bi : Int) := by omega
                        obtain ⟨i1, hi1⟩ : ∃ x, i + 1 = x := ⟨_, rfl⟩
                        have g5 : (i : Int) + 1 = (i1 : Int) := by omega
                        have hi19 : i1 ≤ 1000000001 := by omega
                        have HI1 := Lib.hid (show i + 1 = i1 ∧ i1 < b from ⟨hi1, by have := HIA.out; omega⟩)
                        clear hi1 h3
                        go_wp2_with fail
                        obtain ⟨wa, hwa⟩ : ∃ w0, w0 = wr := ⟨_, rfl⟩
                        rw [← hwa] at HS ⊢
                        clear hwa
                        go_loopw [10] (fun vj wr => ∃ (j : Nat) (vs : List Nat), vj = .int .i64 j ∧ i < j ∧ j ≤ b ∧ RowN wr B g n c vs ∧ Turn (fun k => k = g) W wr ∧ Sws a b xs vs ∧ Srt a i vs) (fun vj _ => b - (intOf vj).toNat)
                        case atStart => exact ⟨i1, us, rfl, by have := HI1.out; omega, by have := HI1.out; omega, HS.out.1, HS.out.2.1, HS.out.2.2.1, HS.out.2.2.2.1⟩
                        case round =>
                          obtain ⟨j, vs, rfl, hij, hjb, hr, ht, hs, hv⟩ := hrel
                          have hb := HB.out
                          have hln := hr.len
                          have hai := HS.out.2.2.2.2
                          have hj9 : j ≤ 1000000000 := by omega
                          by_cases hlt : j < b
                          · have tj : (j : Int) < (b : Int) := by omega
                            obtain ⟨k, hk⟩ : ∃ x, j - 1 = x := ⟨_, rfl⟩
                            have g6 : (j : Int) - 1 = (k : Int) := by omega
                            have hk9 : k ≤ 1000000000 := by omega
                            obtain ⟨x, hx⟩ : ∃ x, atN vs j = x := ⟨_, rfl⟩
                            obtain ⟨y, hy⟩ : ∃ x, atN vs k = x := ⟨_, rfl⟩
                            have c1 := hr.cell j (by omega) x hx
                            have c2 := hr.cell k (by omega) y hy
                            have f1 := hr.frozen j
                            have f2 := hr.frozen k
                            have hjn : (j : Int) < (n : Int) := by omega
                            have hkn : (k : Int) < (n : Int) := by omega
                            by_cases hc : x < y
                            · have hL := lessU_any x y true (decide_eq_true hc)
                              have HR := fun q => Lib.hid (show RowN (((wr.drewN q).setCell ⟨g, j, none⟩ (.int .u64 (y : Nat))).setCell ⟨g, k, none⟩ (.int .u64 (x : Nat))) B g n c (swp vs j k) from (hr.drewN q).swap j k x y hx hy)
                              have HT := fun q => Lib.hid (turn_swap ht q j k (.int .u64 (y : Nat)) (.int .u64 (x : Nat)))
                              have HN := Lib.hid (show Sws a b xs (swp vs j k) ∧ Srt a i (swp vs j k) ∧ i < j + 1 ∧ j + 1 ≤ b from ⟨Sws.step j k hs (by omega) (by omega) (by omega) (by omega) (by omega), srt_sw hv (by omega) (by omega) (by omega) (by omega), by omega, by omega⟩)
                              clear hr ht hs hv hij hjb hb hln hai hlt hx hy hc hk
                              go_wp2_with fail
                              go_quiet (first | (go_at_call 108; exact Calls.quiet_of_same (hL _)))
                              go_wp2_with fail
                              go_region
                              go_wp2_with fail
                              go_roundw
                              case rel => exact ⟨j + 1, swp vs j k, by go_num, HN.out.2.2.1, HN.out.2.2.2, (HR _).out, (HT _).out, HN.out.1, HN.out.2.1⟩
                              case measure => have := HN.out; simp [intOf]; omega
                            · have hL := lessU_any x y false (decide_eq_false hc)
                              have HN := Lib.hid (show RowN wr B g n c vs ∧ Turn (fun k => k = g) W wr ∧ Sws a b xs vs ∧ Srt a i vs ∧ a < i ∧ i ≤ b from ⟨hr, ht, hs, hv, by omega, by omega⟩)
                              clear hr ht hs hv hij hjb hb hln hai hlt hx hy hc hk
                              go_wp2_with fail
                              go_quiet (first | (go_at_call 108; exact Calls.quiet_of_same (hL _)))
                              go_wp2_with fail
                              go_roundw
                              case rel => exact ⟨i, q + 1, vs, rfl, by go_num, HN.out.2.2.2.2.1, HN.out.2.2.2.2.2, by have := HQ5.out; omega, HN.out.1.drewN _, HN.out.2.1.drewN _, HN.out.2.2.1, HN.out.2.2.2.1⟩
                              case measure => have := HQ5.out; simp [intOf]; omega
                          · have tj : ¬ (j : Int) < (b : Int) := by omega
                            have HN := Lib.hid (show RowN wr B g n c vs ∧ Turn (fun k => k = g) W wr ∧ Sws a b xs vs ∧ Srt a i vs ∧ a < i ∧ i ≤ b from ⟨hr, ht, hs, hv, by omega, by omega⟩)
                            clear hr ht hs hv hij hjb hb hln hai hlt
                            go_wp2_with fail
                            go_roundw
                            case rel => exact ⟨i, q + 1, vs, rfl, by go_num, HN.out.2.2.2.2.1, HN.out.2.2.2.2.2, by have := HQ5.out; omega, HN.out.1, HN.out.2.1, HN.out.2.2.1, HN.out.2.2.2.1⟩
                            case measure => have := HQ5.out; simp [intOf]; omega
                      · have t3 : ¬ (2 : Int) ≤ (bi : Int) := by omega
                        go_wp2_with fail
                        go_roundw
                        case rel => exact ⟨i, q + 1, us, rfl, by go_num, HS.out.2.2.2.2.1, Nat.le_of_lt HS.out.2.2.2.2.2, by have := HQ5.out; omega, HS.out.1, HS.out.2.1, HS.out.2.2.1, HS.out.2.2.2.1⟩
                        case measure => have := HQ5.out; simp [intOf]; omega
                  · have tj : ¬ (1 : Int) ≤ (j : Int) := by omega
                    have HS := Lib.hid (show RowN wr B g n c us ∧ Turn (fun k => k = g) W wr ∧ Sws a b xs us ∧ Srt a i us ∧ a < i ∧ i < b from ⟨hr, ht, hs, by
                      have := ins_stop hv hjm (.inl (by omega))
                      rwa [hz.1] at this, by omega, by omega⟩)
                    clear hr ht hs hv haj hjm hb hz hln hj1
                    by_cases h3 : 2 ≤ bi
                    · have t3 : (2 : Int) ≤ (bi : Int) := by omega
                      obtain ⟨i1, hi1⟩ : ∃ x, i + 1 = x := ⟨_, rfl⟩
                      have g5 : (i : Int) + 1 = (i1 : Int) := by omega
                      have hi19 : i1 ≤ 1000000001 := by omega
                      have HI1 := Lib.hid (show i + 1 = i1 ∧ i1 < b from ⟨hi1, by have := HIA.out; omega⟩)
                      clear hi1 h3
                      go_wp2_with fail
                      obtain ⟨wa, hwa⟩ : ∃ w0, w0 = wr := ⟨_, rfl⟩
                      rw [← hwa] at HS ⊢
                      clear hwa
                      go_loopw [10] (fun vj wr => ∃ (j : Nat) (vs : List Nat), vj = .int .i64 j ∧ i < j ∧ j ≤ b ∧ RowN wr B g n c vs ∧ Turn (fun k => k = g) W wr ∧ Sws a b xs vs ∧ Srt a i vs) (fun vj _ => b - (intOf vj).toNat)
                      case atStart => exact ⟨i1, us, rfl, by have := HI1.out; omega, by have := HI1.out; omega, HS.out.1, HS.out.2.1, HS.out.2.2.1, HS.out.2.2.2.1⟩
                      case round =>
                        obtain ⟨j, vs, rfl, hij, hjb, hr, ht, hs, hv⟩ := hrel
                        have hb := HB.out
                        have hln := hr.len
                        have hai := HS.out.2.2.2.2
                        have hj9 : j ≤ 1000000000 := by omega
                        by_cases hlt : j < b
                        · have tj : (j : Int) < (b : Int) := by omega
                          obtain ⟨k, hk⟩ : ∃ x, j - 1 = x := ⟨_, rfl⟩
                          have g6 : (j : Int) - 1 = (k : Int) := by omega
                          have hk9 : k ≤ 1000000000 := by omega
                          obtain ⟨x, hx⟩ : ∃ x, atN vs j = x := ⟨_, rfl⟩
                          obtain ⟨y, hy⟩ : ∃ x, atN vs k = x := ⟨_, rfl⟩
                          have c1 := hr.cell j (by omega) x hx
                          have c2 := hr.cell k (by omega) y hy
                          have f1 := hr.frozen j
                          have f2 := hr.frozen k
                          have hjn : (j : Int) < (n : Int) := by omega
                          have hkn : (k : Int) < (n : Int) := by omega
                          by_cases hc : x < y
                          · have hL := lessU_any x y true (decide_eq_true hc)
                            have HR := fun q => Lib.hid (show RowN (((wr.drewN q).setCell ⟨g, j, none⟩ (.int .u64 (y : Nat))).setCell ⟨g, k, none⟩ (.int .u64 (x : Nat))) B g n c (swp vs j k) from (hr.drewN q).swap j k x y hx hy)
                            have HT := fun q => Lib.hid (turn_swap ht q j k (.int .u64 (y : Nat)) (.int .u64 (x : Nat)))
                            have HN := Lib.hid (show Sws a b xs (swp vs j k) ∧ Srt a i (swp vs j k) ∧ i < j + 1 ∧ j + 1 ≤ b from ⟨Sws.step j k hs (by omega) (by omega) (by omega) (by omega) (by omega), srt_sw hv (by omega) (by omega) (by omega) (by omega), by omega, by omega⟩)
                            clear hr ht hs hv hij hjb hb hln hai hlt hx hy hc hk
                            go_wp2_with fail
                            go_quiet (first | (go_at_call 108; exact Calls.quiet_of_same (hL _)))
                            go_wp2_with fail
                            go_region
                            go_wp2_with fail
                            go_roundw
                            case rel => exact ⟨j + 1, swp vs j k, by go_num, HN.out.2.2.1, HN.out.2.2.2, (HR _).out, (HT _).out, HN.out.1, HN.out.2.1⟩
                            case measure => have := HN.out; simp [intOf]; omega
                          · have hL := lessU_any x y false (decide_eq_false hc)
                            have HN := Lib.hid (show RowN wr B g n c vs ∧ Turn (fun k => k = g) W wr ∧ Sws a b xs vs ∧ Srt a i vs ∧ a < i ∧ i ≤ b from ⟨hr, ht, hs, hv, by omega, by omega⟩)
                            clear hr ht hs hv hij hjb hb hln hai hlt hx hy hc hk
                            go_wp2_with fail
                            go_quiet (first | (go_at_call 108; exact Calls.quiet_of_same (hL _)))
                            go_wp2_with fail
                            go_roundw
                            case rel => exact ⟨i, q + 1, vs, rfl, by go_num, HN.out.2.2.2.2.1, HN.out.2.2.2.2.2, by have := HQ5.out; omega, HN.out.1.drewN _, HN.out.2.1.drewN _, HN.out.2.2.1, HN.out.2.2.2.1⟩
                            case measure => have := HQ5.out; simp [intOf]; omega
                        · have tj : ¬ (j : Int) < (b : Int) := by omega
                          have HN := Lib.hid (show RowN wr B g n c vs ∧ Turn (fun k => k = g) W wr ∧ Sws a b xs vs ∧ Srt a i vs ∧ a < i ∧ i ≤ b from ⟨hr, ht, hs, hv, by omega, by omega⟩)
                          clear hr ht hs hv hij hjb hb hln hai hlt
                          go_wp2_with fail
                          go_roundw
                          case rel => exact ⟨i, q + 1, vs, rfl, by go_num, HN.out.2.2.2.2.1, HN.out.2.2.2.2.2, by have := HQ5.out; omega, HN.out.1, HN.out.2.1, HN.out.2.2.1, HN.out.2.2.2.1⟩
                          case measure => have := HQ5.out; simp [intOf]; omega
                    · have t3 : ¬ (2 : Int) ≤ (bi : Int) := by omega
                      go_wp2_with fail
                      go_roundw
                      case rel => exact ⟨i, q + 1, us, rfl, by go_num, HS.out.2.2.2.2.1, Nat.le_of_lt HS.out.2.2.2.2.2, by have := HQ5.out; omega, HS.out.1, HS.out.2.1, HS.out.2.2.1, HS.out.2.2.2.1⟩
                      case measure => have := HQ5.out; simp [intOf]; omega
              · have t2 : ¬ (2 : Int) ≤ (ia : Int) := by omega
                have HS0 := Lib.hid (show RowN w2 B g n c zs ∧ Turn (fun k => k = g) W w2 ∧ Sws a b xs zs ∧ Srt a i zs ∧ a < i ∧ i < b from ⟨HZ.out.2.2.2.2.2.1, HZ.out.2.2.2.2.2.2, HZ.out.1, srt_short _ (by have := HIA.out; have := HZ.out.2.2; omega), by have := HZ.out.2.2; omega, HZ.out.2.2.2.2.1⟩)
                go_wp2_with fail
                go_region
                try rw [hw2]
                clear hw2 c1 c2 c3 f1 f2 f3
                obtain ⟨us, hus⟩ : ∃ x, x = zs := ⟨_, rfl⟩
                have HS1 := HS0
                rw [← hus] at HS1
                clear HS0
                obtain ⟨wr, hwr⟩ : ∃ x, x = w2 := ⟨_, rfl⟩
                have HS := HS1
                rw [← hwr] at HS ⊢
                clear hwr HS1 hus h2
                by_cases h3 : 2 ≤ bi
                · have t3 : (2 : Int) ≤ (bi : Int) := by omega
                  obtain ⟨i1, hi1⟩ : ∃ x, i + 1 = x := ⟨_, rfl⟩
                  have g5 : (i : Int) + 1 = (i1 : Int) := by omega
                  have hi19 : i1 ≤ 1000000001 := by omega
                  have HI1 := Lib.hid (show i + 1 = i1 ∧ i1 < b from ⟨hi1, by have := HIA.out; omega⟩)
                  clear hi1 h3
                  go_wp2_with fail
                  obtain ⟨wa, hwa⟩ : ∃ w0, w0 = wr := ⟨_, rfl⟩
                  rw [← hwa] at HS ⊢
                  clear hwa
                  go_loopw [10] (fun vj wr => ∃ (j : Nat) (vs : List Nat), vj = .int .i64 j ∧ i < j ∧ j ≤ b ∧ RowN wr B g n c vs ∧ Turn (fun k => k = g) W wr ∧ Sws a b xs vs ∧ Srt a i vs) (fun vj _ => b - (intOf vj).toNat)
                  case atStart => exact ⟨i1, us, rfl, by have := HI1.out; omega, by have := HI1.out; omega, HS.out.1, HS.out.2.1, HS.out.2.2.1, HS.out.2.2.2.1⟩
                  case round =>
                    obtain ⟨j, vs, rfl, hij, hjb, hr, ht, hs, hv⟩ := hrel
                    have hb := HB.out
                    have hln := hr.len
                    have hai := HS.out.2.2.2.2
                    have hj9 : j ≤ 1000000000 := by omega
                    by_cases hlt : j < b
                    · have tj : (j : Int) < (b : Int) := by omega
                      obtain ⟨k, hk⟩ : ∃ x, j - 1 = x := ⟨_, rfl⟩
                      have g6 : (j : Int) - 1 = (k : Int) := by omega
                      have hk9 : k ≤ 1000000000 := by omega
                      obtain ⟨x, hx⟩ : ∃ x, atN vs j = x := ⟨_, rfl⟩
                      obtain ⟨y, hy⟩ : ∃ x, atN vs k = x := ⟨_, rfl⟩
                      have c1 := hr.cell j (by omega) x hx
                      have c2 := hr.cell k (by omega) y hy
                      have f1 := hr.frozen j
                      have f2 := hr.frozen k
                      have hjn : (j : Int) < (n : Int) := by omega
                      have hkn : (k : Int) < (n : Int) := by omega
                      by_cases hc : x < y
                      · have hL := lessU_any x y true (decide_eq_true hc)
                        have HR := fun q => Lib.hid (show RowN (((wr.drewN q).setCell ⟨g, j, none⟩ (.int .u64 (y : Nat))).setCell ⟨g, k, none⟩ (.int .u64 (x : Nat))) B g n c (swp vs j k) from (hr.drewN q).swap j k x y hx hy)
                        have HT := fun q => Lib.hid (turn_swap ht q j k (.int .u64 (y : Nat)) (.int .u64 (x : Nat)))
                        have HN := Lib.hid (show Sws a b xs (swp vs j k) ∧ Srt a i (swp vs j k) ∧ i < j + 1 ∧ j + 1 ≤ b from ⟨Sws.step j k hs (by omega) (by omega) (by omega) (by omega) (by omega), srt_sw hv (by omega) (by omega) (by omega) (by omega), by omega, by omega⟩)
                        clear hr ht hs hv hij hjb hb hln hai hlt hx hy hc hk
                        go_wp2_with fail
                        go_quiet (first | (go_at_call 108; exact Calls.quiet_of_same (hL _)))
                        go_wp2_with fail
                        go_region
                        go_wp2_with fail
                        go_roundw
                        case rel => exact ⟨j + 1, swp vs j k, by go_num, HN.out.2.2.1, HN.out.2.2.2, (HR _).out, (HT _).out, HN.out.1, HN.out.2.1⟩
                        case measure => have := HN.out; simp [intOf]; omega
                      · have hL := lessU_any x y false (decide_eq_false hc)
                        have HN := Lib.hid (show RowN wr B g n c vs ∧ Turn (fun k => k = g) W wr ∧ Sws a b xs vs ∧ Srt a i vs ∧ a < i ∧ i ≤ b from ⟨hr, ht, hs, hv, by omega, by omega⟩)
                        clear hr ht hs hv hij hjb hb hln hai hlt hx hy hc hk
                        go_wp2_with fail
                        go_quiet (first | (go_at_call 108; exact Calls.quiet_of_same (hL _)))
                        go_wp2_with fail
                        go_roundw
                        case rel => exact ⟨i, q + 1, vs, rfl, by go_num, HN.out.2.2.2.2.1, HN.out.2.2.2.2.2, by have := HQ5.out; omega, HN.out.1.drewN _, HN.out.2.1.drewN _, HN.out.2.2.1, HN.out.2.2.2.1⟩
                        case measure => have := HQ5.out; simp [intOf]; omega
                    · have tj : ¬ (j : Int) < (b : Int) := by omega
                      have HN := Lib.hid (show RowN wr B g n c vs ∧ Turn (fun k => k = g) W wr ∧ Sws a b xs vs ∧ Srt a i vs ∧ a < i ∧ i ≤ b from ⟨hr, ht, hs, hv, by omega, by omega⟩)
                      clear hr ht hs hv hij hjb hb hln hai hlt
                      go_wp2_with fail
                      go_roundw
                      case rel => exact ⟨i, q + 1, vs, rfl, by go_num, HN.out.2.2.2.2.1, HN.out.2.2.2.2.2, by have := HQ5.out; omega, HN.out.1, HN.out.2.1, HN.out.2.2.1, HN.out.2.2.2.1⟩
                      case measure => have := HQ5.out; simp [intOf]; omega
                · have t3 : ¬ (2 : Int) ≤ (bi : Int) := by omega
                  exfalso; omega
          · have hL := lessU_any x y false (decide_eq_false hc)
            have HN := Lib.hid (show RowN wr B g n c ys ∧ Turn (fun k => k = g) W wr ∧ Sws a b xs ys ∧ Srt a (i + 1) ys ∧ a < i + 1 ∧ i + 1 ≤ b ∧ i < n from ⟨hr, ht, hs, srt_snoc hv hai (by rw [hm, hx, hy]; omega), by omega, by omega, by omega⟩)
            clear hr ht hs hv hai hib hb hln hlt hx hy hc hm
            go_wp2_with fail
            go_quiet (first | (go_at_call 108; exact Calls.quiet_of_same (hL _)))
            go_wp2_with fail
            go_roundw
            case rel => exact ⟨i + 1, by go_num, HN.out.1.drewN _, HN.out.2.1.drewN _, HN.out.2.2.1, HN.out.2.2.2.1, HN.out.2.2.2.2.1, HN.out.2.2.2.2.2.1⟩
            case measure => have := HN.out; simp [intOf]; omega
        · have q1 : decide ((i : Int) < (b : Int)) = false := decide_eq_false (by omega)
          have q2 : decide (i < b) = false := decide_eq_false hlt
          have qe : ((i : Int) == (b : Int)) = true := by rw [beq_iff_eq]; omega
          have HN := Lib.hid (show RowN wr B g n c ys ∧ Turn (fun k => k = g) W wr ∧ Sws a b xs ys ∧ Srt a b ys from ⟨hr, ht, hs, fun p q h1 h2 h3 => hv p q h1 h2 (by omega)⟩)
          clear hr ht hs hv hai hib hb hln hlt
          go_wp2_with fail
          go_quiet (fail)
          go_wp2_with fail
          go_ret
          exact ⟨true, ys, rfl, HN.out.1.drewN _, HN.out.2.1.drewN _, HN.out.2.2.1, fun _ => HN.out.2.2.2⟩
    · have tq : ¬ (q : Int) < 5 := by omega
      have HN := Lib.hid (show RowN wr B g n c ys ∧ Turn (fun k => k = g) W wr ∧ Sws a b xs ys from ⟨hr, ht, hs⟩)
      clear hai hib hq5 hr ht hs hv hq
      go_wp2_with fail
      go_ret
      exact ⟨false, ys, rfl, HN.out.1, HN.out.2.1, HN.out.2.2, fun h => by cases h⟩

end Go.Proofs.YthjikbhjciphiaaGreatDoor
