/-
  Walks of the reference of package real: Parts, Pick.
-/
import Derived.Test.YtjegnbpkmhkeoaaDoorReC
import Derived.Deep.CutBlock
namespace Go.Proofs.YtjegnbpkmhkeoaaDoor
open Go.RowKit
set_option linter.unusedVariables false
set_option linter.unusedSimpArgs false

/-- What the reference's Parts gives: the odd number, the power, whether there are any. -/
def partsM (b : Nat) : Nat := if cls b = 5 then od b else 0
def partsE (b : Nat) : Int := if cls b = 5 then -1074 + ((ex b + tz b : Nat) : Int) else 0
def partsIs (b : Nat) : Bool := decide (cls b = 3 ∨ cls b = 4 ∨ cls b = 5)

theorem refParts_no (b c : Nat) (W : World) (q : Bool) (cc : ∀ W, Calls Tryd.prog 21 #[.int .u64 b] W fun e W' => e = .returned (.int .i64 (c : Nat)) ∧ W = W')
    (hc : ((c = 3 ∨ c = 4) ∧ q = true) ∨ ((c = 0 ∨ c = 1 ∨ c = 2 ∨ c = 6) ∧ q = false)) :
    Calls Tryd.prog 18 #[.int .u64 b] W fun e W' => e = .returned (.tuple #[.int .u64 0, .int .i64 0, .bool q]) ∧ W = W' := by
  rcases hc with ⟨rfl | rfl, rfl⟩ | ⟨rfl | rfl | rfl | rfl, rfl⟩
  all_goals
    go_enter Tryd.func18, Tryd.ntmps18
    go_wp2_with (go_at_call 21; refine (cc _).mono ?_; rintro e w' ⟨rfl, rfl⟩)
    go_ret3
    exact ⟨rfl, rfl⟩

set_option maxHeartbeats 1000000 in
theorem refParts_yes (b : Nat) (h0 : 0 < b) (hb : b < 9218868437227405312) (h5 : cls b = 5) (W : World) :
    Calls Tryd.prog 18 #[.int .u64 b] W fun e W' => e = .returned (.tuple #[.int .u64 (od b : Nat), .int .i64 (-1074 + ((ex b + tz b : Nat) : Int)), .bool true]) ∧ W = W' := by
  have cc := fun W => refClass_any b (by omega) W
  have cf := fun W => fields_any b (by omega) W
  rw [h5] at cc
  obtain ⟨m1, m2, m3⟩ := od_spec b h0
  have hex : ex b ≤ 2045 := by unfold ex; omega
  have hsmall : b / 4503599627370496 % 2048 = 0 → mg b = b % 4503599627370496 ∧ ex b = 0 := by
    intro h
    have := mg_small b (by omega)
    exact ⟨by rw [this.1]; omega, this.2⟩
  have hbig : b / 4503599627370496 % 2048 ≠ 0 → mg b = b % 4503599627370496 + 4503599627370496 ∧ ex b + 1 = b / 4503599627370496 % 2048 := by
    intro h
    unfold mg ex
    rw [if_neg (by omega)]
    omega
  have hs : b / 9223372036854775808 = 0 := by omega
  rw [hs] at cf
  have he : b / 4503599627370496 % 2048 < 2048 := by omega
  have hf : b % 4503599627370496 < 4503599627370496 := by omega
  have hh := fun t ht => half_way b t h0 ht
  have hw := way_lt b
  have hod : mg b / 2 ^ tz b = od b := rfl
  generalize b / 4503599627370496 % 2048 = e at cf hsmall hbig he
  generalize b % 4503599627370496 = f at cf hsmall hbig hf
  generalize od b = o at m1 m2 hod ⊢
  generalize tz b = z at m1 m3 hod hh ⊢
  generalize ex b = x at hex hsmall hbig ⊢
  generalize mg b = m at m1 hsmall hbig hh hw hod
  have hloop : ∀ (W : World) (t : Nat), True := fun _ _ => trivial
  by_cases h : e = 0
  · obtain ⟨hm, hx⟩ := hsmall h
    subst h hx hm
    clear hsmall hbig he hex m1 hloop
    have HH := Lib.hid (And.intro hh (And.intro hod (And.intro m2 m3)))
    clear hh hod
    go_enter Tryd.func18, Tryd.ntmps18
    go_wp2_with (first | (go_at_call 21; refine (cc _).mono ?_; rintro e w' ⟨rfl, rfl⟩) | (go_at_call 29; refine (cf _).mono ?_; rintro e w' ⟨rfl, rfl⟩))
    go_loop [8, 9] (fun fv pv => ∃ t : Nat, t ≤ z ∧ fv = .int .u64 ((m / 2 ^ t : Nat) : Int) ∧ pv = .int .i64 ((-1074) + (t : Int)))
      (fun _ pv => ((z : Int) + (-1074) - intOf pv).toNat)
    case atStart => exact ⟨0, by omega, by rw [Nat.pow_zero, Nat.div_one], by simp⟩
    case round =>
      obtain ⟨t, ht, rfl, rfl⟩ := hrel
      have hy := hw t
      by_cases hlt : t < z
      · obtain ⟨g1, g2, g3⟩ := HH.out.1 t hlt
        have HS := Lib.hid g2
        clear g2
        generalize m / 2 ^ t = y at g1 g3 hy HS
        have g4 : (y : Int) % 2 = 0 := by omega
        clear g1
        go_wp2
        go_round
        case rel => exact ⟨t + 1, by omega, by rw [← HS.out]; go_num, by go_num⟩
        case measure => simp [intOf]; omega
      · obtain rfl : t = z := by omega
        obtain ⟨_, g2, g3, g4⟩ := HH.out
        rw [g2] at hy ⊢
        have g5 : (o : Int) % 2 = 1 := by omega
        clear g2 g3 HH
        go_wp2
        go_ret3
        exact ⟨by simp, rfl⟩
  · obtain ⟨hm, hx⟩ := hbig h
    subst hm
    clear hsmall hbig m1 hloop
    have HH := Lib.hid (And.intro hh (And.intro hod (And.intro m2 m3)))
    clear hh hod
    obtain ⟨u, hu⟩ : ∃ u : Int, u = (e : Int) - 1075 := ⟨_, rfl⟩
    have HU := Lib.hid hu
    have he0 : (0 : Int) < e := by omega
    have hu1 : -1074 ≤ u := by omega
    have hu2 : u ≤ 1000 := by omega
    have hxu : (x : Int) - 1074 = u := by omega
    have HX := Lib.hid hxu
    clear hu hx hxu
    go_enter Tryd.func18, Tryd.ntmps18
    go_wp2_with (first | (go_at_call 21; refine (cc _).mono ?_; rintro e w' ⟨rfl, rfl⟩) | (go_at_call 29; refine (cf _).mono ?_; rintro e w' ⟨rfl, rfl⟩))
    rw [← HU.out]
    go_loop [8, 9] (fun fv pv => ∃ t : Nat, t ≤ z ∧ fv = .int .u64 (((f + 4503599627370496) / 2 ^ t : Nat) : Int) ∧ pv = .int .i64 (u + (t : Int)))
      (fun _ pv => ((z : Int) + u - intOf pv).toNat)
    case atStart => exact ⟨0, by omega, by rw [Nat.pow_zero, Nat.div_one]; rfl, by simp⟩
    case round =>
      obtain ⟨t, ht, rfl, rfl⟩ := hrel
      have hy := hw t
      by_cases hlt : t < z
      · obtain ⟨g1, g2, g3⟩ := HH.out.1 t hlt
        have HS := Lib.hid g2
        clear g2
        generalize (f + 4503599627370496) / 2 ^ t = y at g1 g3 hy HS
        have g4 : (y : Int) % 2 = 0 := by omega
        clear g1
        go_wp2
        go_round
        case rel => exact ⟨t + 1, by omega, by rw [← HS.out]; go_num, by go_num⟩
        case measure => simp [intOf]; omega
      · obtain rfl : t = z := by omega
        obtain ⟨_, g2, g3, g4⟩ := HH.out
        rw [g2] at hy ⊢
        have g5 : (o : Int) % 2 = 1 := by omega
        clear g2 g3 HH
        go_wp2
        go_ret3
        exact ⟨by have := HX.out; simp; omega, rfl⟩

theorem int_div_pow (m q : Nat) : (m : Int) / 2 ^ q = ((m / 2 ^ q : Nat) : Int) := by
  rw [Int.natCast_ediv, Int.natCast_pow]
  rfl

/-- The first loop's state. -/
def KInv (m q : Nat) (kv iv : Value) : Prop := ∃ i : Nat, 1 ≤ i ∧ i ≤ 54 ∧ iv = .int .i64 i ∧ kv = .int .u64 ((kk m q (i - 1) : Nat) : Int)
/-- The second loop's state. -/
def LInv (k n : Nat) (ov tv iv : Value) : Prop := ∃ (c o t : Nat) (i : Int), c ≤ 53 ∧ i = (c : Int) - 1 ∧ iv = .int .i64 i ∧ ov = .int .u64 (o : Int) ∧ tv = .int .u64 (t : Int) ∧ t < 9007199254740992 ∧ o * 9007199254740992 + t = k * (n / 2 ^ c)

theorem tz_sum (b : Nat) (h0 : 0 < b) (hb : b < 9218868437227405312) : ex b + tz b < 2100 := by
  have := (od_spec b h0).2.2
  unfold ex
  omega

theorem od_lt (b : Nat) : od b < 9007199254740992 := Nat.lt_of_le_of_lt (Nat.div_le_self _ _) (mg_lt b)

end Go.Proofs.YtjegnbpkmhkeoaaDoor
