/-
  Walks of the reference of package real: Parts, Pick.
-/
import Derived.Test.YtcjlokjjjmmomaaReC
import Derived.Deep.CutBlock
namespace Go.Proofs.Ytcjlokjjjmmomaa
open Go.RowKit
set_option linter.unusedVariables false
set_option linter.unusedSimpArgs false

/-- What the reference's Parts gives: the odd number, the power, whether there are any. -/
def partsM (b : Nat) : Nat := if cls b = 5 then od b else 0
def partsE (b : Nat) : Int := if cls b = 5 then -1074 + ((ex b + tz b : Nat) : Int) else 0
def partsIs (b : Nat) : Bool := decide (cls b = 3 ∨ cls b = 4 ∨ cls b = 5)

theorem refParts_no (b c : Nat) (W : World) (q : Bool) (cc : ∀ W, Calls Try.prog 7 #[.int .u64 b] W fun e W' => e = .returned (.int .i64 (c : Nat)) ∧ W = W')
    (hc : ((c = 3 ∨ c = 4) ∧ q = true) ∨ ((c = 0 ∨ c = 1 ∨ c = 2 ∨ c = 6) ∧ q = false)) :
    Calls Try.prog 22 #[.int .u64 b] W fun e W' => e = .returned (.tuple #[.int .u64 0, .int .i64 0, .bool q]) ∧ W = W' := by
  rcases hc with ⟨rfl | rfl, rfl⟩ | ⟨rfl | rfl | rfl | rfl, rfl⟩
  all_goals
    go_enter Try.func22, Try.ntmps22
    go_wp2_with (go_at_call 7; refine (cc _).mono ?_; rintro e w' ⟨rfl, rfl⟩)
    go_ret3
    exact ⟨rfl, rfl⟩

set_option maxHeartbeats 1000000 in
theorem refParts_yes (b : Nat) (h0 : 0 < b) (hb : b < 9218868437227405312) (h5 : cls b = 5) (W : World) :
    Calls Try.prog 22 #[.int .u64 b] W fun e W' => e = .returned (.tuple #[.int .u64 (od b : Nat), .int .i64 (-1074 + ((ex b + tz b : Nat) : Int)), .bool true]) ∧ W = W' := by
  have cc := fun W => refClass_any b (by omega) W
  have cf := fun W => fields_any b (by omega) W
  rw [h5] at cc
  obtain ⟨m1, m2, m3⟩ := od_spec b h0
  have hex : ex b ≤ 2045 := by unfold ex; omega
  have hsmall : b / 4503599627370496 % 2048 = 0 → mg b = b % 4503599627370496 ∧ ex b = 0 := by
    intro h
    have := mg_small b (by omega)
    exact ⟨by rw [this.1]; omega, this.2⟩
  have hbig : b / 4503599627370496 % 2048 ≠ 0 → mg b = b % 4503599627370496 + 4503599627370496 ∧ ex b + 1 = b / 4503599627370496 % 2048 := by
    intro h
    unfold mg ex
    rw [if_neg (by omega)]
    omega
  have hs : b / 9223372036854775808 = 0 := by omega
  rw [hs] at cf
  have he : b / 4503599627370496 % 2048 < 2048 := by omega
  have hf : b % 4503599627370496 < 4503599627370496 := by omega
  have hh := fun t ht => half_way b t h0 ht
  have hw := way_lt b
  have hod : mg b / 2 ^ tz b = od b := rfl
  generalize b / 4503599627370496 % 2048 = e at cf hsmall hbig he
  generalize b % 4503599627370496 = f at cf hsmall hbig hf
  generalize od b = o at m1 m2 hod ⊢
  generalize tz b = z at m1 m3 hod hh ⊢
  generalize ex b = x at hex hsmall hbig ⊢
  generalize mg b = m at m1 hsmall hbig hh hw hod
  have hloop : ∀ (W : World) (t : Nat), True := fun _ _ => trivial
  by_cases h : e = 0
  · obtain ⟨hm, hx⟩ := hsmall h
    subst h hx hm
    clear hsmall hbig he hex m1 hloop
    have HH := Lib.hid (And.intro hh (And.intro hod (And.intro m2 m3)))
    clear hh hod
    go_enter Try.func22, Try.ntmps22
    go_wp2_with (first | (go_at_call 7; refine (cc _).mono ?_; rintro e w' ⟨rfl, rfl⟩) | (go_at_call 20; refine (cf _).mono ?_; rintro e w' ⟨rfl, rfl⟩))
    go_loop [8, 9] (fun fv pv => ∃ t : Nat, t ≤ z ∧ fv = .int .u64 ((m / 2 ^ t : Nat) : Int) ∧ pv = .int .i64 ((-1074) + (t : Int)))
      (fun _ pv => ((z : Int) + (-1074) - intOf pv).toNat)
    case atStart => exact ⟨0, by omega, by rw [Nat.pow_zero, Nat.div_one], by simp⟩
    case round =>
      obtain ⟨t, ht, rfl, rfl⟩ := hrel
      have hy := hw t
      by_cases hlt : t < z
      · obtain ⟨g1, g2, g3⟩ := HH.out.1 t hlt
        have HS := Lib.hid g2
        clear g2
        generalize m / 2 ^ t = y at g1 g3 hy HS
        have g4 : (y : Int) % 2 = 0 := by omega
        clear g1
        go_wp2
        go_round
        case rel => exact ⟨t + 1, by omega, by rw [← HS.out]; go_num, by go_num⟩
        case measure => simp [intOf]; omega
      · obtain rfl : t = z := by omega
        obtain ⟨_, g2, g3, g4⟩ := HH.out
        rw [g2] at hy ⊢
        have g5 : (o : Int) % 2 = 1 := by omega
        clear g2 g3 HH
        go_wp2
        go_ret3
        exact ⟨by simp, rfl⟩
  · obtain ⟨hm, hx⟩ := hbig h
    subst hm
    clear hsmall hbig m1 hloop
    have HH := Lib.hid (And.intro hh (And.intro hod (And.intro m2 m3)))
    clear hh hod
    obtain ⟨u, hu⟩ : ∃ u : Int, u = (e : Int) - 1075 := ⟨_, rfl⟩
    have HU := Lib.hid hu
    have he0 : (0 : Int) < e := by omega
    have hu1 : -1074 ≤ u := by omega
    have hu2 : u ≤ 1000 := by omega
    have hxu : (x : Int) - 1074 = u := by omega
    have HX := Lib.hid hxu
    clear hu hx hxu
    go_enter Try.func22, Try.ntmps22
    go_wp2_with (first | (go_at_call 7; refine (cc _).mono ?_; rintro e w' ⟨rfl, rfl⟩) | (go_at_call 20; refine (cf _).mono ?_; rintro e w' ⟨rfl, rfl⟩))
    rw [← HU.out]
    go_loop [8, 9] (fun fv pv => ∃ t : Nat, t ≤ z ∧ fv = .int .u64 (((f + 4503599627370496) / 2 ^ t : Nat) : Int) ∧ pv = .int .i64 (u + (t : Int)))
      (fun _ pv => ((z : Int) + u - intOf pv).toNat)
    case atStart => exact ⟨0, by omega, by rw [Nat.pow_zero, Nat.div_one]; rfl, by simp⟩
    case round =>
      obtain ⟨t, ht, rfl, rfl⟩ := hrel
      have hy := hw t
      by_cases hlt : t < z
      · obtain ⟨g1, g2, g3⟩ := HH.out.1 t hlt
        have HS := Lib.hid g2
        clear g2
        generalize (f + 4503599627370496) / 2 ^ t = y at g1 g3 hy HS
        have g4 : (y : Int) % 2 = 0 := by omega
        clear g1
        go_wp2
        go_round
        case rel => exact ⟨t + 1, by omega, by rw [← HS.out]; go_num, by go_num⟩
        case measure => simp [intOf]; omega
      · obtain rfl : t = z := by omega
        obtain ⟨_, g2, g3, g4⟩ := HH.out
        rw [g2] at hy ⊢
        have g5 : (o : Int) % 2 = 1 := by omega
        clear g2 g3 HH
        go_wp2
        go_ret3
        exact ⟨by have := HX.out; simp; omega, rfl⟩

theorem refPick_none (b : Nat) (n : Int) (hn : n < 1) (W : World) :
    Calls Try.prog 15 #[.int .u64 b, .int .i64 n] W fun e W' => e = .returned (.int .i64 (-1)) ∧ W = W' := by
  go_enter Try.func15, Try.ntmps15
  go_wp2
  go_ret
  exact ⟨rfl, rfl⟩

theorem refPick_no (b c : Nat) (n : Nat) (q : Bool) (hn : 0 < n) (hn2 : n < 9007199254740992) (W : World)
    (cc : ∀ W, Calls Try.prog 7 #[.int .u64 b] W fun e W' => e = .returned (.int .i64 (c : Nat)) ∧ W = W')
    (cp : ∀ W, Calls Try.prog 22 #[.int .u64 b] W fun e W' => e = .returned (.tuple #[.int .u64 0, .int .i64 0, .bool q]) ∧ W = W')
    (h : c ≠ 6) :
    Calls Try.prog 15 #[.int .u64 b, .int .i64 n] W fun e W' => e = .returned (.int .i64 0) ∧ W = W' := by
  have t1 : ¬ (n : Int) < 1 := by omega
  have t2 : ((c : Int) == 6) = false := by simp; omega
  clear h
  cases q
  all_goals
    go_enter Try.func15, Try.ntmps15
    go_wp2_with (first | (go_at_call 7; refine (cc _).mono ?_; rintro e w' ⟨rfl, rfl⟩) | (go_at_call 22; refine (cp _).mono ?_; rintro e w' ⟨rfl, rfl⟩))
    go_ret
    exact ⟨rfl, rfl⟩

theorem refPick_inf (b : Nat) (n : Nat) (hn : 0 < n) (hn2 : n < 9007199254740992) (W : World)
    (cc : ∀ W, Calls Try.prog 7 #[.int .u64 b] W fun e W' => e = .returned (.int .i64 6) ∧ W = W')
    (cp : ∀ W, Calls Try.prog 22 #[.int .u64 b] W fun e W' => e = .returned (.tuple #[.int .u64 0, .int .i64 0, .bool false]) ∧ W = W') :
    Calls Try.prog 15 #[.int .u64 b, .int .i64 n] W fun e W' => e = .returned (.int .i64 ((n - 1 : Nat) : Int)) ∧ W = W' := by
  have t1 : ¬ (n : Int) < 1 := by omega
  have HM := Lib.hid (show (n : Int) - 1 = ((n - 1 : Nat) : Int) by omega)
  rw [← HM.out]
  have t2 : (1 : Int) ≤ n := by omega
  have t3 : (n : Int) < 9007199254740992 := by omega
  clear hn hn2
  go_enter Try.func15, Try.ntmps15
  go_wp2_with (first | (go_at_call 7; refine (cc _).mono ?_; rintro e w' ⟨rfl, rfl⟩) | (go_at_call 22; refine (cp _).mono ?_; rintro e w' ⟨rfl, rfl⟩))
  go_ret
  exact ⟨rfl, rfl⟩

theorem int_div_pow (m q : Nat) : (m : Int) / 2 ^ q = ((m / 2 ^ q : Nat) : Int) := by
  rw [Int.natCast_ediv, Int.natCast_pow]
  rfl

set_option maxRecDepth 100000 in
theorem refPick_whole (b m : Nat) (p : Int) (n : Nat) (hn : 0 < n) (hn2 : n < 9007199254740992) (W : World)
    (cc : ∀ W, Calls Try.prog 7 #[.int .u64 b] W fun e W' => e = .returned (.int .i64 5) ∧ W = W')
    (cp : ∀ W, Calls Try.prog 22 #[.int .u64 b] W fun e W' => e = .returned (.tuple #[.int .u64 (m : Nat), .int .i64 p, .bool true]) ∧ W = W')
    (hm : 0 < m) (hp : p < 2000) (hm2 : m < 9007199254740992)
    (h : 0 ≤ p ∨ ∃ q : Nat, p = - (q : Int) ∧ 0 < q ∧ q < 64 ∧ 0 < m / 2 ^ q) :
    Calls Try.prog 15 #[.int .u64 b, .int .i64 n] W fun e W' => e = .returned (.int .i64 ((n - 1 : Nat) : Int)) ∧ W = W' := by
  have t1 : ¬ (n : Int) < 1 := by omega
  have HM := Lib.hid (show (n : Int) - 1 = ((n - 1 : Nat) : Int) by omega)
  rw [← HM.out]
  have t2 : (1 : Int) ≤ n := by omega
  have t3 : (n : Int) < 9007199254740992 := by omega
  have t4 : ((m : Int) == 0) = false := by simp; omega
  clear hn hn2 hm
  rcases h with h | ⟨q, rfl, h0, h1, h2⟩
  · go_enter Try.func15, Try.ntmps15
    go_wp2_with (first | (go_at_call 7; refine (cc _).mono ?_; rintro e w' ⟨rfl, rfl⟩) | (go_at_call 22; refine (cp _).mono ?_; rintro e w' ⟨rfl, rfl⟩))
    go_ret
    exact ⟨rfl, rfl⟩
  · obtain ⟨p, hp'⟩ : ∃ p : Int, p = -(q : Int) := ⟨_, rfl⟩
    rw [← hp'] at cp hp
    have u1 : p < 0 := by omega
    have u2 : (-64 : Int) < p := by omega
    have u3 : decide (0 ≤ p) = false := by simp; omega
    obtain ⟨M, hM⟩ : ∃ M, M = m / 2 ^ q := ⟨_, rfl⟩
    have u4 : (m : Int) / 2 ^ (-p).toNat = (M : Int) := by
      rw [show (-p).toNat = q by omega, hM]
      exact int_div_pow m q
    have u5 : 0 < M := by rw [hM]; omega
    clear hp' h2 h0 h1 hM
    go_enter Try.func15, Try.ntmps15
    go_wp2_with (first | (go_at_call 7; refine (cc _).mono ?_; rintro e w' ⟨rfl, rfl⟩) | (go_at_call 22; refine (cp _).mono ?_; rintro e w' ⟨rfl, rfl⟩))
    go_ret
    exact ⟨rfl, rfl⟩

/-- The first loop's state. -/
def KInv (m q : Nat) (kv iv : Value) : Prop := ∃ i : Nat, 1 ≤ i ∧ i ≤ 54 ∧ iv = .int .i64 i ∧ kv = .int .u64 ((kk m q (i - 1) : Nat) : Int)
/-- The second loop's state. -/
def LInv (k n : Nat) (ov tv iv : Value) : Prop := ∃ (c o t : Nat) (i : Int), c ≤ 53 ∧ i = (c : Int) - 1 ∧ iv = .int .i64 i ∧ ov = .int .u64 (o : Int) ∧ tv = .int .u64 (t : Int) ∧ t < 9007199254740992 ∧ o * 9007199254740992 + t = k * (n / 2 ^ c)

set_option maxHeartbeats 2000000 in
theorem refPick_frac (b m q k : Nat) (n : Nat) (hn : 0 < n) (hn2 : n < 9007199254740992) (W : World)
    (cc : ∀ W, Calls Try.prog 7 #[.int .u64 b] W fun e W' => e = .returned (.int .i64 5) ∧ W = W')
    (p : Int) (hp : p = -(q : Int))
    (cp : ∀ W, Calls Try.prog 22 #[.int .u64 b] W fun e W' => e = .returned (.tuple #[.int .u64 (m : Nat), .int .i64 p, .bool true]) ∧ W = W')
    (hm : 0 < m) (hm2 : m < 9007199254740992) (hq : 0 < q) (hq2 : q ≤ 1074) (hlt : m < 2 ^ q) (hk : kk m q 53 = k) (hk2 : k < 9007199254740992) :
    Calls Try.prog 15 #[.int .u64 b, .int .i64 n] W fun e W' => e = .returned (.int .i64 ((k * n / 9007199254740992 : Nat) : Int)) ∧ W = W' := by
  obtain ⟨V, hV⟩ : ∃ V, V = k * n / 9007199254740992 := ⟨_, rfl⟩
  rw [← hV]
  have HV := Lib.hid hV
  clear hV
  have t1 : ¬ (n : Int) < 1 := by omega
  have t2 : (1 : Int) ≤ n := by omega
  have t3 : (n : Int) < 9007199254740992 := by omega
  have t4 : ((m : Int) == 0) = false := by simp; omega
  have u1 : p < 0 := by omega
  have u2 : (-1100 : Int) < p := by omega
  have u3 : decide (0 ≤ p) = false := by simp; omega
  have HQ := Lib.hid (And.intro hp (And.intro hq (And.intro hq2 (And.intro hlt hk))))
  have H0 := Lib.hid (show kk m q (1 - 1) = 0 from kk_zero m q hlt)
  have u6 : decide (-64 < p) = false ∨ (-64 < p ∧ (m : Int) / 2 ^ (-p).toNat = 0) := by
    by_cases h : q < 64
    · refine .inr ⟨by omega, ?_⟩
      rw [show (-p).toNat = q by omega, int_div_pow, Nat.div_eq_of_lt hlt]
      rfl
    · exact .inl (by simp; omega)
  clear hp hq hq2 hlt hk hm
  rcases u6 with u6 | ⟨u6, u7⟩
  all_goals
    go_enter Try.func15, Try.ntmps15
    go_wp2_with (first | (go_at_call 7; refine (cc _).mono ?_; rintro e w' ⟨rfl, rfl⟩) | (go_at_call 22; refine (cp _).mono ?_; rintro e w' ⟨rfl, rfl⟩))
    go_loop [8, 9] (fun kv iv => KInv m q kv iv) (fun _ iv => 54 - (intOf iv).toNat)
    case atStart => exact ⟨1, by omega, by omega, rfl, by rw [H0.out]; rfl⟩
    case round =>
      obtain ⟨i, hi1, hi2, rfl, rfl⟩ := hrel
      obtain ⟨h1, h2, h3, h4, h5⟩ := HQ.out
      have HN := Lib.hid (And.intro hn (And.intro hn2 t3))
      clear hn hn2 t3
      have hkb := kk_le m q (i - 1) h4
      have hkb2 : 2 ^ (i - 1) ≤ 2 ^ 53 := Nat.pow_le_pow_right (by decide) (by omega)
      obtain ⟨y, hy⟩ : ∃ y, y = kk m q (i - 1) := ⟨_, rfl⟩
      rw [← hy] at hkb ⊢
      have hy2 : y ≤ 9007199254740992 := by omega
      clear hkb hkb2
      by_cases h53 : i ≤ 53
      · by_cases hA : i ≤ q ∧ q < 64 + i
        · obtain ⟨d, hd⟩ : ∃ d, d = q - i := ⟨_, rfl⟩
          have a1 : -p - (i : Int) = (d : Int) := by omega
          have a2 : d < 64 := by omega
          obtain ⟨z, hz⟩ : ∃ z, z = m / 2 ^ d := ⟨_, rfl⟩
          have a3 : (m : Int) / 2 ^ d = (z : Int) := by rw [hz]; exact int_div_pow m d
          have hs : kk m q i = 2 * y + z % 2 := by
            have := kk_in m q (i - 1) (by omega)
            rw [show i - 1 + 1 = i by omega] at this
            rw [this, hy, hz, hd]
          have HS := Lib.hid hs
          clear hs hy hd hz h1 h4 h5 hA HQ H0
          by_cases hodd : z % 2 = 1
          · have a4 : (z : Int) % 2 = 1 := by omega
            have HO := Lib.hid hodd
            clear hodd
            go_wp2
            go_round
            case rel => exact ⟨i + 1, by omega, by omega, by go_num, by rw [show i + 1 - 1 = i by omega, HS.out, HO.out]; go_num⟩
            case measure => simp [intOf]; omega
          · have h0 : z % 2 = 0 := by omega
            have a4 : (z : Int) % 2 = 0 := by omega
            have HO := Lib.hid h0
            clear hodd h0
            go_wp2
            go_round
            case rel => exact ⟨i + 1, by omega, by omega, by go_num, by rw [show i + 1 - 1 = i by omega, HS.out, HO.out]; go_num⟩
            case measure => simp [intOf]; omega
        · have hs : kk m q i = 2 * y := by
            by_cases hB : i ≤ q
            · have := kk_far m q (i - 1) hm2 (by omega)
              rw [show i - 1 + 1 = i by omega] at this
              rw [this, hy]
            · have := kk_out m q (i - 1) (by omega)
              rw [show i - 1 + 1 = i by omega] at this
              rw [this, hy]
          have HS := Lib.hid hs
          obtain ⟨x, hx⟩ : ∃ x : Int, -p - (i : Int) = x := ⟨_, rfl⟩
          have hb : x < 0 ∨ 64 ≤ x := by omega
          have hx1 : -100 < x := by omega
          have hx2 : x < 1100 := by omega
          clear hs hy h1 h4 h5 hA HQ H0
          rcases hb with hb | hb
          all_goals
            first
            | (exfalso; clear cc cp; omega)
            | (go_wp2
               go_round
               case rel => exact ⟨i + 1, by omega, by omega, by go_num, by rw [show i + 1 - 1 = i by omega, HS.out]; go_num⟩
               case measure => simp [intOf]; omega)
      · obtain rfl : i = 54 := by omega
        have e54 : y = k := by rw [hy]; exact h5
        subst e54
        have HY := Lib.hid (And.intro hk2 h5)
        clear hy h1 h2 h3 h4 h5 HQ H0 hy2 hi1 hi2 h53
        go_wp2_with fail
        go_loop [11, 12, 13] (fun ov tv iv => LInv y n ov tv iv) (fun _ _ iv => (intOf iv + 1).toNat)
        case atStart =>
          obtain ⟨g1, g2, g3⟩ := HN.out
          exact ⟨53, 0, 0, 52, by omega, by omega, rfl, rfl, rfl, by omega, by rw [Nat.div_eq_of_lt (show n < 2 ^ 53 from g2), Nat.mul_zero]⟩
        case round =>
          obtain ⟨c, o, t, i, hc, hi, rfl, rfl, rfl, ht, hot⟩ := hrel
          have ho := long_out y n c o t hk2 hot
          obtain ⟨g1, g2, g3⟩ := HN.out
          by_cases hc0 : c = 0
          · subst hc0
            have hres := long_end y n o t ht hot
            rw [← HV.out] at hres
            subst hres
            have hii : i = -1 := by omega
            subst hii
            have ho2 : o < 9007199254740992 := by omega
            clear hot hi ho ht g1 g2 g3 hk2
            go_wp2
            go_ret
            exact ⟨rfl, rfl⟩
          · obtain ⟨d, rfl⟩ : ∃ d, c = d + 1 := ⟨c - 1, by omega⟩
            have hid' : i = (d : Int) := by omega
            subst hid'
            have hst := long_step y n d o t hk2 ht hot
            obtain ⟨z, hz⟩ : ∃ z, z = n / 2 ^ d := ⟨_, rfl⟩
            have a3 : (n : Int) / 2 ^ d = (z : Int) := by rw [hz]; exact int_div_pow n d
            rw [← hz] at hst
            have a2 : d < 64 := by omega
            have ho2 : o < 9007199254740992 := by omega
            have hy3 : y < 9007199254740992 := hk2
            have HI := Lib.hid (And.intro hc hz)
            clear hc hz hot hi ho hc0 hk2
            by_cases hodd : z % 2 = 1
            · have a4 : (z : Int) % 2 = 1 := by omega
              rw [hodd, Nat.one_mul] at hst
              have HST := Lib.hid hst
              clear hst hodd
              go_wp2
              go_round
              case rel =>
                obtain ⟨i1, i2⟩ := HI.out
                have hr := HST.out
                rw [i2] at hr
                clear HST i2
                refine ⟨d, 2 * o + (2 * t + y) / 9007199254740992, (2 * t + y) % 9007199254740992, (d : Int) - 1, by omega, rfl, rfl, ?_, ?_, Nat.mod_lt _ (by decide), hr⟩
                · go_num
                · go_num
              case measure => simp [intOf]
            · have h0 : z % 2 = 0 := by omega
              have a4 : (z : Int) % 2 = 0 := by omega
              rw [h0, Nat.zero_mul, Nat.add_zero] at hst
              have HST := Lib.hid hst
              clear hst hodd h0
              go_wp2
              go_round
              case rel =>
                obtain ⟨i1, i2⟩ := HI.out
                have hr := HST.out
                rw [i2] at hr
                clear HST i2
                refine ⟨d, 2 * o + (2 * t) / 9007199254740992, (2 * t) % 9007199254740992, (d : Int) - 1, by omega, rfl, rfl, ?_, ?_, Nat.mod_lt _ (by decide), hr⟩
                · go_num
                · go_num
              case measure => simp [intOf]

theorem tz_sum (b : Nat) (h0 : 0 < b) (hb : b < 9218868437227405312) : ex b + tz b < 2100 := by
  have := (od_spec b h0).2.2
  unfold ex
  omega

theorem od_lt (b : Nat) : od b < 9007199254740992 := Nat.lt_of_le_of_lt (Nat.div_le_self _ _) (mg_lt b)

/-- The reference's place. -/
theorem refPick_any (b : Nat) (hb : b < 18446744073709551616) (n : Nat) (hn : 0 < n) (hn2 : n < 9007199254740992) (W : World) :
    Calls Try.prog 15 #[.int .u64 b, .int .i64 n] W fun e W' => e = .returned (.int .i64 (pickV b n : Nat)) ∧ W = W' := by
  obtain ⟨s0, s1, s2, s3, s4, s5, s6⟩ := cls_says b hb
  have cc := fun W => refClass_any b hb W
  by_cases h5 : cls b = 5
  · obtain ⟨hp0, hpi⟩ := s5 h5
    have cp := fun W => refParts_yes b hp0 hpi h5 W
    have hs := tz_sum b hp0 hpi
    obtain ⟨m1, m2, m3⟩ := od_spec b hp0
    rw [h5] at cc
    by_cases h1 : 4607182418800017408 ≤ b
    · have e : pickV b n = n - 1 := by unfold pickV; rw [if_pos (.inl h5), if_pos h1]
      rw [e]
      refine refPick_whole b (od b) _ n hn hn2 W cc cp (by omega) (by omega) (od_lt b) ?_
      by_cases hp : 1074 ≤ ex b + tz b
      · exact .inl (by omega)
      · obtain ⟨g1, g2⟩ := one_up b h1 (by omega)
        exact .inr ⟨1074 - (ex b + tz b), by omega, by omega, g1, g2⟩
    · have e : pickV b n = frac b * n / 9007199254740992 := by unfold pickV; rw [if_pos (.inl h5), if_neg h1]
      rw [e]
      obtain ⟨g1, g2⟩ := one_down b hp0 (by omega)
      exact refPick_frac b (od b) (1074 - (ex b + tz b)) (frac b) n hn hn2 W cc _ (by omega) cp (by omega) (od_lt b) (by omega) (by omega) g2 (kk_end b hp0 (by omega)) (frac_lt b (by omega))
  · by_cases h6 : cls b = 6
    · have e : pickV b n = n - 1 := by unfold pickV; rw [if_pos (.inr h6), if_pos (by have := s6 h6; omega)]
      rw [e]
      have cp := fun W => refParts_no b (cls b) W false cc (.inr ⟨by omega, rfl⟩)
      rw [h6] at cc
      exact refPick_inf b n hn hn2 W cc cp
    · have e : pickV b n = 0 := by unfold pickV; rw [if_neg (by omega)]
      rw [e]
      by_cases h34 : cls b = 3 ∨ cls b = 4
      · exact refPick_no b (cls b) n true hn hn2 W cc (fun W => refParts_no b (cls b) W true cc (.inl ⟨h34, rfl⟩)) h6
      · exact refPick_no b (cls b) n false hn hn2 W cc (fun W => refParts_no b (cls b) W false cc (.inr ⟨by rcases cls_le b with h | h | h | h | h | h | h <;> omega, rfl⟩)) h6

end Go.Proofs.Ytcjlokjjjmmomaa
