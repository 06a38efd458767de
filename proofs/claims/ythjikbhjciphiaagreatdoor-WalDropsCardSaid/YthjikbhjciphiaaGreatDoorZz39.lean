/-
  The library's numbers of base 16, and the program's numbers of names of segments.
-/
import Derived.Test.YthjikbhjciphiaaGreatDoorZz36
import Derived.Lib.ConvBytes
namespace Go.Proofs.YthjikbhjciphiaaGreatDoor
open Go.RowKit
set_option linter.unusedVariables false
set_option linter.unusedSimpArgs false

/-- What a sign is worth. -/
def digV (x : Nat) : Option Nat := if 48 ≤ x ∧ x ≤ 57 then some (x - 48) else if 97 ≤ (x ||| 32) ∧ (x ||| 32) ≤ 102 then some ((x ||| 32) - 87) else none
theorem digV_hd : ∀ d : Fin 16, digV (hd16 d.val).toNat = some d.val := by decide +kernel
theorem or_32 : ∀ x : Fin 256, bits .or .u8 (x.val : Int) 32 = ((x.val ||| 32 : Nat) : Int) := by decide +kernel
theorem hexL_at (k : Nat) : ∀ j n, j < k → (hexL k n)[j]? = some (hd16 (n / 16 ^ (k - 1 - j) % 16)) := by
  induction k with
  | zero => intro j n h; omega
  | succ k ih =>
    intro j n h
    cases j with
    | zero => rfl
    | succ j =>
      show (hexL k n)[j]? = _
      rw [ih j n (by omega), show k + 1 - 1 - (j + 1) = k - 1 - j by omega]

/-- What the library tells of a text's number. -/
def Parsed (T : List UInt8) (e : Ending) : Prop :=
  (∃ n : Nat, n < 18446744073709551616 ∧ e = .returned (.tuple #[.int .u64 n, .nilIface]) ∧ ∀ m, m < 18446744073709551616 → T = hexL 16 m → n = m) ∨
  (∃ (v : Int) (q : Int), (q = 1 ∨ q = 2) ∧ e = .returned (.tuple #[.int .u64 v, .iface 186 (.int .i64 q)]) ∧ ∀ m, m < 18446744073709551616 → T ≠ hexL 16 m)
/-- The first k signs are worth n, if they are a number's. -/
def SoFar (T : List UInt8) (k n : Nat) : Prop := ∀ m, m < 18446744073709551616 → T = hexL 16 m → k ≤ 16 ∧ n = m / 16 ^ (16 - k)

theorem soFar_none {T : List UInt8} {k n : Nat} {c : UInt8} (hc : T[k]? = some c) (h : digV c.toNat = none) : ∀ m, m < 18446744073709551616 → T ≠ hexL 16 m := by
  intro m hm e
  have hl := (List.getElem?_eq_some_iff.1 hc).1
  rw [e, hexL_len] at hl
  rw [e, hexL_at 16 k m hl] at hc
  have := digV_hd ⟨m / 16 ^ (16 - 1 - k) % 16, Nat.mod_lt _ (by decide)⟩
  simp only at this
  rw [Option.some.inj hc, h] at this
  cases this
theorem soFar_step {T : List UInt8} {k n d : Nat} {c : UInt8} (hs : SoFar T k n) (hc : T[k]? = some c) (h : digV c.toNat = some d) : SoFar T (k + 1) (16 * n + d) := by
  intro m hm e
  obtain ⟨h1, h2⟩ := hs m hm e
  have hl := (List.getElem?_eq_some_iff.1 hc).1
  rw [e, hexL_len] at hl
  rw [e, hexL_at 16 k m hl] at hc
  have := digV_hd ⟨m / 16 ^ (16 - 1 - k) % 16, Nat.mod_lt _ (by decide)⟩
  simp only at this
  rw [Option.some.inj hc, h] at this
  refine ⟨by omega, ?_⟩
  have hd := Option.some.inj this
  rw [h2, hd, show 16 - k = (16 - (k + 1)) + 1 by omega, Nat.pow_succ, ← Nat.div_div_eq_div_mul, show 16 - 1 - k = 16 - (k + 1) by omega]
  omega
theorem soFar_big {T : List UInt8} {k n : Nat} (hs : SoFar T k n) (hk : k < T.length) (h : 1152921504606846976 ≤ n) : ∀ m, m < 18446744073709551616 → T ≠ hexL 16 m := by
  intro m hm e
  obtain ⟨h1, h2⟩ := hs m hm e
  rw [e, hexL_len] at hk
  have h3 : m / 16 ^ (16 - k) < 16 ^ k := by
    rw [Nat.div_lt_iff_lt_mul (Nat.pow_pos (by decide)), ← Nat.pow_add, show k + (16 - k) = 16 by omega]
    exact hm
  have h4 : 16 ^ k ≤ 16 ^ 15 := Nat.pow_le_pow_right (by decide) (by omega)
  rw [show (16 : Nat) ^ 15 = 1152921504606846976 by decide] at h4
  omega
theorem soFar_all {T : List UInt8} {k n : Nat} (hs : SoFar T k n) (hk : ¬ k < T.length) : ∀ m, m < 18446744073709551616 → T = hexL 16 m → n = m := by
  intro m hm e
  obtain ⟨h1, h2⟩ := hs m hm e
  have hl : T.length = 16 := by rw [e, hexL_len]
  have : k = 16 := by omega
  subst this
  simpa using h2

set_option maxRecDepth 100000 in
set_option maxHeartbeats 8000000 in
theorem parse16_any (t : ByteArray) (ht : t.size ≤ 281474976710656) (W : World) :
    Calls Tryz.prog 99 #[.string t, .int .i64 16, .int .i64 64] W fun e W' => Parsed t.data.toList e ∧ Below W.heap.size W W' := by
  have hcv : ∀ w, (convert 9 70 (.string t)).run Tryz.prog w = .ok (.slice (some ⟨w.heap.size, 0, none⟩) t.size (grownCap w t.size 0 5)) (Lib.bytesWorld w 5 t) :=
    fun w => Lib.run_convert_string_bytes w _ _ _ _ Tryz.underlying9 Tryz.underlying70 Tryz.underlying5
  have hlow := fun c w => Tryz.internal_strconv_lower c w
  by_cases h0 : t.size = 0
  · have hte : (t.toList == []) = true := by
      rw [ByteArray.toList_eq]
      have : t.data.toList = [] := List.eq_nil_of_length_eq_zero (by simpa using h0)
      rw [this]; rfl
    have H := Lib.hid (show ∀ m, m < 18446744073709551616 → t.data.toList ≠ hexL 16 m by
      intro m hm e
      have h1 := congrArg List.length e
      rw [hexL_len] at h1
      have h2 : t.data.toList.length = t.size := by simp
      omega)
    clear h0
    go_enter Tryz.func99, Tryz.ntmps99
    go_wp2_with fail
    go_ret2
    exact ⟨.inr ⟨0, 2, .inr rfl, rfl, H.out⟩, Below.refl _ _⟩
  · have hte : (t.toList == []) = false := by
      rw [ByteArray.toList_eq, beq_eq_false_iff_ne]
      intro h
      have h2 : t.data.toList.length = t.size := by simp
      rw [h] at h2
      exact h0 h2.symm
    have hlen : t.data.toList.length = t.size := by simp
    have hbelow : ∀ w, Below w.heap.size w (Lib.bytesWorld w 5 t) := fun w =>
      ⟨rfl, rfl, rfl, by rw [Lib.bytesWorld_size]; omega, fun k hk => Lib.bytesWorld_at_old w _ t k hk⟩
    have hcell := fun w j hj => Lib.bytesWorld_cell w 5 t j hj
    obtain ⟨T, hT⟩ : ∃ T, t.data.toList = T := ⟨_, rfl⟩
    rw [hT] at hlen hcell ⊢
    have HLEN := Lib.hid hlen
    have HBW := Lib.hid hbelow
    have HCL := Lib.hid hcell
    clear hT h0 hlen hbelow hcell
    have hmx : IntKind.u64.wrap (IntKind.u64.wrap 18446744073709551616 - 1) = 18446744073709551615 := by decide
    go_enter Tryz.func99, Tryz.ntmps99
    go_wp2_with fail
    have hbw := HBW.out W
    have hcl := HCL.out W
    clear HBW HCL hcv hte
    generalize Lib.bytesWorld W 5 t = w1 at hbw hcl ⊢
    generalize grownCap W t.size 0 5 = cap
    obtain ⟨g, hg⟩ : ∃ g, W.heap.size = g := ⟨_, rfl⟩
    rw [hg] at hcl ⊢
    have HB := Lib.hid hbw
    have HT := Lib.hid ht
    clear hbw hg ht
    obtain ⟨N, hN⟩ : ∃ N, t.size = N := ⟨_, rfl⟩
    rw [hN] at hcl HLEN HT ⊢
    clear hN
    have HC := Lib.hid hcl
    clear hcl
    go_loopw [12, 13, 101] (fun us nv i wr => ∃ (k n : Nat), k ≤ N ∧ us = .bool false ∧ nv = .int .u64 n ∧ i = .int .i64 k ∧ n < 18446744073709551616 ∧ SoFar T k n ∧ wr = w1) (fun _ _ i _ => N - (intOf i).toNat)
    case atStart => exact ⟨0, 0, Nat.zero_le _, rfl, rfl, rfl, by decide, fun m hm _ => ⟨Nat.zero_le _, by rw [Nat.sub_zero]; exact (Nat.div_eq_of_lt hm).symm⟩, rfl⟩
    case round =>
      obtain ⟨k, n, hk, rfl, rfl, rfl, hn, hs, rfl⟩ := hrel
      by_cases hlt : k < N
      · obtain ⟨c, hc⟩ : ∃ c, T[k]? = some c := ⟨_, List.getElem?_eq_getElem (by rw [HLEN.out]; exact hlt)⟩
        have hx := HC.out k hlt
        rw [List.getD_eq_getElem?_getD, hc, Option.getD_some] at hx
        have hkl : (k : Int) < (N : Int) := by omega
        have HS := Lib.hid (And.intro hs hc)
        have HL := Lib.hid (show k < T.length by rw [HLEN.out]; exact hlt)
        have HK := Lib.hid hlt
        have hkb : k < 281474976710656 := by have := HT.out; omega
        have hxl := c.toNat_lt
        have hor := or_32 ⟨c.toNat, hxl⟩
        obtain ⟨x, hxx⟩ : ∃ x, c.toNat = x := ⟨_, rfl⟩
        simp only [hxx] at hx hor hxl
        have HX := Lib.hid hxx
        obtain ⟨y, hy⟩ : ∃ y, x ||| 32 = y := ⟨_, rfl⟩
        rw [hy] at hor
        have HY := Lib.hid hy
        have hyl : y < 256 := by rw [← hy]; exact Nat.or_lt_two_pow (n := 8) hxl (by decide)
        have h95 : ((x : Int) == 95) = true ∨ ((x : Int) == 95) = false := by cases ((x : Int) == 95) <;> simp
        have hlw : ∀ w, Calls Tryz.prog 145 #[.int .u8 (x : Int)] w fun e w' => e = .returned (.int .u8 (y : Int)) ∧ w' = w := by
          intro w; have := hlow (x : Int) w; rw [hor] at this; exact this
        have hm16 : n < 1152921504606846976 → IntKind.u64.wrap ((n : Int) * 16) = ((16 * n : Nat) : Int) := by intro h; rw [IntKind.wrap_u64]; omega
        clear hs hc hlt hk hxx hy hlow hor
        by_cases ha : 48 ≤ x ∧ x ≤ 57
        · obtain ⟨d, hd⟩ : ∃ d, x - 48 = d := ⟨_, rfl⟩
          have hdl : d < 16 := by omega
          have HD := Lib.hid (show digV c.toNat = some d by unfold digV; rw [HX.out, if_pos ha, hd])
          have e1 : IntKind.u8.wrap ((x : Int) - 48) = (d : Int) := by rw [IntKind.wrap_u8]; omega
          have e2 : ¬ (16 : Int) ≤ (d : Int) := by omega
          have t1 : (48 : Int) ≤ (x : Int) := by omega
          have t2 : (x : Int) ≤ 57 := by omega
          clear ha hd hdl
          by_cases hb : 1152921504606846976 ≤ n
          · have t3 : (1152921504606846976 : Int) ≤ (n : Int) := by omega
            have H := Lib.hid hb
            clear hb hm16
            rcases h95 with h95 | h95
            all_goals
              go_wp2_with fail
              go_ret2
              exact ⟨.inr ⟨_, 1, .inl rfl, rfl, soFar_big HS.out.1 HL.out H.out⟩, HB.out⟩
          · have t3 : ¬ (1152921504606846976 : Int) ≤ (n : Int) := by omega
            have e3 := hm16 (by omega)
            obtain ⟨n2, hn2⟩ : ∃ n2, 16 * n + d = n2 := ⟨_, rfl⟩
            obtain ⟨n1, hn1⟩ : ∃ n1, 16 * n = n1 := ⟨_, rfl⟩
            rw [hn1] at e3
            have e4 : IntKind.u64.wrap (d : Int) = (d : Int) := by rw [IntKind.wrap_u64]; omega
            have e5 : IntKind.u64.wrap ((n1 : Int) + (d : Int)) = (n2 : Int) := by rw [IntKind.wrap_u64]; omega
            have t4 : ¬ (n2 : Int) < (n1 : Int) := by omega
            have t5 : ¬ (18446744073709551615 : Int) < (n2 : Int) := by omega
            have H := Lib.hid (show n2 < 18446744073709551616 ∧ SoFar T (k + 1) n2 by
              refine ⟨by omega, ?_⟩
              rw [← hn2]
              exact soFar_step HS.out.1 HS.out.2 HD.out)
            clear hb hm16 hn1 hn2 hn
            rcases h95 with h95 | h95
            all_goals
              go_wp2_with fail
              go_roundw
              case rel => exact ⟨k + 1, n2, by have := HK.out; omega, rfl, rfl, by go_num, H.out.1, H.out.2, trivial⟩
              case measure => have := HK.out; simp [intOf]; omega
        · have hna : (¬ (48 : Int) ≤ (x : Int)) ∨ ((48 : Int) ≤ (x : Int) ∧ ¬ (x : Int) ≤ 57) := by omega
          by_cases hb : 97 ≤ y ∧ y ≤ 102
          · obtain ⟨d, hd⟩ : ∃ d, y - 87 = d := ⟨_, rfl⟩
            have hdl : d < 16 := by omega
            have HD := Lib.hid (show digV c.toNat = some d by unfold digV; rw [HX.out, if_neg ha, HY.out, if_pos hb, hd])
            obtain ⟨z, hz⟩ : ∃ z, y - 97 = z := ⟨_, rfl⟩
            have e0 : IntKind.u8.wrap ((y : Int) - 97) = (z : Int) := by rw [IntKind.wrap_u8]; omega
            have e1 : IntKind.u8.wrap ((z : Int) + 10) = (d : Int) := by rw [IntKind.wrap_u8]; omega
            have e2 : ¬ (16 : Int) ≤ (d : Int) := by omega
            have t1 : (97 : Int) ≤ (y : Int) := by omega
            have t2 : (y : Int) ≤ 122 := by omega
            have e4 : IntKind.u64.wrap (d : Int) = (d : Int) := by rw [IntKind.wrap_u64]; omega
            have hdz : d < 16 ∧ d = z + 10 := by omega
            have HDZ := Lib.hid hdz
            clear ha hd hb hdl hdz hz
            by_cases hb : 1152921504606846976 ≤ n
            · have t3 : (1152921504606846976 : Int) ≤ (n : Int) := by omega
              have H := Lib.hid hb
              clear hb hm16
              rcases h95 with h95 | h95 <;> rcases hna with t4 | ⟨t4, t5⟩
              all_goals
                go_wp2_with (go_at_call 145; refine (hlw _).mono ?_; rintro e w2 ⟨rfl, rfl⟩)
                go_ret2
                exact ⟨.inr ⟨_, 1, .inl rfl, rfl, soFar_big HS.out.1 HL.out H.out⟩, HB.out⟩
            · have t3 : ¬ (1152921504606846976 : Int) ≤ (n : Int) := by omega
              have e3 := hm16 (by omega)
              obtain ⟨n2, hn2⟩ : ∃ n2, 16 * n + d = n2 := ⟨_, rfl⟩
              obtain ⟨n1, hn1⟩ : ∃ n1, 16 * n = n1 := ⟨_, rfl⟩
              rw [hn1] at e3
              have hdl := HDZ.out.1
              have e5 : IntKind.u64.wrap ((n1 : Int) + (d : Int)) = (n2 : Int) := by rw [IntKind.wrap_u64]; omega
              have t4 : ¬ (n2 : Int) < (n1 : Int) := by omega
              have t5 : ¬ (18446744073709551615 : Int) < (n2 : Int) := by omega
              have q2 : decide ((16 : Int) ≤ (d : Int)) = false := decide_eq_false e2
              have q3 : decide ((1152921504606846976 : Int) ≤ (n : Int)) = false := decide_eq_false t3
              clear e2 t3
              have H := Lib.hid (show n2 < 18446744073709551616 ∧ SoFar T (k + 1) n2 by
                refine ⟨by omega, ?_⟩
                rw [← hn2]
                exact soFar_step HS.out.1 HS.out.2 HD.out)
              clear hb hm16 hn1 hn2 hn hdl
              rcases h95 with h95 | h95 <;> rcases hna with t6 | ⟨t6, t7⟩
              all_goals
                go_wp2_with (go_at_call 145; refine (hlw _).mono ?_; rintro e w2 ⟨rfl, rfl⟩)
                go_roundw
                case rel => exact ⟨k + 1, n2, by have := HK.out; omega, rfl, rfl, by go_num, H.out.1, H.out.2, trivial⟩
                case measure => have := HK.out; simp [intOf]; omega
          · have H := Lib.hid (soFar_none (n := n) HS.out.2 (show digV c.toNat = none by unfold digV; rw [HX.out, if_neg ha, HY.out, if_neg hb]))
            by_cases hc : 103 ≤ y ∧ y ≤ 122
            · obtain ⟨d, hd⟩ : ∃ d, y - 87 = d := ⟨_, rfl⟩
              obtain ⟨z, hz⟩ : ∃ z, y - 97 = z := ⟨_, rfl⟩
              have e0 : IntKind.u8.wrap ((y : Int) - 97) = (z : Int) := by rw [IntKind.wrap_u8]; omega
              have e1 : IntKind.u8.wrap ((z : Int) + 10) = (d : Int) := by rw [IntKind.wrap_u8]; omega
              have e2 : (16 : Int) ≤ (d : Int) := by omega
              have t1 : (97 : Int) ≤ (y : Int) := by omega
              have t2 : (y : Int) ≤ 122 := by omega
              clear ha hd hb hc hz hm16
              rcases h95 with h95 | h95 <;> rcases hna with t4 | ⟨t4, t5⟩
              all_goals
                go_wp2_with (go_at_call 145; refine (hlw _).mono ?_; rintro e w2 ⟨rfl, rfl⟩)
                go_ret2
                exact ⟨.inr ⟨_, 2, .inr rfl, rfl, H.out⟩, HB.out⟩
            · have hnc : (¬ (97 : Int) ≤ (y : Int)) ∨ ((97 : Int) ≤ (y : Int) ∧ ¬ (y : Int) ≤ 122) := by omega
              clear ha hb hc hm16
              rcases h95 with h95 | h95 <;> rcases hna with t4 | ⟨t4, t5⟩ <;> rcases hnc with t6 | ⟨t6, t7⟩
              all_goals
                go_wp2_with (go_at_call 145; refine (hlw _).mono ?_; rintro e w2 ⟨rfl, rfl⟩)
                go_ret2
                exact ⟨.inr ⟨_, 2, .inr rfl, rfl, H.out⟩, HB.out⟩
      · have hkl : ¬ (k : Int) < (N : Int) := by omega
        have H := Lib.hid (soFar_all hs (by rw [HLEN.out]; exact hlt))
        have HN := Lib.hid hn
        clear hs hlt hk hn hlow
        go_wp2_with fail
        go_ret2
        exact ⟨.inl ⟨n, HN.out, rfl, H.out⟩, HB.out⟩

/-- What the library's public function tells. -/
def ParsedP (T : List UInt8) (e : Ending) : Prop :=
  (∃ n : Nat, n < 18446744073709551616 ∧ e = .returned (.tuple #[.int .u64 n, .nilIface]) ∧ ∀ m, m < 18446744073709551616 → T = hexL 16 m → n = m) ∨
  (∃ (v : Int) (te : TypeId) (pe : Value), e = .returned (.tuple #[.int .u64 v, .iface te pe]) ∧ ∀ m, m < 18446744073709551616 → T ≠ hexL 16 m)

set_option maxRecDepth 100000 in
set_option maxHeartbeats 1000000 in
theorem parseU16_any (t : ByteArray) (ht : t.size ≤ 281474976710656) (W : World) (hS : SV W) :
    Calls Tryz.prog 66 #[.string t, .int .i64 16, .int .i64 64] W fun e W' => ParsedP t.data.toList e ∧ Below W.heap.size W W' := by
  have hP := parse16_any t ht W
  have hlim := ht
  have hsy : ∀ w, SV w → Calls Tryz.prog 100 #[.string ⟨#[80, 97, 114, 115, 101, 85, 105, 110, 116]⟩, .string t, .int .i64 16, .int .i64 64, .iface 186 (.int .i64 2)] w fun e w' => (∃ te pe, e = .returned (.iface te pe)) ∧ Below w.heap.size w w' := by
    intro w hw
    obtain ⟨_, ⟨ev, h1, h2⟩, _⟩ := hw
    exact (Tryz.strconv_toError_syntax ⟨#[80, 97, 114, 115, 101, 85, 105, 110, 116]⟩ t 16 64 ev w hlim h1 h2).mono (by rintro e w' ⟨N, rfl, _, _, hb⟩; exact ⟨⟨_, _, rfl⟩, hb⟩)
  have hra : ∀ w, SV w → Calls Tryz.prog 100 #[.string ⟨#[80, 97, 114, 115, 101, 85, 105, 110, 116]⟩, .string t, .int .i64 16, .int .i64 64, .iface 186 (.int .i64 1)] w fun e w' => (∃ te pe, e = .returned (.iface te pe)) ∧ Below w.heap.size w w' := by
    intro w hw
    obtain ⟨_, _, ev, h1, h2⟩ := hw
    exact (Tryz.strconv_toError_range ⟨#[80, 97, 114, 115, 101, 85, 105, 110, 116]⟩ t 16 64 ev w hlim h1 h2).mono (by rintro e w' ⟨N, rfl, _, _, hb⟩; exact ⟨⟨_, _, rfl⟩, hb⟩)
  go_enter Tryz.func66, Tryz.ntmps66
  go_wp2_with fail
  refine hP.mono ?_
  rintro e w1 ⟨hp, hb⟩
  have s1 := hS.below hb
  have HB := Lib.hid hb
  rcases hp with ⟨n, hn, rfl, hf⟩ | ⟨v, q, hq, rfl, hf⟩
  · have HF := Lib.hid (And.intro hn hf)
    clear hf hn hP hsy hra
    go_wp2_with fail
    go_ret2
    exact ⟨.inl ⟨n, HF.out.1, rfl, HF.out.2⟩, HB.out⟩
  · have HF := Lib.hid hf
    clear hf hP
    rcases hq with rfl | rfl
    · go_wp2_with fail
      refine (hra _ s1).mono ?_
      rintro e w2 ⟨⟨te, pe, rfl⟩, hb2⟩
      have HB2 := Lib.hid (bthen HB.out hb2)
      go_wp2_with fail
      go_ret2
      exact ⟨.inr ⟨_, _, _, rfl, HF.out⟩, HB2.out⟩
    · go_wp2_with fail
      refine (hsy _ s1).mono ?_
      rintro e w2 ⟨⟨te, pe, rfl⟩, hb2⟩
      have HB2 := Lib.hid (bthen HB.out hb2)
      go_wp2_with fail
      go_ret2
      exact ⟨.inr ⟨_, _, _, rfl, HF.out⟩, HB2.out⟩

end Go.Proofs.YthjikbhjciphiaaGreatDoor

/-
  The program's number of a name; the contracts of names.
-/
namespace Go.Proofs.YthjikbhjciphiaaGreatDoor
open Go.RowKit
set_option linter.unusedVariables false
set_option linter.unusedSimpArgs false

theorem segN_no (s : List UInt8) (h : ∀ m, m < 18446744073709551616 → s ≠ nameL m) : segN s = (0, 2) := by
  unfold segN
  cases hq : (numC s).2 with
  | false => rfl
  | true =>
    obtain ⟨h1, h2⟩ := num_is s hq
    exact absurd h2 (h _ h1)
theorem trim_len (s : List UInt8) : (Lib.trimPrefix s [119]).length ≤ s.length := by
  unfold Lib.trimPrefix
  split
  · simp
  · exact Nat.le_refl _
theorem trim_name (m : Nat) : Lib.trimPrefix (nameL m) [119] = hexL 16 m := by
  unfold Lib.trimPrefix nameL
  rw [if_pos (by rfl)]
  rfl

set_option maxRecDepth 100000 in
set_option maxHeartbeats 2000000 in
theorem snumber_any (s : ByteArray) (W : World) (hs : s.size ≤ 281474976710656) (hS : SV W) :
    Calls Tryz.prog 42 #[.string s] W fun e W' => e = .returned (.tuple #[.int .u64 ((segN s.data.toList).1 : Nat), .int .i64 (segN s.data.toList).2]) ∧ Below W.heap.size W W' := by
  have hT := fun w => Tryz.strings_TrimPrefix s ⟨#[119]⟩ w
  rw [show (⟨#[119]⟩ : ByteArray).data.toList = [(119 : UInt8)] from rfl] at hT
  have hl : s.data.toList.length = s.size := by simp
  have htl := trim_len s.data.toList
  have htn : ∀ m, s.data.toList = nameL m → Lib.trimPrefix s.data.toList [119] = hexL 16 m := fun m e => by rw [e]; exact trim_name m
  obtain ⟨t, ht⟩ : ∃ t, Lib.trimPrefix s.data.toList [119] = t := ⟨_, rfl⟩
  rw [ht] at hT htl htn
  have hP := fun w hw => parseU16_any ⟨t.toArray⟩ (by show t.toArray.size ≤ _; rw [List.size_toArray]; exact Nat.le_trans htl (by omega)) w hw
  rw [show (⟨t.toArray⟩ : ByteArray).data.toList = t from rfl] at hP
  have hL := ByteArray.toList_eq s
  obtain ⟨S, hSS⟩ : ∃ S, s.data.toList = S := ⟨_, rfl⟩
  rw [hSS] at hL htn ⊢
  have HN := Lib.hid htn
  clear ht htl hl htn hSS
  go_enter Tryz.func42, Tryz.ntmps42
  go_wp2_with fail
  refine (hT _).mono ?_
  rintro e w1 ⟨rfl, rfl⟩
  go_wp2_with fail
  refine (hP _ hS).mono ?_
  rintro e w2 ⟨hp, hb⟩
  have s2 := hS.below hb
  have HB := Lib.hid hb
  rcases hp with ⟨n, hn, rfl, hf⟩ | ⟨v, te, pe, rfl, hf⟩
  · have hNm := sname_any n w2 hn s2.1
    by_cases hq : nameL n = S
    · have HQ := Lib.hid (show segN S = (n, 0) by rw [← hq]; exact segN_name n hn)
      have heq : (nameL n == s.toList) = true := by rw [hL, hq]; simp
      generalize nameL n = L at hNm heq hq
      clear hf hn hq hL hT hP
      go_wp2_with fail
      refine hNm.mono ?_
      rintro e w3 ⟨rfl, hb3⟩
      go_wp2_with fail
      go_ret2
      exact ⟨by rw [HQ.out]; rfl, bthen HB.out hb3⟩
    · have HQ := Lib.hid (show segN S = (0, 2) from segN_no S fun m hm e => hq (by rw [hf m hm (HN.out m e)]; exact e.symm))
      have heq : (nameL n == s.toList) = false := by rw [hL, beq_eq_false_iff_ne]; exact hq
      generalize nameL n = L at hNm heq hq
      clear hf hn hq hL hT hP
      go_wp2_with fail
      refine hNm.mono ?_
      rintro e w3 ⟨rfl, hb3⟩
      go_wp2_with fail
      go_ret2
      exact ⟨by rw [HQ.out]; rfl, bthen HB.out hb3⟩
  · have HQ := Lib.hid (show segN S = (0, 2) from segN_no S fun m hm e => hf m hm (HN.out m e))
    clear hf hL hT hP
    go_wp2_with fail
    go_ret2
    exact ⟨by rw [HQ.out]; rfl, HB.out⟩

theorem segN_all : SegN SV := ⟨fun h b => h.below b, fun n W hn hS => sname_any n W hn hS.1, fun s W hs hS => snumber_any s W hs hS⟩

end Go.Proofs.YthjikbhjciphiaaGreatDoor
