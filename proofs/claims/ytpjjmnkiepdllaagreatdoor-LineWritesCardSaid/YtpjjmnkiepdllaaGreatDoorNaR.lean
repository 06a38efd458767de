/-
  Package name: the number of digits; the reference's digits and numbers.
-/
import Derived.Test.YtpjjmnkiepdllaaGreatDoorNaQ
import Derived.Test.YtpjjmnkiepdllaaGreatDoorNaJ
namespace Go.Proofs.YtpjjmnkiepdllaaGreatDoor
open Go.RowKit
set_option linter.unusedVariables false
set_option linter.unusedSimpArgs false

theorem enters_digit : ∀ args w, (callFunc 61 args).run Tryz.prog w = .ok (.enter 61 args) w := enters_of Tryz.func61 (by kernel_rfl) rfl

theorem onlyDigit_any (s : ByteArray) (W : World) :
    Calls Tryz.prog 47 #[.string s, .func (.func 61) #[] #[]] W fun e W' => e = .returned (.bool (allR digR s.data.toList)) ∧ Below W.heap.size W W' :=
  only_any 61 digR digR_high enters_digit (fun r w _ => (isDigit_any ((r : Nat) : Int) w).mono fun e w' h => ⟨h.1, by rw [h.2]; exact Below.refl _ _⟩) s W

theorem empty_text (s : ByteArray) (h : ¬ 0 < s.size) : s.data.toList = [] := by
  have hlen : s.data.toList.length = s.size := by simp
  exact List.eq_nil_of_length_eq_zero (by omega)
theorem full_text (s : ByteArray) (h : 0 < s.size) : s.data.toList ≠ [] := by
  have hlen : s.data.toList.length = s.size := by simp
  intro e
  rw [e] at hlen
  simp at hlen
  omega

set_option maxRecDepth 100000 in
set_option maxHeartbeats 1000000 in
theorem isNumber_any (s : ByteArray) (hs : s.size ≤ maxLen) (W : World) :
    Calls Tryz.prog 62 #[.string s] W fun e W' => e = .returned (.bool (isNumB s.data.toList)) ∧ Below W.heap.size W W' := by
  unfold maxLen at hs
  have hL := ByteArray.toList_eq s
  by_cases h48 : s.data.toList = [48]
  · have e48 : (s.toList == [48]) = true := by rw [hL, h48]; rfl
    have HH : Hid (isNumB s.data.toList = true) := Lib.hid (by unfold isNumB; rw [decide_eq_true h48]; rfl)
    clear h48 hL
    go_enter Tryz.func62, Tryz.ntmps62
    go_wp2_with fail
    go_ret
    exact ⟨by rw [HH.out]; rfl, Below.refl _ _⟩
  · have e48 : (s.toList == [48]) = false := by rw [hL]; simpa using h48
    have hlen : s.data.toList.length = s.size := by simp
    have HH : Hid (isNumB s.data.toList = (decide (1 ≤ s.size) && (decide (s.data.toList.getD 0 0 ≠ 48) && allR digR s.data.toList))) := Lib.hid (by unfold isNumB; rw [decide_eq_false h48, hlen]; rfl)
    by_cases h0 : 0 < s.size
    · have e0 : (s.toList == []) = false := by rw [hL]; simpa using full_text s h0
      have hby := byte_at s 0 h0
      obtain ⟨x, hx⟩ : ∃ x, s[0]'h0 = x := ⟨_, rfl⟩
      rw [hx] at hby
      have hg : s.data.toList.getD 0 0 = x := by simp [List.getD, hby]
      by_cases hx48 : x = 48
      · have d1 : (((x.toNat : Nat) : Int) != 48) = false := by rw [hx48]; rfl
        have H2 : Hid (isNumB s.data.toList = false) := Lib.hid (by rw [HH.out, hg, decide_eq_false (show ¬ x ≠ 48 by simpa using hx48)]; simp)
        clear HH hL h48 hlen hby hg hx48
        go_enter Tryz.func62, Tryz.ntmps62
        go_wp2_with fail
        go_ret
        exact ⟨by rw [H2.out]; rfl, Below.refl _ _⟩
      · have d1 : (((x.toNat : Nat) : Int) != 48) = true := by
          have : x.toNat ≠ 48 := fun e => hx48 (UInt8.toNat_inj.1 e)
          simp
          omega
        have H2 : Hid (isNumB s.data.toList = allR digR s.data.toList) := Lib.hid (by rw [HH.out, hg, decide_eq_true (show x ≠ 48 from hx48), decide_eq_true (show 1 ≤ s.size from h0)]; simp)
        clear HH hL h48 hlen hby hg hx48
        go_enter Tryz.func62, Tryz.ntmps62
        go_wp2_with fail
        refine (onlyDigit_any s _).mono ?_
        rintro e W1 ⟨rfl, hb1⟩
        generalize allR digR s.data.toList = q at H2 ⊢
        go_wp2_with fail
        go_ret
        exact ⟨by rw [H2.out]; rfl, hb1⟩
    · have e0 : (s.toList == []) = true := by rw [hL, empty_text s h0]; rfl
      have H2 : Hid (isNumB s.data.toList = false) := Lib.hid (by rw [HH.out, decide_eq_false (show ¬ 1 ≤ s.size from h0)]; rfl)
      clear HH hL h48 hlen
      go_enter Tryz.func62, Tryz.ntmps62
      go_wp2_with fail
      go_ret
      exact ⟨by rw [H2.out]; rfl, Below.refl _ _⟩

set_option maxRecDepth 100000 in
set_option maxHeartbeats 1000000 in
theorem number_any (s : ByteArray) (hs : s.size ≤ 10000) (W : World) (hN : NV W) :
    Calls Tryz.prog 51 #[.string s] W fun e W' => e = .returned (.tuple #[.int .u64 ((numV s.data.toList : Nat) : Int), .int .i64 (numE s.data.toList)]) ∧ Below W.heap.size W W' := by
  have hI := fun w => isNumber_any s (by unfold maxLen; omega) w
  cases hi : isNumB s.data.toList
  · rw [hi] at hI
    have h1 : Hid (numV s.data.toList = 0 ∧ numE s.data.toList = 2) := Lib.hid ⟨by unfold numV; rw [hi]; rfl, by unfold numE; rw [hi]; rfl⟩
    clear hi
    go_enter Tryz.func51, Tryz.ntmps51
    go_wp2_with fail
    refine (hI _).mono ?_
    rintro e W1 ⟨rfl, hb1⟩
    go_wp2_with fail
    go_ret2
    exact ⟨by rw [h1.out.1, h1.out.2]; rfl, hb1⟩
  · rw [hi] at hI
    have hp := parse_num _ hi
    by_cases hM : spell 0 s.data.toList ≤ 18446744073709551615
    · rw [if_pos hM] at hp
      have h1 : Hid (numV s.data.toList = spell 0 s.data.toList ∧ numE s.data.toList = 0) := Lib.hid ⟨by unfold numV; rw [hi, if_pos rfl, if_pos hM], by unfold numE; rw [hi, if_pos rfl, if_pos hM]⟩
      have hP := fun w => Tryz.strconv_ParseUint_10_at64_ok s (by omega) (spell 0 s.data.toList) hp w
      generalize spell 0 s.data.toList = q at h1 hP
      clear hi hM hp
      go_enter Tryz.func51, Tryz.ntmps51
      go_wp2_with fail
      refine (hI _).mono ?_
      rintro e W1 ⟨rfl, hb1⟩
      go_wp2_with fail
      refine (hP _).mono ?_
      rintro e W2 ⟨rfl, hw2⟩
      have hb2 : Below W1.heap.size W1 W2 := by
        rcases hw2 with rfl | rfl
        · exact Below.refl _ _
        · exact Lib.bytesWorld_below W1 _ s
      clear hw2 hP hI
      go_wp2_with fail
      go_ret2
      exact ⟨by rw [h1.out.1, h1.out.2]; rfl, bthen hb1 hb2⟩
    · rw [if_neg hM] at hp
      have h1 : Hid (numV s.data.toList = 0 ∧ numE s.data.toList = 6) := Lib.hid ⟨by unfold numV; rw [hi, if_pos rfl, if_neg hM], by unfold numE; rw [hi, if_pos rfl, if_neg hM]⟩
      have hP := fun ev w hv hev => Tryz.strconv_ParseUint_10_at64_range s (by omega) hp ev w hv hev
      clear hi hM hp
      go_enter Tryz.func51, Tryz.ntmps51
      go_wp2_with fail
      refine (hI _).mono ?_
      rintro e W1 ⟨rfl, hb1⟩
      obtain ⟨_, ev, hv, hev⟩ := hN.below hb1
      go_wp2_with fail
      refine (hP ev _ hv hev).mono ?_
      rintro e W2 ⟨N, rfl, _, _, hb2⟩
      clear hP hI hv hev hN
      go_wp2_with fail
      go_ret2
      exact ⟨by rw [h1.out.1, h1.out.2]; rfl, bthen hb1 hb2⟩

def digT : ByteArray := ⟨#[48, 49, 50, 51, 52, 53, 54, 55, 56, 57]⟩
theorem allIn_dig (l : List UInt8) : allIn l digT.data.toList = allR digR l := allIn_of digR _ (by decide +kernel) l
theorem digT_slice {P : Program} (w : World) (t : TypeId) (k k' : IntKind) (d : Nat) (i j : Int) (hi : i = (d : Int)) (hj : j = (d : Int) + 1) (hd : d < 10) (h : P.underlying t = some .string) :
    (Instr.slice t (.string ⟨#[48, 49, 50, 51, 52, 53, 54, 55, 56, 57]⟩) (some (.int k i)) (some (.int k' j)) none).run P w = .ok (.string ⟨[UInt8.ofNat (48 + d)].toArray⟩) w := by
  subst hi; subst hj
  rw [run_slice_string_if w t _ k k' _ _ h, if_pos ⟨by omega, by show _ ≤ ((10 : Nat) : Int); omega⟩, if_pos ⟨by omega, by omega⟩]
  congr 1
  have e : ∀ d : Fin 10, digT.extract d.val (d.val + 1) = ⟨[UInt8.ofNat (48 + d.val)].toArray⟩ := by decide +kernel
  have := e ⟨d, hd⟩
  rw [show ((d : Int)).toNat = d by omega, show ((d : Int) + 1).toNat = d + 1 by omega]
  exact congrArg Value.string this

set_option maxRecDepth 100000 in
set_option maxHeartbeats 2000000 in
theorem refDigits_any (u : Nat) (hu : u < 18446744073709551616) (W : World) :
    Calls Tryz.prog 28 #[.int .u64 u] W fun e W' => e = .returned (.string ⟨(Lib.decDigits u).toArray⟩) ∧ W' = W := by
  have h20 := Lib.nDigits_le20 u hu
  rw [← Lib.decDigits_length] at h20
  have H20 := Lib.hid h20
  have HU := Lib.hid hu
  clear h20 hu
  go_enter Tryz.func28, Tryz.ntmps28
  go_wp2
  go_loop [0, 3] (fun nv v => ∃ n L, nv = .int .u64 ((n : Nat) : Int) ∧ v = .string ⟨L.toArray⟩ ∧ n ≤ u ∧ Hid (Lib.decDigits u = Lib.decDigits n ++ L)) (fun nv _ => (intOf nv).toNat)
  case atStart => exact ⟨u, [], rfl, rfl, Nat.le_refl _, Lib.hid (by simp)⟩
  case round =>
    obtain ⟨n, L, rfl, rfl, hnu, HE⟩ := hrel
    have hn64 : n < 18446744073709551616 := by have := HU.out; omega
    have hLn : (L.length : Int) ≤ 8388608 := by
      have h1 := H20.out
      rw [HE.out, List.length_append] at h1
      omega
    obtain ⟨d, hd⟩ : ∃ d, n % 10 = d := ⟨_, rfl⟩
    obtain ⟨m, hm⟩ : ∃ m, n / 10 = m := ⟨_, rfl⟩
    have hd10 : d < 10 := by omega
    have hq1 : ((n : Nat) : Int) % 10 = (d : Int) := by omega
    have hq2 : ((n : Nat) : Int) / 10 = (m : Int) := by omega
    have hq3 : IntKind.u64.wrap ((d : Int) + 1) = (d : Int) + 1 := by rw [IntKind.wrap_u64]; omega
    have hq4 : IntKind.u64.wrap (d : Int) = (d : Int) := by rw [IntKind.wrap_u64]; omega
    have hq5 : IntKind.u64.wrap (m : Int) = (m : Int) := by rw [IntKind.wrap_u64]; omega
    have hsl := fun w => digT_slice (P := Tryz.prog) w 9 .u64 .u64 d (d : Int) ((d : Int) + 1) rfl rfl hd10 Tryz.underlying9
    obtain ⟨c, hc⟩ : ∃ c, UInt8.ofNat (48 + d) = c := ⟨_, rfl⟩
    rw [hc] at hsl
    have hadd := fun w => add_texts (P := Tryz.prog) [c] L (c :: L) (by simp) (by simp) hLn w
    by_cases h10 : n < 10
    · have hz : ((m : Int) == 0) = true := by simp; omega
      have HF : Hid (Lib.decDigits u = c :: L) := Lib.hid (by
        rw [HE.out, Lib.decDigits, dif_pos h10, ← hc, show d = n by omega]
        rfl)
      clear HE hd hm hc h10
      go_wp2
      go_ret
      exact ⟨by rw [HF.out]; rfl, rfl⟩
    · have hz : ((m : Int) == 0) = false := by simp; omega
      have HF : Hid (Lib.decDigits u = Lib.decDigits m ++ (c :: L)) := Lib.hid (by
        rw [HE.out, Lib.decDigits, dif_neg h10, ← hc, hm, hd, List.append_assoc]
        rfl)
      have hmn : m < n := by omega
      clear HE hd hm hc h10
      go_wp2
      go_round
      case rel => exact ⟨m, c :: L, rfl, rfl, by omega, HF⟩
      case measure => simp [intOf]; omega

end Go.Proofs.YtpjjmnkiepdllaaGreatDoor
