/-
  The program's number of a name; the contracts of names.
-/
import Derived.Test.YtgococpbhbcpmaaDoorSpB
namespace Go.Proofs.YtgococpbhbcpmaaDoor
open Go.RowKit
set_option linter.unusedVariables false
set_option linter.unusedSimpArgs false

theorem segN_no (s : List UInt8) (h : ∀ m, m < 18446744073709551616 → s ≠ nameL m) : segN s = (0, 2) := by
  unfold segN
  cases hq : (numC s).2 with
  | false => rfl
  | true =>
    obtain ⟨h1, h2⟩ := num_is s hq
    exact absurd h2 (h _ h1)
theorem trim_len (s : List UInt8) : (Lib.trimPrefix s [119]).length ≤ s.length := by
  unfold Lib.trimPrefix
  split
  · simp
  · exact Nat.le_refl _
theorem trim_name (m : Nat) : Lib.trimPrefix (nameL m) [119] = hexL 16 m := by
  unfold Lib.trimPrefix nameL
  rw [if_pos (by rfl)]
  rfl

set_option maxRecDepth 100000 in
set_option maxHeartbeats 2000000 in
theorem snumber_any (s : ByteArray) (W : World) (hs : s.size ≤ 281474976710656) (hS : SV W) :
    Calls Tryd.prog 6 #[.string s] W fun e W' => e = .returned (.tuple #[.int .u64 ((segN s.data.toList).1 : Nat), .int .i64 (segN s.data.toList).2]) ∧ Below W.heap.size W W' := by
  have hT := fun w => Tryd.strings_TrimPrefix s ⟨#[119]⟩ w
  rw [show (⟨#[119]⟩ : ByteArray).data.toList = [(119 : UInt8)] from rfl] at hT
  have hl : s.data.toList.length = s.size := by simp
  have htl := trim_len s.data.toList
  have htn : ∀ m, s.data.toList = nameL m → Lib.trimPrefix s.data.toList [119] = hexL 16 m := fun m e => by rw [e]; exact trim_name m
  obtain ⟨t, ht⟩ : ∃ t, Lib.trimPrefix s.data.toList [119] = t := ⟨_, rfl⟩
  rw [ht] at hT htl htn
  have hP := fun w hw => parseU16_any ⟨t.toArray⟩ (by show t.toArray.size ≤ _; rw [List.size_toArray]; exact Nat.le_trans htl (by omega)) w hw
  rw [show (⟨t.toArray⟩ : ByteArray).data.toList = t from rfl] at hP
  have hL := ByteArray.toList_eq s
  obtain ⟨S, hSS⟩ : ∃ S, s.data.toList = S := ⟨_, rfl⟩
  rw [hSS] at hL htn ⊢
  have HN := Lib.hid htn
  clear ht htl hl htn hSS
  go_enter Tryd.func6, Tryd.ntmps6
  go_wp2_with fail
  refine (hT _).mono ?_
  rintro e w1 ⟨rfl, rfl⟩
  go_wp2_with fail
  refine (hP _ hS).mono ?_
  rintro e w2 ⟨hp, hb⟩
  have s2 := hS.below hb
  have HB := Lib.hid hb
  rcases hp with ⟨n, hn, rfl, hf⟩ | ⟨v, te, pe, rfl, hf⟩
  · have hNm := sname_any n w2 hn s2.1
    by_cases hq : nameL n = S
    · have HQ := Lib.hid (show segN S = (n, 0) by rw [← hq]; exact segN_name n hn)
      have heq : (nameL n == s.toList) = true := by rw [hL, hq]; simp
      generalize nameL n = L at hNm heq hq
      clear hf hn hq hL hT hP
      go_wp2_with fail
      refine hNm.mono ?_
      rintro e w3 ⟨rfl, hb3⟩
      go_wp2_with fail
      go_ret2
      exact ⟨by rw [HQ.out]; rfl, bthen HB.out hb3⟩
    · have HQ := Lib.hid (show segN S = (0, 2) from segN_no S fun m hm e => hq (by rw [hf m hm (HN.out m e)]; exact e.symm))
      have heq : (nameL n == s.toList) = false := by rw [hL, beq_eq_false_iff_ne]; exact hq
      generalize nameL n = L at hNm heq hq
      clear hf hn hq hL hT hP
      go_wp2_with fail
      refine hNm.mono ?_
      rintro e w3 ⟨rfl, hb3⟩
      go_wp2_with fail
      go_ret2
      exact ⟨by rw [HQ.out]; rfl, bthen HB.out hb3⟩
  · have HQ := Lib.hid (show segN S = (0, 2) from segN_no S fun m hm e => hf m hm (HN.out m e))
    clear hf hL hT hP
    go_wp2_with fail
    go_ret2
    exact ⟨by rw [HQ.out]; rfl, HB.out⟩

theorem segN_all : SegN SV := ⟨fun h b => h.below b, fun n W hn hS => sname_any n W hn hS.1, fun s W hs hS => snumber_any s W hs hS⟩

theorem segNames_row (a b : Int) (s : ByteArray) (W : World) (la : 0 ≤ a) (ha : a ≤ 18446744073709551615) (lb : 0 ≤ b) (hb : b ≤ 18446744073709551615) (hs : s.size ≤ maxLen) (hS : SV W) :
    Calls Tryd.prog 3 #[.int .u64 a, .int .u64 b, .string s] W fun e W' => e = .returned (.bool true) ∧ Below W.heap.size W W' := by
  obtain ⟨x, rfl⟩ := Int.eq_ofNat_of_zero_le la
  obtain ⟨y, rfl⟩ := Int.eq_ofNat_of_zero_le lb
  exact segNames_law segN_all x y s W hS (by omega) (by omega) hs

end Go.Proofs.YtgococpbhbcpmaaDoor
