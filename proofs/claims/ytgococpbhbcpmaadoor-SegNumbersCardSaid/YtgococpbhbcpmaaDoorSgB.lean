/-
  The statements of segments by the program's contracts: awake, SegNames.
-/
import Derived.Test.YtgococpbhbcpmaaDoorSgA
import Derived.Test.YtgococpbhbcpmaaDoorOne
import Derived.BigQuiet
namespace Go.Proofs.YtgococpbhbcpmaaDoor
open Go.RowKit
set_option linter.unusedVariables false
set_option linter.unusedSimpArgs false

/-- What Number tells of a name. -/
def segN (s : List UInt8) : Nat × Int := if (numC s).2 then ((numC s).1, 0) else (0, 2)
/-- The program's names; I: what it asks of the world. -/
structure SegN (I : World → Prop) : Prop where
  keep : ∀ {w w' : World}, I w → Below w.heap.size w w' → I w'
  name : ∀ (n : Nat) (W : World), n < 18446744073709551616 → I W → Calls Tryd.prog 7 #[.int .u64 (n : Nat)] W fun e W' => e = .returned (.string ⟨(nameL n).toArray⟩) ∧ Below W.heap.size W W'
  number : ∀ (s : ByteArray) (W : World), s.size ≤ 281474976710656 → I W → Calls Tryd.prog 6 #[.string s] W fun e W' => e = .returned (.tuple #[.int .u64 ((segN s.data.toList).1 : Nat), .int .i64 (segN s.data.toList).2]) ∧ Below W.heap.size W W'

def w255 : List UInt8 := [119, 48, 48, 48, 48, 48, 48, 48, 48, 48, 48, 48, 48, 48, 48, 102, 102]
theorem name255 : nameL 255 = w255 := by decide +kernel
theorem segN_name (n : Nat) (h : n < 18446744073709551616) : segN (nameL n) = (n, 0) := by unfold segN; rw [num_name n h]; rfl

set_option maxRecDepth 100000 in
set_option maxHeartbeats 1000000 in
theorem awake13_any {I : World → Prop} (C : SegN I) (W : World) (hI : I W) : Calls Tryd.prog 5 #[] W fun e W' => e = .returned (.bool true) ∧ Below W.heap.size W W' := by
  have hNum := C.number ⟨w255.toArray⟩ W (by decide) hI
  rw [show segN (⟨w255.toArray⟩ : ByteArray).data.toList = (255, 0) from (show segN w255 = (255, 0) by rw [← name255]; exact segN_name 255 (by decide))] at hNum
  have hNam := fun w hI => C.name 255 w (by decide) hI
  rw [name255] at hNam
  go_enter Tryd.func5, Tryd.ntmps5
  go_wp2_with fail
  refine hNum.mono ?_
  rintro e w1 ⟨rfl, hb1⟩
  go_wp2_with fail
  refine (hNam _ (C.keep hI hb1)).mono ?_
  rintro e w2 ⟨rfl, hb2⟩
  go_wp2_with fail
  go_ret
  exact ⟨rfl, bthen hb1 hb2⟩

set_option maxRecDepth 100000 in
set_option maxHeartbeats 2000000 in
theorem segNames_long {I : World → Prop} (C : SegN I) (a b : Nat) (s : ByteArray) (W : World) (hI : I W) (hs : s.size ≤ maxLen) (h : 100 < s.size) :
    Calls Tryd.prog 3 #[.int .u64 (a : Nat), .int .u64 (b : Nat), .string s] W fun e W' => e = .returned (.bool true) ∧ Below W.heap.size W W' := by
  unfold maxLen at hs
  have hA := awake13_any C W hI
  have h1 : (100 : Int) < (s.size : Int) := by omega
  clear h
  go_enter Tryd.func3, Tryd.ntmps3
  go_wp2_with fail
  refine hA.mono ?_
  rintro e w1 ⟨rfl, hb1⟩
  go_wp2_with fail
  go_ret
  exact ⟨rfl, hb1⟩

set_option maxRecDepth 100000 in
set_option maxHeartbeats 4000000 in
theorem segNames_short {I : World → Prop} (C : SegN I) (a b : Nat) (s : ByteArray) (W : World) (hI : I W) (ha : a < 18446744073709551616) (hb : b < 18446744073709551616) (h : s.size ≤ 100) :
    Calls Tryd.prog 3 #[.int .u64 (a : Nat), .int .u64 (b : Nat), .string s] W fun e W' => e = .returned (.bool true) ∧ Below W.heap.size W W' := by
  have h1 : ¬ (100 : Int) < (s.size : Int) := by omega
  have hNa := fun w hI => C.name a w ha hI
  have hNb := fun w hI => C.name b w hb hI
  have hQ := fun w hI => C.number ⟨(nameL a).toArray⟩ w (by show (nameL a).toArray.size ≤ _; rw [List.size_toArray, nameL_len]; decide) hI
  rw [show segN (⟨(nameL a).toArray⟩ : ByteArray).data.toList = (a, 0) from segN_name a ha] at hQ
  have hS := fun w hI => C.number s w (by omega) hI
  have hR := fun w => refSegNumber_any s (by omega) w
  have hRN := fun w => refSegName_any a ha w
  have hLL : (nameL a == nameL a) = true := by simp
  have hlt := name_less a b ha hb
  have HN := Lib.hid (show segN s.data.toList = if (numC s.data.toList).2 then ((numC s.data.toList).1, 0) else (0, 2) from rfl)
  obtain ⟨q, hq⟩ : ∃ q, numC s.data.toList = q := ⟨_, rfl⟩
  rw [hq] at hR HN
  obtain ⟨m, is⟩ := q
  rw [HN.out] at hS
  generalize nameL a = L at hNa hQ hRN hLL hlt
  generalize nameL b = M at hNb hlt
  have hA := fun w hI => awake13_any C w hI
  simp only at hR
  have haa : ((a : Int) == (a : Int)) = true := by simp
  have hmm : ((m : Int) == (m : Int)) = true := by simp
  have hcase : (a < b ∧ Op.bytesLess L M = true) ∨ (¬ a < b ∧ Op.bytesLess L M = false) := by
    by_cases h : a < b
    · exact .inl ⟨h, by rw [hlt]; exact decide_eq_true h⟩
    · exact .inr ⟨h, by rw [hlt]; exact decide_eq_false h⟩
  clear h hlt HN hq
  have keep := @SegN.keep I C
  cases is <;> rcases hcase with ⟨c1, c2⟩ | ⟨c1, c2⟩
  all_goals
    simp only [if_true, Bool.false_eq_true, if_false] at hS
    have c3 : decide ((a : Int) < (b : Int)) = decide (a < b) := by exact decide_eq_decide.2 (by omega)
    first | rw [decide_eq_true c1] at c3 | rw [decide_eq_false c1] at c3
    go_enter Tryd.func3, Tryd.ntmps3
    go_wp2_with fail
    refine (hNa _ hI).mono ?_
    rintro e w1 ⟨rfl, hb1⟩
    have i1 := keep hI hb1
    go_wp2_with fail
    refine (hQ _ i1).mono ?_
    rintro e w2 ⟨rfl, hb2⟩
    have i2 := keep i1 hb2
    have B2 := bthen hb1 hb2
    go_wp2_with fail
    refine (hS _ i2).mono ?_
    rintro e w3 ⟨rfl, hb3⟩
    have i3 := keep i2 hb3
    have B3 := bthen B2 hb3
    go_wp2_with fail
    refine (hR _).mono ?_
    rintro e w4 ⟨rfl, rfl⟩
    go_wp2_with fail
    refine (hNa _ i3).mono ?_
    rintro e w5 ⟨rfl, hb5⟩
    have i5 := keep i3 hb5
    have B5 := bthen B3 hb5
    go_wp2_with fail
    refine (hRN _).mono ?_
    rintro e w6 ⟨rfl, rfl⟩
    go_wp2_with fail
    refine (hNa _ i5).mono ?_
    rintro e w7 ⟨rfl, hb7⟩
    have i7 := keep i5 hb7
    have B7 := bthen B5 hb7
    go_wp2_with fail
    refine (hNb _ i7).mono ?_
    rintro e w8 ⟨rfl, hb8⟩
    have i8 := keep i7 hb8
    have B8 := bthen B7 hb8
    go_wp2_with fail
    refine (hA _ i8).mono ?_
    rintro e w9 ⟨rfl, hb9⟩
    go_wp2_with fail
    go_ret
    exact ⟨rfl, bthen B8 hb9⟩

theorem segNames_law {I : World → Prop} (C : SegN I) (a b : Nat) (s : ByteArray) (W : World) (hI : I W) (ha : a < 18446744073709551616) (hb : b < 18446744073709551616) (hs : s.size ≤ maxLen) :
    Calls Tryd.prog 3 #[.int .u64 (a : Nat), .int .u64 (b : Nat), .string s] W fun e W' => e = .returned (.bool true) ∧ Below W.heap.size W W' := by
  by_cases h : 100 < s.size
  · exact segNames_long C a b s W hI hs h
  · exact segNames_short C a b s W hI ha hb (by omega)

end Go.Proofs.YtgococpbhbcpmaaDoor
