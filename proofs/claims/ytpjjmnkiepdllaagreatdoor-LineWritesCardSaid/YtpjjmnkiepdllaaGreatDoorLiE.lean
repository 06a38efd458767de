/-
  The reference's answers for a word by its sign.
-/
import Derived.Test.YtpjjmnkiepdllaaGreatDoorLiD
import Derived.Test.YtpjjmnkiepdllaaGreatDoorNaS
import Derived.Test.YtpjjmnkiepdllaaGreatDoorNaN
namespace Go.Proofs.YtpjjmnkiepdllaaGreatDoor
open Go.RowKit
set_option linter.unusedVariables false
set_option linter.unusedSimpArgs false

theorem smallE_over (l : List UInt8) (h0 : numE l = 0) (h : (2147483647 : Int) < ((numV l : Nat) : Int)) : signE 115 l = 6 := by
  show smallE l = _
  unfold smallE
  rw [if_pos h0, if_pos (by omega)]

set_option maxRecDepth 100000 in
set_option maxHeartbeats 1000000 in
theorem refSign_t_yes (s : ByteArray) (hs : s.size ≤ 10000) (W : World) (h : tenantB s.data.toList = true) :
    Calls Tryz.prog 18 #[.int .u8 116, .string s] W fun e W' => e = .returned (.int .i64 (signE 116 s.data.toList)) ∧ W' = W := by
  have HX : Hid (signE 116 s.data.toList = 0) := Lib.hid (by show (if tenantB s.data.toList then (0 : Int) else 2) = 0; rw [h]; rfl)
  have hnum := fun w => refNum7_any s hs w
  generalize numV s.data.toList = V at hnum
  generalize numE s.data.toList = x at hnum
  have hC := fun w => refTenant_any s hs w
  rw [h] at hC
  clear h
  go_enter Tryz.func18, Tryz.ntmps18
  go_wp2_with fail
  refine (hnum _).mono ?_
  rintro e W0 ⟨rfl, rfl⟩
  go_wp2_with fail
  refine (hC _).mono ?_
  rintro e W1 ⟨rfl, rfl⟩
  go_wp2_with fail
  go_ret
  exact ⟨by rw [HX.out]; rfl, rfl⟩

set_option maxRecDepth 100000 in
set_option maxHeartbeats 1000000 in
theorem refSign_t_no (s : ByteArray) (hs : s.size ≤ 10000) (W : World) (h : tenantB s.data.toList = false) :
    Calls Tryz.prog 18 #[.int .u8 116, .string s] W fun e W' => e = .returned (.int .i64 (signE 116 s.data.toList)) ∧ W' = W := by
  have HX : Hid (signE 116 s.data.toList = 2) := Lib.hid (by show (if tenantB s.data.toList then (0 : Int) else 2) = 2; rw [h]; rfl)
  have hnum := fun w => refNum7_any s hs w
  generalize numV s.data.toList = V at hnum
  generalize numE s.data.toList = x at hnum
  have hC := fun w => refTenant_any s hs w
  rw [h] at hC
  clear h
  go_enter Tryz.func18, Tryz.ntmps18
  go_wp2_with fail
  refine (hnum _).mono ?_
  rintro e W0 ⟨rfl, rfl⟩
  go_wp2_with fail
  refine (hC _).mono ?_
  rintro e W1 ⟨rfl, rfl⟩
  go_wp2_with fail
  go_ret
  exact ⟨by rw [HX.out]; rfl, rfl⟩

set_option maxRecDepth 100000 in
set_option maxHeartbeats 1000000 in
theorem refSign_h_yes (s : ByteArray) (hs : s.size ≤ 10000) (W : World) (h : targetB s.data.toList = true) :
    Calls Tryz.prog 18 #[.int .u8 104, .string s] W fun e W' => e = .returned (.int .i64 (signE 104 s.data.toList)) ∧ W' = W := by
  have HX : Hid (signE 104 s.data.toList = 0) := Lib.hid (by show (if targetB s.data.toList then (0 : Int) else 2) = 0; rw [h]; rfl)
  have hnum := fun w => refNum7_any s hs w
  generalize numV s.data.toList = V at hnum
  generalize numE s.data.toList = x at hnum
  have hC := fun w => refTarget_any s hs w
  rw [h] at hC
  clear h
  go_enter Tryz.func18, Tryz.ntmps18
  go_wp2_with fail
  refine (hnum _).mono ?_
  rintro e W0 ⟨rfl, rfl⟩
  go_wp2_with fail
  refine (hC _).mono ?_
  rintro e W1 ⟨rfl, rfl⟩
  go_wp2_with fail
  go_ret
  exact ⟨by rw [HX.out]; rfl, rfl⟩

set_option maxRecDepth 100000 in
set_option maxHeartbeats 1000000 in
theorem refSign_h_no (s : ByteArray) (hs : s.size ≤ 10000) (W : World) (h : targetB s.data.toList = false) :
    Calls Tryz.prog 18 #[.int .u8 104, .string s] W fun e W' => e = .returned (.int .i64 (signE 104 s.data.toList)) ∧ W' = W := by
  have HX : Hid (signE 104 s.data.toList = 2) := Lib.hid (by show (if targetB s.data.toList then (0 : Int) else 2) = 2; rw [h]; rfl)
  have hnum := fun w => refNum7_any s hs w
  generalize numV s.data.toList = V at hnum
  generalize numE s.data.toList = x at hnum
  have hC := fun w => refTarget_any s hs w
  rw [h] at hC
  clear h
  go_enter Tryz.func18, Tryz.ntmps18
  go_wp2_with fail
  refine (hnum _).mono ?_
  rintro e W0 ⟨rfl, rfl⟩
  go_wp2_with fail
  refine (hC _).mono ?_
  rintro e W1 ⟨rfl, rfl⟩
  go_wp2_with fail
  go_ret
  exact ⟨by rw [HX.out]; rfl, rfl⟩

set_option maxRecDepth 100000 in
set_option maxHeartbeats 1000000 in
theorem refSign_b_yes (s : ByteArray) (hs : s.size ≤ 10000) (W : World) (h : okHex s.data.toList = true) :
    Calls Tryz.prog 18 #[.int .u8 98, .string s] W fun e W' => e = .returned (.int .i64 (signE 98 s.data.toList)) ∧ W' = W := by
  have HX : Hid (signE 98 s.data.toList = 0) := Lib.hid (by show (if okHex s.data.toList then (0 : Int) else 2) = 0; rw [h]; rfl)
  have hnum := fun w => refNum7_any s hs w
  generalize numV s.data.toList = V at hnum
  generalize numE s.data.toList = x at hnum
  have hC := fun w => refHexes_any s hs w
  rw [h] at hC
  clear h
  go_enter Tryz.func18, Tryz.ntmps18
  go_wp2_with fail
  refine (hnum _).mono ?_
  rintro e W0 ⟨rfl, rfl⟩
  go_wp2_with fail
  refine (hC _).mono ?_
  rintro e W1 ⟨rfl, rfl⟩
  go_wp2_with fail
  go_ret
  exact ⟨by rw [HX.out]; rfl, rfl⟩

set_option maxRecDepth 100000 in
set_option maxHeartbeats 1000000 in
theorem refSign_b_no (s : ByteArray) (hs : s.size ≤ 10000) (W : World) (h : okHex s.data.toList = false) :
    Calls Tryz.prog 18 #[.int .u8 98, .string s] W fun e W' => e = .returned (.int .i64 (signE 98 s.data.toList)) ∧ W' = W := by
  have HX : Hid (signE 98 s.data.toList = 2) := Lib.hid (by show (if okHex s.data.toList then (0 : Int) else 2) = 2; rw [h]; rfl)
  have hnum := fun w => refNum7_any s hs w
  generalize numV s.data.toList = V at hnum
  generalize numE s.data.toList = x at hnum
  have hC := fun w => refHexes_any s hs w
  rw [h] at hC
  clear h
  go_enter Tryz.func18, Tryz.ntmps18
  go_wp2_with fail
  refine (hnum _).mono ?_
  rintro e W0 ⟨rfl, rfl⟩
  go_wp2_with fail
  refine (hC _).mono ?_
  rintro e W1 ⟨rfl, rfl⟩
  go_wp2_with fail
  go_ret
  exact ⟨by rw [HX.out]; rfl, rfl⟩

set_option maxRecDepth 100000 in
set_option maxHeartbeats 1000000 in
theorem refSign_n (s : ByteArray) (hs : s.size ≤ 10000) (W : World) :
    Calls Tryz.prog 18 #[.int .u8 110, .string s] W fun e W' => e = .returned (.int .i64 (signE 110 s.data.toList)) ∧ W' = W := by
  have HX : Hid (signE 110 s.data.toList = numE s.data.toList) := Lib.hid rfl
  have hnum := fun w => refNum7_any s hs w
  generalize numV s.data.toList = V at hnum
  generalize numE s.data.toList = x at hnum HX
  go_enter Tryz.func18, Tryz.ntmps18
  go_wp2_with fail
  refine (hnum _).mono ?_
  rintro e W0 ⟨rfl, rfl⟩
  go_wp2_with fail
  go_ret
  exact ⟨by rw [HX.out]; rfl, rfl⟩

set_option maxRecDepth 100000 in
set_option maxHeartbeats 1000000 in
theorem refSign_s_over (s : ByteArray) (hs : s.size ≤ 10000) (W : World) (h0 : numE s.data.toList = 0) (h : (2147483647 : Int) < ((numV s.data.toList : Nat) : Int)) :
    Calls Tryz.prog 18 #[.int .u8 115, .string s] W fun e W' => e = .returned (.int .i64 (signE 115 s.data.toList)) ∧ W' = W := by
  have HX := Lib.hid (smallE_over _ h0 h)
  have hnum := fun w => refNum7_any s hs w
  rw [h0] at hnum
  have d1 : decide ((2147483647 : Int) < ((numV s.data.toList : Nat) : Int)) = true := decide_eq_true h
  clear h0 h
  generalize numV s.data.toList = V at hnum d1
  go_enter Tryz.func18, Tryz.ntmps18
  go_wp2_with fail
  refine (hnum _).mono ?_
  rintro e W0 ⟨rfl, rfl⟩
  go_wp2_with fail
  go_ret
  exact ⟨by rw [HX.out]; rfl, rfl⟩

set_option maxRecDepth 100000 in
set_option maxHeartbeats 1000000 in
theorem refSign_s_zero (s : ByteArray) (hs : s.size ≤ 10000) (W : World) (h0 : numE s.data.toList = 0) (h : ¬ (2147483647 : Int) < ((numV s.data.toList : Nat) : Int)) :
    Calls Tryz.prog 18 #[.int .u8 115, .string s] W fun e W' => e = .returned (.int .i64 (signE 115 s.data.toList)) ∧ W' = W := by
  have HX : Hid (signE 115 s.data.toList = 0) := Lib.hid (by rw [smallE_in _ (fun _ => h), h0])
  have hnum := fun w => refNum7_any s hs w
  rw [h0] at hnum
  have d1 : decide ((2147483647 : Int) < ((numV s.data.toList : Nat) : Int)) = false := decide_eq_false h
  clear h0 h
  generalize numV s.data.toList = V at hnum d1
  go_enter Tryz.func18, Tryz.ntmps18
  go_wp2_with fail
  refine (hnum _).mono ?_
  rintro e W0 ⟨rfl, rfl⟩
  go_wp2_with fail
  go_ret
  exact ⟨by rw [HX.out]; rfl, rfl⟩

set_option maxRecDepth 100000 in
set_option maxHeartbeats 1000000 in
theorem refSign_s_err (s : ByteArray) (hs : s.size ≤ 10000) (W : World) (h0 : ¬ numE s.data.toList = 0) :
    Calls Tryz.prog 18 #[.int .u8 115, .string s] W fun e W' => e = .returned (.int .i64 (signE 115 s.data.toList)) ∧ W' = W := by
  have HX : Hid (signE 115 s.data.toList = numE s.data.toList) := Lib.hid (smallE_in _ (fun h => absurd h h0))
  have hnum := fun w => refNum7_any s hs w
  have d1 : (numE s.data.toList == 0) = false := by simpa using h0
  clear h0
  generalize numV s.data.toList = V at hnum
  generalize numE s.data.toList = x at hnum HX d1
  go_enter Tryz.func18, Tryz.ntmps18
  go_wp2_with fail
  refine (hnum _).mono ?_
  rintro e W0 ⟨rfl, rfl⟩
  go_wp2_with fail
  go_ret
  exact ⟨by rw [HX.out]; rfl, rfl⟩

/-- What is wrong with a word, by a sign. -/
theorem refSign_any (c : UInt8) (hc : sgB c = true) (s : ByteArray) (hs : s.size ≤ 10000) (W : World) :
    Calls Tryz.prog 18 #[.int .u8 ((c.toNat : Nat) : Int), .string s] W fun e W' => e = .returned (.int .i64 (signE c s.data.toList)) ∧ W' = W := by
  rcases sg_cases c hc with rfl | rfl | rfl | rfl | rfl
  · cases h : tenantB s.data.toList
    · exact refSign_t_no s hs W h
    · exact refSign_t_yes s hs W h
  · cases h : targetB s.data.toList
    · exact refSign_h_no s hs W h
    · exact refSign_h_yes s hs W h
  · exact refSign_n s hs W
  · cases h : okHex s.data.toList
    · exact refSign_b_no s hs W h
    · exact refSign_b_yes s hs W h
  · by_cases h0 : numE s.data.toList = 0
    · by_cases h : (2147483647 : Int) < ((numV s.data.toList : Nat) : Int)
      · exact refSign_s_over s hs W h0 h
      · exact refSign_s_zero s hs W h0 h
    · exact refSign_s_err s hs W h0

end Go.Proofs.YtpjjmnkiepdllaaGreatDoor
