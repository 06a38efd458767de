/-
  Package line: a field's word; the line of fields.
-/
import Derived.Test.YtpjjmnkiepdllaaGreatDoorLiI
import Derived.Test.YtpjjmnkiepdllaaGreatDoorNaH
import Derived.Test.YtpjjmnkiepdllaaGreatDoorNaQ
import Derived.Lib.Join
namespace Go.Proofs.YtpjjmnkiepdllaaGreatDoor
open Go.RowKit
set_option linter.unusedVariables false
set_option linter.unusedSimpArgs false

set_option maxRecDepth 100000 in
set_option maxHeartbeats 1000000 in
theorem written_t (T : ByteArray) (u : Nat) (A : Option Addr) (n c : Nat) (l : List UInt8) (W : World) (hu : u < 18446744073709551616) (hl : Byt W W.heap.size A n l) (hn : n ≤ 10000) (hN : NV W) :
    Calls Tryz.prog 14 #[.int .i32 116, .agg #[.string T, .int .u64 ((u : Nat) : Int), .slice A n c]] W fun e W' => e = .returned (.string T) ∧ Below W.heap.size W W' := by
  go_enter Tryz.func14, Tryz.ntmps14
  go_wp2
  go_ret
  exact ⟨rfl, (Below.refl _ W).alloc (Nat.le_refl _) _⟩

set_option maxRecDepth 100000 in
set_option maxHeartbeats 1000000 in
theorem written_h (T : ByteArray) (u : Nat) (A : Option Addr) (n c : Nat) (l : List UInt8) (W : World) (hu : u < 18446744073709551616) (hl : Byt W W.heap.size A n l) (hn : n ≤ 10000) (hN : NV W) :
    Calls Tryz.prog 14 #[.int .i32 104, .agg #[.string T, .int .u64 ((u : Nat) : Int), .slice A n c]] W fun e W' => e = .returned (.string T) ∧ Below W.heap.size W W' := by
  go_enter Tryz.func14, Tryz.ntmps14
  go_wp2
  go_ret
  exact ⟨rfl, (Below.refl _ W).alloc (Nat.le_refl _) _⟩

set_option maxRecDepth 100000 in
set_option maxHeartbeats 1000000 in
theorem written_n (T : ByteArray) (u : Nat) (A : Option Addr) (n c : Nat) (l : List UInt8) (W : World) (hu : u < 18446744073709551616) (hl : Byt W W.heap.size A n l) (hn : n ≤ 10000) (hN : NV W) :
    Calls Tryz.prog 14 #[.int .i32 110, .agg #[.string T, .int .u64 ((u : Nat) : Int), .slice A n c]] W fun e W' => e = .returned (.string ⟨(Lib.decDigits u).toArray⟩) ∧ Below W.heap.size W W' := by
  have hC := fun w h => digits_any u hu w h
  have HH : Hid (∀ o, NV (W.alloc o)) := Lib.hid (fun o => hN.below ((Below.refl _ W).alloc (Nat.le_refl _) o))
  clear hu hl hn hN
  go_enter Tryz.func14, Tryz.ntmps14
  go_wp2_with fail
  refine (hC _ (HH.out _)).mono ?_
  rintro e W1 ⟨rfl, hb1⟩
  have hb : Below W.heap.size W W1 := ((Below.refl _ W).alloc (Nat.le_refl _) _).trans (hb1.mono (by simp))
  clear hb1 hC
  go_wp2
  go_ret
  exact ⟨rfl, hb⟩

set_option maxRecDepth 100000 in
set_option maxHeartbeats 1000000 in
theorem written_s (T : ByteArray) (u : Nat) (A : Option Addr) (n c : Nat) (l : List UInt8) (W : World) (hu : u < 18446744073709551616) (hl : Byt W W.heap.size A n l) (hn : n ≤ 10000) (hN : NV W) :
    Calls Tryz.prog 14 #[.int .i32 115, .agg #[.string T, .int .u64 ((u : Nat) : Int), .slice A n c]] W fun e W' => e = .returned (.string ⟨(Lib.decDigits u).toArray⟩) ∧ Below W.heap.size W W' := by
  have hC := fun w h => digits_any u hu w h
  have HH : Hid (∀ o, NV (W.alloc o)) := Lib.hid (fun o => hN.below ((Below.refl _ W).alloc (Nat.le_refl _) o))
  clear hu hl hn hN
  go_enter Tryz.func14, Tryz.ntmps14
  go_wp2_with fail
  refine (hC _ (HH.out _)).mono ?_
  rintro e W1 ⟨rfl, hb1⟩
  have hb : Below W.heap.size W W1 := ((Below.refl _ W).alloc (Nat.le_refl _) _).trans (hb1.mono (by simp))
  clear hb1 hC
  go_wp2
  go_ret
  exact ⟨rfl, hb⟩

set_option maxRecDepth 100000 in
set_option maxHeartbeats 1000000 in
theorem written_b (T : ByteArray) (u : Nat) (A : Option Addr) (n c : Nat) (l : List UInt8) (W : World) (hu : u < 18446744073709551616) (hl : Byt W W.heap.size A n l) (hn : n ≤ 10000) (hN : NV W) :
    Calls Tryz.prog 14 #[.int .i32 98, .agg #[.string T, .int .u64 ((u : Nat) : Int), .slice A n c]] W fun e W' => e = .returned (.string ⟨(hexS l).toArray⟩) ∧ Below W.heap.size W W' := by
  have hC := fun w h hB => hex_any A n c l W.heap.size w h hB hn
  have HH : Hid (∀ o, Byt (W.alloc o) W.heap.size A n l) := Lib.hid (fun o => hl.alloc (Nat.le_refl _) o)
  clear hu hl hn hN
  go_enter Tryz.func14, Tryz.ntmps14
  go_wp2_with fail
  refine (hC _ (HH.out _) (by simp)).mono ?_
  rintro e W1 ⟨rfl, hb1⟩
  have hb : Below W.heap.size W W1 := ((Below.refl _ W).alloc (Nat.le_refl _) _).trans (hb1.mono (by simp))
  clear hb1 hC
  go_wp2
  go_ret
  exact ⟨rfl, hb⟩

/-- A field's word, by a sign. -/
theorem written_any (c : UInt8) (hc : sgB c = true) (f : Fd) (v : Value) (W : World) (hv : FdV W W.heap.size v f) (hu : f.n < 18446744073709551616) (hn : f.data.length ≤ 10000) (hN : NV W) :
    Calls Tryz.prog 14 #[.int .i32 ((c.toNat : Nat) : Int), v] W fun e W' => e = .returned (.string ⟨(textF c f).toArray⟩) ∧ Below W.heap.size W W' := by
  obtain ⟨A, n, cc, rfl, hl, _⟩ := hv
  have hn2 : n ≤ 10000 := by rw [← hl.1]; exact hn
  rcases sg_cases c hc with rfl | rfl | rfl | rfl | rfl
  · exact written_t _ f.n A n cc f.data W hu hl hn2 hN
  · exact written_h _ f.n A n cc f.data W hu hl hn2 hN
  · exact written_n _ f.n A n cc f.data W hu hl hn2 hN
  · exact written_b _ f.n A n cc f.data W hu hl hn2 hN
  · exact written_s _ f.n A n cc f.data W hu hl hn2 hN

theorem join_line (w : List UInt8) (ts : List (List UInt8)) : Lib.join (w :: ts) [32] = w ++ tailW ts := by
  rw [Lib.join_cons]
  unfold Lib.joinTail tailW
  rw [List.flatMap_def]
  rfl

/-- What the line of fields is behind a call. -/
def WriteOut (X : List UInt8) (x : Int) (W : World) (e : Ending) (W' : World) : Prop := e = .returned (.tuple #[.string (if x = 0 then ⟨X.toArray⟩ else ⟨#[]⟩), .int .i64 x]) ∧ Below W.heap.size W W'

set_option maxRecDepth 100000 in
set_option maxHeartbeats 1000000 in
theorem lwrite_bad (word pat : ByteArray) (A : Option Addr) (n c : Nat) (W : World) (h : isPat pat.data.toList = false ∨ n ≠ pat.size) :
    Calls Tryz.prog 6 #[.string word, .string pat, .slice A n c] W fun e W' => e = .returned (.tuple #[.string ⟨#[]⟩, .int .i64 2]) ∧ Below W.heap.size W W' := by
  have hP := fun w => isPattern_any pat w
  cases hq : isPat pat.data.toList
  · rw [hq] at hP
    clear h hq
    go_enter Tryz.func6, Tryz.ntmps6
    go_wp2_with fail
    refine (hP _).mono ?_
    rintro e W1 ⟨rfl, hb1⟩
    go_wp2_with fail
    go_ret2
    exact ⟨rfl, hb1⟩
  · rw [hq] at hP
    have hne : n ≠ pat.size := by
      rcases h with h | h
      · rw [hq] at h; cases h
      · exact h
    have d1 : (((n : Nat) : Int) != ((pat.size : Nat) : Int)) = true := by simp; omega
    clear h hq hne
    go_enter Tryz.func6, Tryz.ntmps6
    go_wp2_with fail
    refine (hP _).mono ?_
    rintro e W1 ⟨rfl, hb1⟩
    go_wp2_with fail
    go_ret2
    exact ⟨rfl, hb1⟩

end Go.Proofs.YtpjjmnkiepdllaaGreatDoor
