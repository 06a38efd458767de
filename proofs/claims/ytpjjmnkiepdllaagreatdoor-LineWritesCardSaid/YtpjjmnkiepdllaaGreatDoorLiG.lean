/-
  The reference's words of fields.
-/
import Derived.Test.YtpjjmnkiepdllaaGreatDoorLiF
import Derived.Test.YtpjjmnkiepdllaaGreatDoorNaJ
import Derived.StillTailTactics
import Derived.Deep.RegionHeld3
namespace Go.Proofs.YtpjjmnkiepdllaaGreatDoor
open Go.RowKit
set_option linter.unusedVariables false
set_option linter.unusedSimpArgs false

set_option maxRecDepth 100000 in
set_option maxHeartbeats 1000000 in
theorem refText_t (T : ByteArray) (u : Nat) (A : Option Addr) (n c : Nat) (l : List UInt8) (W : World) (hu : u < 18446744073709551616) (hl : Byt W W.heap.size A n l) (hn : n ≤ 10000) :
    Calls Tryz.prog 16 #[.int .u8 116, .agg #[.string T, .int .u64 ((u : Nat) : Int), .slice A n c]] W fun e W' => e = .returned (.string T) ∧ Below W.heap.size W W' := by
  go_enter Tryz.func16, Tryz.ntmps16
  go_wp2
  go_ret
  exact ⟨rfl, (Below.refl _ W).alloc (Nat.le_refl _) _⟩

set_option maxRecDepth 100000 in
set_option maxHeartbeats 1000000 in
theorem refText_h (T : ByteArray) (u : Nat) (A : Option Addr) (n c : Nat) (l : List UInt8) (W : World) (hu : u < 18446744073709551616) (hl : Byt W W.heap.size A n l) (hn : n ≤ 10000) :
    Calls Tryz.prog 16 #[.int .u8 104, .agg #[.string T, .int .u64 ((u : Nat) : Int), .slice A n c]] W fun e W' => e = .returned (.string T) ∧ Below W.heap.size W W' := by
  go_enter Tryz.func16, Tryz.ntmps16
  go_wp2
  go_ret
  exact ⟨rfl, (Below.refl _ W).alloc (Nat.le_refl _) _⟩

set_option maxRecDepth 100000 in
set_option maxHeartbeats 1000000 in
theorem refText_n (T : ByteArray) (u : Nat) (A : Option Addr) (n c : Nat) (l : List UInt8) (W : World) (hu : u < 18446744073709551616) (hl : Byt W W.heap.size A n l) (hn : n ≤ 10000) :
    Calls Tryz.prog 16 #[.int .u8 110, .agg #[.string T, .int .u64 ((u : Nat) : Int), .slice A n c]] W fun e W' => e = .returned (.string ⟨(Lib.decDigits u).toArray⟩) ∧ Below W.heap.size W W' := by
  have hC := fun w => refDigits_any u hu w
  clear hu hl hn
  go_enter Tryz.func16, Tryz.ntmps16
  go_wp2_with fail
  refine (hC _).mono ?_
  rintro e W1 ⟨rfl, rfl⟩
  go_wp2
  go_ret
  exact ⟨rfl, (Below.refl _ W).alloc (Nat.le_refl _) _⟩

set_option maxRecDepth 100000 in
set_option maxHeartbeats 1000000 in
theorem refText_s (T : ByteArray) (u : Nat) (A : Option Addr) (n c : Nat) (l : List UInt8) (W : World) (hu : u < 18446744073709551616) (hl : Byt W W.heap.size A n l) (hn : n ≤ 10000) :
    Calls Tryz.prog 16 #[.int .u8 115, .agg #[.string T, .int .u64 ((u : Nat) : Int), .slice A n c]] W fun e W' => e = .returned (.string ⟨(Lib.decDigits u).toArray⟩) ∧ Below W.heap.size W W' := by
  have hC := fun w => refDigits_any u hu w
  clear hu hl hn
  go_enter Tryz.func16, Tryz.ntmps16
  go_wp2_with fail
  refine (hC _).mono ?_
  rintro e W1 ⟨rfl, rfl⟩
  go_wp2
  go_ret
  exact ⟨rfl, (Below.refl _ W).alloc (Nat.le_refl _) _⟩

set_option maxRecDepth 100000 in
set_option maxHeartbeats 1000000 in
theorem refText_o (x : UInt8) (h1 : x ≠ 116) (h2 : x ≠ 104) (h3 : x ≠ 110) (h4 : x ≠ 115) (T : ByteArray) (u : Nat) (A : Option Addr) (n c : Nat) (l : List UInt8) (W : World) (hu : u < 18446744073709551616) (hl : Byt W W.heap.size A n l) (hn : n ≤ 10000) :
    Calls Tryz.prog 16 #[.int .u8 ((x.toNat : Nat) : Int), .agg #[.string T, .int .u64 ((u : Nat) : Int), .slice A n c]] W fun e W' => e = .returned (.string ⟨(hexS l).toArray⟩) ∧ Below W.heap.size W W' := by
  have d1 : (((x.toNat : Nat) : Int) == 116) = false := by have := u8_ne x 116 h1; simpa [bne] using this
  have d2 : (((x.toNat : Nat) : Int) == 104) = false := by have := u8_ne x 104 h2; simpa [bne] using this
  have d3 : (((x.toNat : Nat) : Int) == 110) = false := by have := u8_ne x 110 h3; simpa [bne] using this
  have d4 : (((x.toNat : Nat) : Int) == 115) = false := by have := u8_ne x 115 h4; simpa [bne] using this
  clear h1 h2 h3 h4
  have hC := fun w h => refHex_any A n c l W.heap.size w h hn
  have HL : Hid (∀ o, Byt (W.alloc o) W.heap.size A n l) := Lib.hid (fun o => hl.alloc (Nat.le_refl _) o)
  clear hu hl hn
  go_enter Tryz.func16, Tryz.ntmps16
  go_wp2_with fail
  refine (hC _ (HL.out _)).mono ?_
  rintro e W1 ⟨rfl, hb1⟩
  have hb : Below W.heap.size W W1 := ((Below.refl _ W).alloc (Nat.le_refl _) _).trans (hb1.mono (by simp))
  clear hb1 hC
  go_wp2
  go_ret
  exact ⟨rfl, hb⟩

/-- A field's word. -/
theorem refText_any (c : UInt8) (f : Fd) (v : Value) (W : World) (hv : FdV W W.heap.size v f) (hu : f.n < 18446744073709551616) (hn : f.data.length ≤ 10000) :
    Calls Tryz.prog 16 #[.int .u8 ((c.toNat : Nat) : Int), v] W fun e W' => e = .returned (.string ⟨(textF c f).toArray⟩) ∧ Below W.heap.size W W' := by
  obtain ⟨A, n, cc, rfl, hl, _⟩ := hv
  have hn2 : n ≤ 10000 := by rw [← hl.1]; exact hn
  by_cases h1 : c = 116
  · subst h1; exact refText_t _ f.n A n cc f.data W hu hl hn2
  by_cases h2 : c = 104
  · subst h2; exact refText_h _ f.n A n cc f.data W hu hl hn2
  by_cases h3 : c = 110
  · subst h3; exact refText_n _ f.n A n cc f.data W hu hl hn2
  by_cases h4 : c = 115
  · subst h4; exact refText_s _ f.n A n cc f.data W hu hl hn2
  have h := refText_o c h1 h2 h3 h4 ⟨f.text.toArray⟩ f.n A n cc f.data W hu hl hn2
  unfold textF
  rw [if_neg (by simp [h1, h2]), if_neg (by simp [h3, h4])]
  exact h

end Go.Proofs.YtpjjmnkiepdllaaGreatDoor
