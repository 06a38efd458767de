/-
  The reference's fields: bare, the same, large.
-/
import Derived.Test.YtpjjmnkiepdllaaGreatDoorLiL
import Derived.Test.YtpjjmnkiepdllaaGreatDoorLiG
import Derived.Test.YtpjjmnkiepdllaaGreatDoorOctA
namespace Go.Proofs.YtpjjmnkiepdllaaGreatDoor
open Go.RowKit
set_option linter.unusedVariables false
set_option linter.unusedSimpArgs false

set_option maxRecDepth 100000 in
set_option maxHeartbeats 1000000 in
theorem refSame_any (f : Fd) (v1 v2 : Value) (W : World) (h1 : FdV W W.heap.size v1 f) (h2 : FdV W W.heap.size v2 f) (hd : f.data.length ≤ 10000) :
    Calls Tryz.prog 10 #[v1, v2] W fun e W' => e = .returned (.bool true) ∧ Below W.heap.size W W' := by
  obtain ⟨A1, n1, c1, rfl, hb1, _, hc1, hm1⟩ := h1
  obtain ⟨A2, n2, c2, rfl, hb2, _, hc2, hm2⟩ := h2
  obtain ⟨T, hT⟩ : ∃ T : ByteArray, ⟨f.text.toArray⟩ = T := ⟨_, rfl⟩
  rw [hT]
  obtain ⟨u, hu⟩ : ∃ u : Nat, f.n = u := ⟨_, rfl⟩
  rw [hu]
  have hTT : (T.toList == T.toList) = true := by simp
  have hn : n1 ≤ 140737488355328 := by have := hb1.1; omega
  have HS : Hid (∀ o p, Calls Tryz.prog 21 #[.slice A1 n1 c1, .slice A2 n2 c2] ((W.alloc o).alloc p) fun e W' => e = .returned (.bool true) ∧ ∃ k, W' = ((W.alloc o).alloc p).drewN k) := Lib.hid (fun o p =>
    same_true A1 A2 n1 c1 n2 c2 f.data f.data W.heap.size ((W.alloc o).alloc p) ((hb1.alloc (Nat.le_refl _) o).alloc (by simp) p) ((hb2.alloc (Nat.le_refl _) o).alloc (by simp) p) hn rfl)
  clear hT hu hb1 hb2 hc1 hc2 hm1 hm2 hn hd
  go_enter Tryz.func10, Tryz.ntmps10
  go_wp2_with fail
  refine (HS.out _ _).mono ?_
  rintro e W1 ⟨rfl, k, rfl⟩
  go_wp2_with fail
  go_ret
  exact ⟨rfl, below_drewN (((Below.refl _ W).alloc (Nat.le_refl _) _).alloc (by simp) _) _⟩

/-- What a bare field is behind a call. -/
def BarePost (c : UInt8) (f : Fd) (W : World) (e : Ending) (W' : World) : Prop := ∃ v, e = .returned v ∧ FdV W' W'.heap.size v (bareF c f) ∧ Below W.heap.size W W'

set_option maxRecDepth 100000 in
set_option maxHeartbeats 1000000 in
theorem refBare_t (T : ByteArray) (u : Nat) (A : Option Addr) (n c : Nat) (W : World) :
    Calls Tryz.prog 11 #[.int .u8 116, .agg #[.string T, .int .u64 ((u : Nat) : Int), .slice A n c]] W fun e W' => e = .returned (.agg #[.string T, .int .u64 0, .slice none 0 0]) ∧ Below W.heap.size W W' := by
  have hn : Blk ((W.alloc (.cells #[.string T, .int .u64 ((u : Nat) : Int), .slice A n c] 36)).alloc (.cells #[.string ⟨#[]⟩, .int .u64 0, .slice none 0 0] 36)) (W.heap.size + 1) 36 zF := by
    have := Blk.new (cs := zF) (W.alloc (.cells #[.string T, .int .u64 ((u : Nat) : Int), .slice A n c] 36)) 36 _ rfl
    rw [World.size_alloc] at this
    exact this
  have hb : Below W.heap.size W ((W.alloc (.cells #[.string T, .int .u64 ((u : Nat) : Int), .slice A n c] 36)).alloc (.cells #[.string ⟨#[]⟩, .int .u64 0, .slice none 0 0] 36)) := ((Below.refl _ W).alloc (Nat.le_refl _) _).alloc (by simp) _
  have HB := Lib.hid hb
  have HNN := Lib.hid hn
  clear hb
  go_enter Tryz.func11, Tryz.ntmps11
  go_wp2_with (refine st_blk rfl 36 _ _ rfl (W.heap.size + 1) [.string T, .int .u64 0, .slice none 0 0] rfl rfl 36 zF hn (by kernel_rfl) rfl (by simp [Value.oneCell']) ?_)
  exact ret_cell_one rfl (W.heap.size + 1) 36 [.string T, .int .u64 0, .slice none 0 0] rfl (HNN.out.row _) _ Tryz.underlying36 (by kernel_rfl) rfl ⟨rfl, below_row HB.out (by omega) _⟩

set_option maxRecDepth 100000 in
set_option maxHeartbeats 1000000 in
theorem refBare_h (T : ByteArray) (u : Nat) (A : Option Addr) (n c : Nat) (W : World) :
    Calls Tryz.prog 11 #[.int .u8 104, .agg #[.string T, .int .u64 ((u : Nat) : Int), .slice A n c]] W fun e W' => e = .returned (.agg #[.string T, .int .u64 0, .slice none 0 0]) ∧ Below W.heap.size W W' := by
  have hn : Blk ((W.alloc (.cells #[.string T, .int .u64 ((u : Nat) : Int), .slice A n c] 36)).alloc (.cells #[.string ⟨#[]⟩, .int .u64 0, .slice none 0 0] 36)) (W.heap.size + 1) 36 zF := by
    have := Blk.new (cs := zF) (W.alloc (.cells #[.string T, .int .u64 ((u : Nat) : Int), .slice A n c] 36)) 36 _ rfl
    rw [World.size_alloc] at this
    exact this
  have hb : Below W.heap.size W ((W.alloc (.cells #[.string T, .int .u64 ((u : Nat) : Int), .slice A n c] 36)).alloc (.cells #[.string ⟨#[]⟩, .int .u64 0, .slice none 0 0] 36)) := ((Below.refl _ W).alloc (Nat.le_refl _) _).alloc (by simp) _
  have HB := Lib.hid hb
  have HNN := Lib.hid hn
  clear hb
  go_enter Tryz.func11, Tryz.ntmps11
  go_wp2_with (refine st_blk rfl 36 _ _ rfl (W.heap.size + 1) [.string T, .int .u64 0, .slice none 0 0] rfl rfl 36 zF hn (by kernel_rfl) rfl (by simp [Value.oneCell']) ?_)
  exact ret_cell_one rfl (W.heap.size + 1) 36 [.string T, .int .u64 0, .slice none 0 0] rfl (HNN.out.row _) _ Tryz.underlying36 (by kernel_rfl) rfl ⟨rfl, below_row HB.out (by omega) _⟩

set_option maxRecDepth 100000 in
set_option maxHeartbeats 1000000 in
theorem refBare_n (T : ByteArray) (u : Nat) (A : Option Addr) (n c : Nat) (W : World) :
    Calls Tryz.prog 11 #[.int .u8 110, .agg #[.string T, .int .u64 ((u : Nat) : Int), .slice A n c]] W fun e W' => e = .returned (.agg #[.string ⟨#[]⟩, .int .u64 ((u : Nat) : Int), .slice none 0 0]) ∧ Below W.heap.size W W' := by
  have hn : Blk ((W.alloc (.cells #[.string T, .int .u64 ((u : Nat) : Int), .slice A n c] 36)).alloc (.cells #[.string ⟨#[]⟩, .int .u64 0, .slice none 0 0] 36)) (W.heap.size + 1) 36 zF := by
    have := Blk.new (cs := zF) (W.alloc (.cells #[.string T, .int .u64 ((u : Nat) : Int), .slice A n c] 36)) 36 _ rfl
    rw [World.size_alloc] at this
    exact this
  have hb : Below W.heap.size W ((W.alloc (.cells #[.string T, .int .u64 ((u : Nat) : Int), .slice A n c] 36)).alloc (.cells #[.string ⟨#[]⟩, .int .u64 0, .slice none 0 0] 36)) := ((Below.refl _ W).alloc (Nat.le_refl _) _).alloc (by simp) _
  have HB := Lib.hid hb
  have HNN := Lib.hid hn
  clear hb
  go_enter Tryz.func11, Tryz.ntmps11
  go_wp2_with (refine st_blk rfl 36 _ _ rfl (W.heap.size + 1) [.string ⟨#[]⟩, .int .u64 ((u : Nat) : Int), .slice none 0 0] rfl rfl 36 zF hn (by kernel_rfl) rfl (by simp [Value.oneCell']) ?_)
  exact ret_cell_one rfl (W.heap.size + 1) 36 [.string ⟨#[]⟩, .int .u64 ((u : Nat) : Int), .slice none 0 0] rfl (HNN.out.row _) _ Tryz.underlying36 (by kernel_rfl) rfl ⟨rfl, below_row HB.out (by omega) _⟩

set_option maxRecDepth 100000 in
set_option maxHeartbeats 1000000 in
theorem refBare_s (T : ByteArray) (u : Nat) (A : Option Addr) (n c : Nat) (W : World) :
    Calls Tryz.prog 11 #[.int .u8 115, .agg #[.string T, .int .u64 ((u : Nat) : Int), .slice A n c]] W fun e W' => e = .returned (.agg #[.string ⟨#[]⟩, .int .u64 ((u : Nat) : Int), .slice none 0 0]) ∧ Below W.heap.size W W' := by
  have hn : Blk ((W.alloc (.cells #[.string T, .int .u64 ((u : Nat) : Int), .slice A n c] 36)).alloc (.cells #[.string ⟨#[]⟩, .int .u64 0, .slice none 0 0] 36)) (W.heap.size + 1) 36 zF := by
    have := Blk.new (cs := zF) (W.alloc (.cells #[.string T, .int .u64 ((u : Nat) : Int), .slice A n c] 36)) 36 _ rfl
    rw [World.size_alloc] at this
    exact this
  have hb : Below W.heap.size W ((W.alloc (.cells #[.string T, .int .u64 ((u : Nat) : Int), .slice A n c] 36)).alloc (.cells #[.string ⟨#[]⟩, .int .u64 0, .slice none 0 0] 36)) := ((Below.refl _ W).alloc (Nat.le_refl _) _).alloc (by simp) _
  have HB := Lib.hid hb
  have HNN := Lib.hid hn
  clear hb
  go_enter Tryz.func11, Tryz.ntmps11
  go_wp2_with (refine st_blk rfl 36 _ _ rfl (W.heap.size + 1) [.string ⟨#[]⟩, .int .u64 ((u : Nat) : Int), .slice none 0 0] rfl rfl 36 zF hn (by kernel_rfl) rfl (by simp [Value.oneCell']) ?_)
  exact ret_cell_one rfl (W.heap.size + 1) 36 [.string ⟨#[]⟩, .int .u64 ((u : Nat) : Int), .slice none 0 0] rfl (HNN.out.row _) _ Tryz.underlying36 (by kernel_rfl) rfl ⟨rfl, below_row HB.out (by omega) _⟩

set_option maxRecDepth 100000 in
set_option maxHeartbeats 1000000 in
theorem refBare_o (x : UInt8) (h1 : x ≠ 116) (h2 : x ≠ 104) (h3 : x ≠ 110) (h4 : x ≠ 115) (T : ByteArray) (u : Nat) (A : Option Addr) (n c : Nat) (W : World) :
    Calls Tryz.prog 11 #[.int .u8 ((x.toNat : Nat) : Int), .agg #[.string T, .int .u64 ((u : Nat) : Int), .slice A n c]] W fun e W' => e = .returned (.agg #[.string ⟨#[]⟩, .int .u64 0, .slice A n c]) ∧ Below W.heap.size W W' := by
  have d1 : (((x.toNat : Nat) : Int) == 116) = false := by have := u8_ne x 116 h1; simpa [bne] using this
  have d2 : (((x.toNat : Nat) : Int) == 104) = false := by have := u8_ne x 104 h2; simpa [bne] using this
  have d3 : (((x.toNat : Nat) : Int) == 110) = false := by have := u8_ne x 110 h3; simpa [bne] using this
  have d4 : (((x.toNat : Nat) : Int) == 115) = false := by have := u8_ne x 115 h4; simpa [bne] using this
  clear h1 h2 h3 h4
  have hn : Blk ((W.alloc (.cells #[.string T, .int .u64 ((u : Nat) : Int), .slice A n c] 36)).alloc (.cells #[.string ⟨#[]⟩, .int .u64 0, .slice none 0 0] 36)) (W.heap.size + 1) 36 zF := by
    have := Blk.new (cs := zF) (W.alloc (.cells #[.string T, .int .u64 ((u : Nat) : Int), .slice A n c] 36)) 36 _ rfl
    rw [World.size_alloc] at this
    exact this
  have hb : Below W.heap.size W ((W.alloc (.cells #[.string T, .int .u64 ((u : Nat) : Int), .slice A n c] 36)).alloc (.cells #[.string ⟨#[]⟩, .int .u64 0, .slice none 0 0] 36)) := ((Below.refl _ W).alloc (Nat.le_refl _) _).alloc (by simp) _
  have HB := Lib.hid hb
  have HNN := Lib.hid hn
  clear hb
  go_enter Tryz.func11, Tryz.ntmps11
  go_wp2_with (refine st_blk rfl 36 _ _ rfl (W.heap.size + 1) [.string ⟨#[]⟩, .int .u64 0, .slice A n c] rfl rfl 36 zF hn (by kernel_rfl) rfl (by simp [Value.oneCell']) ?_)
  exact ret_cell_one rfl (W.heap.size + 1) 36 [.string ⟨#[]⟩, .int .u64 0, .slice A n c] rfl (HNN.out.row _) _ Tryz.underlying36 (by kernel_rfl) rfl ⟨rfl, below_row HB.out (by omega) _⟩

/-- A field with just what its sign names. -/
theorem refBare_any (c : UInt8) (f : Fd) (v : Value) (W : World) (hv : FdV W W.heap.size v f) :
    Calls Tryz.prog 11 #[.int .u8 ((c.toNat : Nat) : Int), v] W (BarePost c f W) := by
  obtain ⟨A, n, cc, rfl, hl, hr⟩ := hv
  have hpost : ∀ (v : Value) (g : Fd), bareF c f = g → FdV W W.heap.size v g → ∀ e W', e = .returned v ∧ Below W.heap.size W W' → BarePost c f W e W' := by
    rintro v g hg hv e W' ⟨rfl, hb⟩
    exact ⟨v, rfl, by rw [hg]; exact (hv.below hb).more hb.size, hb⟩
  by_cases h1 : c = 116
  · subst h1
    exact (refBare_t _ f.n A n cc W).mono (hpost _ ⟨f.text, 0, []⟩ rfl (fdV_bare ⟨f.text.toArray⟩ _ rfl 0))
  by_cases h2 : c = 104
  · subst h2
    exact (refBare_h _ f.n A n cc W).mono (hpost _ ⟨f.text, 0, []⟩ rfl (fdV_bare ⟨f.text.toArray⟩ _ rfl 0))
  by_cases h3 : c = 110
  · subst h3
    exact (refBare_n ⟨f.text.toArray⟩ f.n A n cc W).mono (hpost _ ⟨[], f.n, []⟩ rfl (fdV_bare ⟨#[]⟩ _ rfl f.n))
  by_cases h4 : c = 115
  · subst h4
    exact (refBare_s ⟨f.text.toArray⟩ f.n A n cc W).mono (hpost _ ⟨[], f.n, []⟩ rfl (fdV_bare ⟨#[]⟩ _ rfl f.n))
  refine (refBare_o c h1 h2 h3 h4 ⟨f.text.toArray⟩ f.n A n cc W).mono (hpost _ ⟨[], 0, f.data⟩ ?_ ⟨A, n, cc, rfl, hl, hr⟩)
  unfold bareF
  rw [if_neg (by simp [h1, h2]), if_neg (by simp [h3, h4])]

end Go.Proofs.YtpjjmnkiepdllaaGreatDoor
