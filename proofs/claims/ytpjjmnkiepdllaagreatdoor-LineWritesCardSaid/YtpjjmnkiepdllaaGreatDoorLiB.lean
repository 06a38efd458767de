/-
  Package line: the field of a word, by a sign.
-/
import Derived.Test.YtpjjmnkiepdllaaGreatDoorLiA
import Derived.Test.YtpjjmnkiepdllaaGreatDoorNaL
import Derived.Test.YtpjjmnkiepdllaaGreatDoorRow
namespace Go.Proofs.YtpjjmnkiepdllaaGreatDoor
open Go.RowKit
set_option linter.unusedVariables false
set_option linter.unusedSimpArgs false

/-- The value of a field: its text, its number, a slice that reads as its bytes. -/
def FdV (w : World) (B : Nat) (v : Value) (f : Fd) : Prop :=
  ∃ A n c, v = .agg #[.string ⟨f.text.toArray⟩, .int .u64 ((f.n : Nat) : Int), .slice A n c] ∧ Byt w B A n f.data ∧ (A = none → n = 0 ∧ c = 0) ∧ n ≤ c ∧ c ≤ maxLen
theorem FdV.below {w w' : World} {B : Nat} {v : Value} {f : Fd} (h : FdV w B v f) (hb : Below B w w') : FdV w' B v f := by
  obtain ⟨A, n, c, h1, h2, h3⟩ := h
  exact ⟨A, n, c, h1, h2.below hb, h3⟩
theorem FdV.more {w : World} {B B' : Nat} {v : Value} {f : Fd} (h : FdV w B v f) (hb : B ≤ B') : FdV w B' v f := by
  obtain ⟨A, n, c, h1, h2, h3⟩ := h
  exact ⟨A, n, c, h1, h2.more hb, h3⟩
theorem fdV_bare {w : World} {B : Nat} (s : ByteArray) (t : List UInt8) (h : s.data.toList = t) (n : Nat) : FdV w B (.agg #[.string s, .int .u64 ((n : Nat) : Int), .slice none 0 0]) ⟨t, n, []⟩ := by
  subst h
  exact ⟨none, 0, 0, rfl, Byt.nil, fun _ => ⟨rfl, rfl⟩, Nat.le_refl _, Nat.zero_le _⟩

/-- An empty field's cells. -/
def zF : List Value := [.string ⟨#[]⟩, .int .u64 0, .slice none 0 0]

set_option maxRecDepth 100000 in
set_option maxHeartbeats 1000000 in
theorem readName_yes (f : FuncId) (he : ∀ args w, (callFunc f args).run Tryz.prog w = .ok (.enter f args) w) (s : ByteArray)
    (hp : ∀ w : World, Calls Tryz.prog f #[.string s] w fun e w' => e = .returned (.bool true) ∧ Below w.heap.size w w') (W : World) :
    Calls Tryz.prog 36 #[.string s, .func (.func f) #[] #[]] W fun e W' => e = .returned (.tuple #[.agg #[.string s, .int .u64 0, .slice none 0 0], .int .i64 0]) ∧ Below W.heap.size W W' := by
  go_enter Tryz.func36, Tryz.ntmps36
  go_wp2_with fail
  refine (hp _).mono ?_
  rintro e W1 ⟨rfl, hb1⟩
  have hn := (Blk.new (cs := zF) W 36 _ rfl).below hb1 (by simp)
  have hb : Below W.heap.size W W1 := ((Below.refl _ W).alloc (Nat.le_refl _) _).trans (hb1.mono (by simp))
  clear hb1 hp
  go_wp2_with (refine st_blk rfl 36 _ _ rfl W.heap.size [.string s, .int .u64 0, .slice none 0 0] rfl rfl 36 zF hn (by kernel_rfl) rfl (by simp [Value.oneCell']) ?_)
  exact ret_cell_tmp rfl W.heap.size 36 [.string s, .int .u64 0, .slice none 0 0] rfl (hn.row _) _ Tryz.underlying36 (by kernel_rfl) _ rfl rfl ⟨rfl, below_row hb (Nat.le_refl _) _⟩

set_option maxRecDepth 100000 in
set_option maxHeartbeats 1000000 in
theorem readName_no (f : FuncId) (he : ∀ args w, (callFunc f args).run Tryz.prog w = .ok (.enter f args) w) (s : ByteArray)
    (hp : ∀ w : World, Calls Tryz.prog f #[.string s] w fun e w' => e = .returned (.bool false) ∧ Below w.heap.size w w') (W : World) :
    Calls Tryz.prog 36 #[.string s, .func (.func f) #[] #[]] W fun e W' => e = .returned (.tuple #[.agg #[.string ⟨#[]⟩, .int .u64 0, .slice none 0 0], .int .i64 2]) ∧ Below W.heap.size W W' := by
  go_enter Tryz.func36, Tryz.ntmps36
  go_wp2_with fail
  refine (hp _).mono ?_
  rintro e W1 ⟨rfl, hb1⟩
  have hn := (Blk.new (cs := zF) W 36 _ rfl).below hb1 (by simp)
  have hb : Below W.heap.size W W1 := ((Below.refl _ W).alloc (Nat.le_refl _) _).trans (hb1.mono (by simp))
  clear hb1 hp
  go_wp2_with (refine st_blk rfl 36 _ _ rfl W.heap.size [.string ⟨#[]⟩, .int .u64 0, .slice none 0 0] rfl rfl 36 zF hn (by kernel_rfl) rfl (by simp [Value.oneCell']) ?_)
  exact ret_cell_tmp rfl W.heap.size 36 [.string ⟨#[]⟩, .int .u64 0, .slice none 0 0] rfl (hn.row _) _ Tryz.underlying36 (by kernel_rfl) _ rfl rfl ⟨rfl, below_row hb (Nat.le_refl _) _⟩

set_option maxRecDepth 100000 in
set_option maxHeartbeats 1000000 in
theorem readNumber_in (s : ByteArray) (m : Int) (hs : s.size ≤ 10000) (W : World) (hN : NV W) (h : numE s.data.toList = 0 → ¬ m < ((numV s.data.toList : Nat) : Int)) :
    Calls Tryz.prog 39 #[.string s, .int .u64 m] W fun e W' => e = .returned (.tuple #[.agg #[.string ⟨#[]⟩, .int .u64 ((numV s.data.toList : Nat) : Int), .slice none 0 0], .int .i64 (numE s.data.toList)]) ∧ Below W.heap.size W W' := by
  have hnum := fun w h => number_any s hs w h
  generalize numE s.data.toList = e0 at h hnum ⊢
  generalize numV s.data.toList = V at h hnum ⊢
  have hN1 := fun o => hN.below ((Below.refl _ W).alloc (Nat.le_refl _) o)
  go_enter Tryz.func39, Tryz.ntmps39
  go_wp2_with fail
  refine (hnum _ (hN1 _)).mono ?_
  rintro e W1 ⟨rfl, hb1⟩
  have hn := (Blk.new (cs := zF) W 36 _ rfl).below hb1 (by simp)
  have hb : Below W.heap.size W W1 := ((Below.refl _ W).alloc (Nat.le_refl _) _).trans (hb1.mono (by simp))
  clear hb1 hnum hN1 hN
  by_cases he : e0 = 0
  · subst he
    have d1 : decide (m < ((V : Nat) : Int)) = false := decide_eq_false (by have := h rfl; omega)
    clear h
    go_wp2_with (refine st_blk rfl 36 _ _ rfl W.heap.size [.string ⟨#[]⟩, .int .u64 ((V : Nat) : Int), .slice none 0 0] rfl rfl 36 zF hn (by kernel_rfl) rfl (by simp [Value.oneCell']) ?_)
    exact ret_cell_tmp rfl W.heap.size 36 [.string ⟨#[]⟩, .int .u64 ((V : Nat) : Int), .slice none 0 0] rfl (hn.row _) _ Tryz.underlying36 (by kernel_rfl) _ rfl rfl ⟨rfl, below_row hb (Nat.le_refl _) _⟩
  · have d1 : (e0 == 0) = false := by simpa using he
    clear h he
    go_wp2_with (refine st_blk rfl 36 _ _ rfl W.heap.size [.string ⟨#[]⟩, .int .u64 ((V : Nat) : Int), .slice none 0 0] rfl rfl 36 zF hn (by kernel_rfl) rfl (by simp [Value.oneCell']) ?_)
    exact ret_cell_tmp rfl W.heap.size 36 [.string ⟨#[]⟩, .int .u64 ((V : Nat) : Int), .slice none 0 0] rfl (hn.row _) _ Tryz.underlying36 (by kernel_rfl) _ rfl rfl ⟨rfl, below_row hb (Nat.le_refl _) _⟩

set_option maxRecDepth 100000 in
set_option maxHeartbeats 1000000 in
theorem readNumber_over (s : ByteArray) (m : Int) (hs : s.size ≤ 10000) (W : World) (hN : NV W) (h0 : numE s.data.toList = 0) (h : m < ((numV s.data.toList : Nat) : Int)) :
    Calls Tryz.prog 39 #[.string s, .int .u64 m] W fun e W' => e = .returned (.tuple #[.agg #[.string ⟨#[]⟩, .int .u64 0, .slice none 0 0], .int .i64 6]) ∧ Below W.heap.size W W' := by
  have hnum := fun w h => number_any s hs w h
  rw [h0] at hnum
  generalize numV s.data.toList = V at h hnum ⊢
  clear h0
  have hN1 := fun o => hN.below ((Below.refl _ W).alloc (Nat.le_refl _) o)
  go_enter Tryz.func39, Tryz.ntmps39
  go_wp2_with fail
  refine (hnum _ (hN1 _)).mono ?_
  rintro e W1 ⟨rfl, hb1⟩
  have hn := (Blk.new (cs := zF) W 36 _ rfl).below hb1 (by simp)
  have hb : Below W.heap.size W W1 := ((Below.refl _ W).alloc (Nat.le_refl _) _).trans (hb1.mono (by simp))
  clear hb1 hnum hN1 hN
  have d1 : decide (m < ((V : Nat) : Int)) = true := decide_eq_true h
  clear h
  go_wp2_with (refine st_blk rfl 36 _ _ rfl W.heap.size [.string ⟨#[]⟩, .int .u64 0, .slice none 0 0] rfl rfl 36 zF hn (by kernel_rfl) rfl (by simp [Value.oneCell']) ?_)
  exact ret_cell_tmp rfl W.heap.size 36 [.string ⟨#[]⟩, .int .u64 0, .slice none 0 0] rfl (hn.row _) _ Tryz.underlying36 (by kernel_rfl) _ rfl rfl ⟨rfl, below_row hb (Nat.le_refl _) _⟩

/-- A field's bytes lie in a block from B on. -/
def NewV (B : Nat) (v : Value) : Prop := ∀ (x y : Value) (a : Addr) (n c : Nat), v = .agg #[x, y, .slice (some a) n c] → B ≤ a.block
theorem newV_none (B : Nat) (x y : Value) (n c : Nat) : NewV B (.agg #[x, y, .slice none n c]) := by
  intro x' y' a n' c' h
  simp at h
theorem newV_own {w : World} {base : Nat} {e : TypeId} {n c m : Nat} {A : Option Addr} {xs : List Value} (h : w.ownsRow base e 1 (.slice A n c) m xs) (x y : Value) : NewV base (.agg #[x, y, .slice A n c]) := by
  intro x' y' a n' c' e'
  obtain ⟨_, _, rfl, _, _⟩ : x = x' ∧ y = y' ∧ A = some a ∧ n = n' ∧ c = c' := by simpa using e'
  exact (h.lt a.block rfl).1
theorem NewV.mono {B B' : Nat} {v : Value} (h : NewV B v) (hB : B' ≤ B) : NewV B' v := fun x y a n c e => Nat.le_trans hB (h x y a n c e)
/-- What the field of a word is behind a call. -/
def ReadPost (c : UInt8) (t : List UInt8) (W : World) (e : Ending) (W' : World) : Prop :=
  ∃ v, e = .returned (.tuple #[v, .int .i64 (signE c t)]) ∧ (∃ f, FdV W' W'.heap.size v f ∧ (signE c t = 0 → f = readF c t)) ∧ NewV W.heap.size v ∧ Below W.heap.size W W'
theorem readPost_bare {c : UInt8} {t : List UInt8} {W W' : World} (s : ByteArray) (n : Nat) (x : Int) (hx : signE c t = x) (hf : x = 0 → (⟨s.data.toList, n, []⟩ : Fd) = readF c t) (hb : Below W.heap.size W W') :
    ReadPost c t W (.returned (.tuple #[.agg #[.string s, .int .u64 ((n : Nat) : Int), .slice none 0 0], .int .i64 x])) W' := by
  subst hx
  exact ⟨_, rfl, ⟨_, fdV_bare s _ rfl n, hf⟩, newV_none _ _ _ _ _, hb⟩
theorem smallE_in (l : List UInt8) (h : numE l = 0 → ¬ (2147483647 : Int) < ((numV l : Nat) : Int)) : signE 115 l = numE l := by
  show smallE l = _
  unfold smallE
  by_cases h0 : numE l = 0
  · rw [if_pos h0, if_neg (by have := h h0; omega), h0]
  · rw [if_neg h0]
theorem numV_max (l : List UInt8) : numV l ≤ 18446744073709551615 := by
  unfold numV
  split
  · split
    · assumption
    · omega
  · omega

theorem enters_nameTenant : ∀ args w, (callFunc 37 args).run Tryz.prog w = .ok (.enter 37 args) w := enters_of Tryz.func37 (by kernel_rfl) rfl

theorem enters_nameTarget : ∀ args w, (callFunc 38 args).run Tryz.prog w = .ok (.enter 38 args) w := enters_of Tryz.func38 (by kernel_rfl) rfl

set_option maxRecDepth 100000 in
set_option maxHeartbeats 1000000 in
theorem read_t_yes (s : ByteArray) (hs : s.size ≤ 10000) (W : World) (hN : NV W) (h : tenantB s.data.toList = true) :
    Calls Tryz.prog 20 #[.int .i32 116, .string s] W (ReadPost 116 s.data.toList W) := by
  have hC := fun w => readName_yes 37 enters_nameTenant s (fun w => (by have := tenant_any s (by unfold maxLen; omega) w; rw [h] at this; exact this)) w
  go_enter Tryz.func20, Tryz.ntmps20
  go_wp2_with fail
  refine (hC _).mono ?_
  rintro e W1 ⟨rfl, hb1⟩
  have hn := (Blk.new (cs := zF) W 36 _ rfl).below hb1 (by simp)
  have hb : Below W.heap.size W W1 := ((Below.refl _ W).alloc (Nat.le_refl _) _).trans (hb1.mono (by simp))
  clear hb1 hC
  go_wp2_with (refine st_blk rfl 36 _ _ rfl W.heap.size [.string s, .int .u64 0, .slice none 0 0] rfl rfl 36 zF hn (by kernel_rfl) rfl (by simp [Value.oneCell']) ?_)
  exact ret_cell_tmp rfl W.heap.size 36 [.string s, .int .u64 0, .slice none 0 0] rfl (hn.row _) _ Tryz.underlying36 (by kernel_rfl) _ rfl rfl (readPost_bare s 0 0 (by show (if tenantB s.data.toList then (0 : Int) else 2) = 0; rw [h]; rfl) (fun _ => rfl) (below_row hb (Nat.le_refl _) _))

set_option maxRecDepth 100000 in
set_option maxHeartbeats 1000000 in
theorem read_t_no (s : ByteArray) (hs : s.size ≤ 10000) (W : World) (hN : NV W) (h : tenantB s.data.toList = false) :
    Calls Tryz.prog 20 #[.int .i32 116, .string s] W (ReadPost 116 s.data.toList W) := by
  have hC := fun w => readName_no 37 enters_nameTenant s (fun w => (by have := tenant_any s (by unfold maxLen; omega) w; rw [h] at this; exact this)) w
  go_enter Tryz.func20, Tryz.ntmps20
  go_wp2_with fail
  refine (hC _).mono ?_
  rintro e W1 ⟨rfl, hb1⟩
  have hn := (Blk.new (cs := zF) W 36 _ rfl).below hb1 (by simp)
  have hb : Below W.heap.size W W1 := ((Below.refl _ W).alloc (Nat.le_refl _) _).trans (hb1.mono (by simp))
  clear hb1 hC
  go_wp2_with (refine st_blk rfl 36 _ _ rfl W.heap.size [.string ⟨#[]⟩, .int .u64 0, .slice none 0 0] rfl rfl 36 zF hn (by kernel_rfl) rfl (by simp [Value.oneCell']) ?_)
  exact ret_cell_tmp rfl W.heap.size 36 [.string ⟨#[]⟩, .int .u64 0, .slice none 0 0] rfl (hn.row _) _ Tryz.underlying36 (by kernel_rfl) _ rfl rfl (readPost_bare ⟨#[]⟩ 0 2 (by show (if tenantB s.data.toList then (0 : Int) else 2) = 2; rw [h]; rfl) (fun h => absurd h (by decide)) (below_row hb (Nat.le_refl _) _))

set_option maxRecDepth 100000 in
set_option maxHeartbeats 1000000 in
theorem read_h_yes (s : ByteArray) (hs : s.size ≤ 10000) (W : World) (hN : NV W) (h : targetB s.data.toList = true) :
    Calls Tryz.prog 20 #[.int .i32 104, .string s] W (ReadPost 104 s.data.toList W) := by
  have hC := fun w => readName_yes 38 enters_nameTarget s (fun w => (by have := target_any s (by unfold maxLen; omega) w; rw [h] at this; exact this)) w
  go_enter Tryz.func20, Tryz.ntmps20
  go_wp2_with fail
  refine (hC _).mono ?_
  rintro e W1 ⟨rfl, hb1⟩
  have hn := (Blk.new (cs := zF) W 36 _ rfl).below hb1 (by simp)
  have hb : Below W.heap.size W W1 := ((Below.refl _ W).alloc (Nat.le_refl _) _).trans (hb1.mono (by simp))
  clear hb1 hC
  go_wp2_with (refine st_blk rfl 36 _ _ rfl W.heap.size [.string s, .int .u64 0, .slice none 0 0] rfl rfl 36 zF hn (by kernel_rfl) rfl (by simp [Value.oneCell']) ?_)
  exact ret_cell_tmp rfl W.heap.size 36 [.string s, .int .u64 0, .slice none 0 0] rfl (hn.row _) _ Tryz.underlying36 (by kernel_rfl) _ rfl rfl (readPost_bare s 0 0 (by show (if targetB s.data.toList then (0 : Int) else 2) = 0; rw [h]; rfl) (fun _ => rfl) (below_row hb (Nat.le_refl _) _))

set_option maxRecDepth 100000 in
set_option maxHeartbeats 1000000 in
theorem read_h_no (s : ByteArray) (hs : s.size ≤ 10000) (W : World) (hN : NV W) (h : targetB s.data.toList = false) :
    Calls Tryz.prog 20 #[.int .i32 104, .string s] W (ReadPost 104 s.data.toList W) := by
  have hC := fun w => readName_no 38 enters_nameTarget s (fun w => (by have := target_any s (by unfold maxLen; omega) w; rw [h] at this; exact this)) w
  go_enter Tryz.func20, Tryz.ntmps20
  go_wp2_with fail
  refine (hC _).mono ?_
  rintro e W1 ⟨rfl, hb1⟩
  have hn := (Blk.new (cs := zF) W 36 _ rfl).below hb1 (by simp)
  have hb : Below W.heap.size W W1 := ((Below.refl _ W).alloc (Nat.le_refl _) _).trans (hb1.mono (by simp))
  clear hb1 hC
  go_wp2_with (refine st_blk rfl 36 _ _ rfl W.heap.size [.string ⟨#[]⟩, .int .u64 0, .slice none 0 0] rfl rfl 36 zF hn (by kernel_rfl) rfl (by simp [Value.oneCell']) ?_)
  exact ret_cell_tmp rfl W.heap.size 36 [.string ⟨#[]⟩, .int .u64 0, .slice none 0 0] rfl (hn.row _) _ Tryz.underlying36 (by kernel_rfl) _ rfl rfl (readPost_bare ⟨#[]⟩ 0 2 (by show (if targetB s.data.toList then (0 : Int) else 2) = 2; rw [h]; rfl) (fun h => absurd h (by decide)) (below_row hb (Nat.le_refl _) _))

set_option maxRecDepth 100000 in
set_option maxHeartbeats 1000000 in
theorem read_n (s : ByteArray) (hs : s.size ≤ 10000) (W : World) (hN : NV W) :
    Calls Tryz.prog 20 #[.int .i32 110, .string s] W (ReadPost 110 s.data.toList W) := by
  have hC := fun w h => readNumber_in s 18446744073709551615 hs w h (fun _ => by have := numV_max s.data.toList; omega)
  have hN1 := fun o => hN.below ((Below.refl _ W).alloc (Nat.le_refl _) o)
  go_enter Tryz.func20, Tryz.ntmps20
  go_wp2_with fail
  refine (hC _ (hN1 _)).mono ?_
  rintro e W1 ⟨rfl, hb1⟩
  have hn := (Blk.new (cs := zF) W 36 _ rfl).below hb1 (by simp)
  have hb : Below W.heap.size W W1 := ((Below.refl _ W).alloc (Nat.le_refl _) _).trans (hb1.mono (by simp))
  clear hb1 hC hN1 hN
  go_wp2_with (refine st_blk rfl 36 _ _ rfl W.heap.size [.string ⟨#[]⟩, .int .u64 ((numV s.data.toList : Nat) : Int), .slice none 0 0] rfl rfl 36 zF hn (by kernel_rfl) rfl (by simp [Value.oneCell']) ?_)
  exact ret_cell_tmp rfl W.heap.size 36 [.string ⟨#[]⟩, .int .u64 ((numV s.data.toList : Nat) : Int), .slice none 0 0] rfl (hn.row _) _ Tryz.underlying36 (by kernel_rfl) _ rfl rfl (readPost_bare ⟨#[]⟩ (numV s.data.toList) (numE s.data.toList) rfl (fun _ => rfl) (below_row hb (Nat.le_refl _) _))

set_option maxRecDepth 100000 in
set_option maxHeartbeats 1000000 in
theorem read_s_in (s : ByteArray) (hs : s.size ≤ 10000) (W : World) (hN : NV W) (h : numE s.data.toList = 0 → ¬ (2147483647 : Int) < ((numV s.data.toList : Nat) : Int)) :
    Calls Tryz.prog 20 #[.int .i32 115, .string s] W (ReadPost 115 s.data.toList W) := by
  have hC := fun w hw => readNumber_in s 2147483647 hs w hw h
  have hN1 := fun o => hN.below ((Below.refl _ W).alloc (Nat.le_refl _) o)
  go_enter Tryz.func20, Tryz.ntmps20
  go_wp2_with fail
  refine (hC _ (hN1 _)).mono ?_
  rintro e W1 ⟨rfl, hb1⟩
  have hn := (Blk.new (cs := zF) W 36 _ rfl).below hb1 (by simp)
  have hb : Below W.heap.size W W1 := ((Below.refl _ W).alloc (Nat.le_refl _) _).trans (hb1.mono (by simp))
  clear hb1 hC hN1 hN
  go_wp2_with (refine st_blk rfl 36 _ _ rfl W.heap.size [.string ⟨#[]⟩, .int .u64 ((numV s.data.toList : Nat) : Int), .slice none 0 0] rfl rfl 36 zF hn (by kernel_rfl) rfl (by simp [Value.oneCell']) ?_)
  exact ret_cell_tmp rfl W.heap.size 36 [.string ⟨#[]⟩, .int .u64 ((numV s.data.toList : Nat) : Int), .slice none 0 0] rfl (hn.row _) _ Tryz.underlying36 (by kernel_rfl) _ rfl rfl (readPost_bare ⟨#[]⟩ (numV s.data.toList) (numE s.data.toList) (smallE_in _ (fun h0 => by have := h h0; omega)) (fun _ => rfl) (below_row hb (Nat.le_refl _) _))

set_option maxRecDepth 100000 in
set_option maxHeartbeats 1000000 in
theorem read_s_over (s : ByteArray) (hs : s.size ≤ 10000) (W : World) (hN : NV W) (h0 : numE s.data.toList = 0) (h : (2147483647 : Int) < ((numV s.data.toList : Nat) : Int)) :
    Calls Tryz.prog 20 #[.int .i32 115, .string s] W (ReadPost 115 s.data.toList W) := by
  have hC := fun w hw => readNumber_over s 2147483647 hs w hw h0 h
  have hN1 := fun o => hN.below ((Below.refl _ W).alloc (Nat.le_refl _) o)
  go_enter Tryz.func20, Tryz.ntmps20
  go_wp2_with fail
  refine (hC _ (hN1 _)).mono ?_
  rintro e W1 ⟨rfl, hb1⟩
  have hn := (Blk.new (cs := zF) W 36 _ rfl).below hb1 (by simp)
  have hb : Below W.heap.size W W1 := ((Below.refl _ W).alloc (Nat.le_refl _) _).trans (hb1.mono (by simp))
  clear hb1 hC hN1 hN
  go_wp2_with (refine st_blk rfl 36 _ _ rfl W.heap.size [.string ⟨#[]⟩, .int .u64 0, .slice none 0 0] rfl rfl 36 zF hn (by kernel_rfl) rfl (by simp [Value.oneCell']) ?_)
  exact ret_cell_tmp rfl W.heap.size 36 [.string ⟨#[]⟩, .int .u64 0, .slice none 0 0] rfl (hn.row _) _ Tryz.underlying36 (by kernel_rfl) _ rfl rfl (readPost_bare ⟨#[]⟩ 0 6 (by show smallE s.data.toList = _; unfold smallE; rw [if_pos h0, if_pos (by omega)]) (fun h => absurd h (by decide)) (below_row hb (Nat.le_refl _) _))

set_option maxRecDepth 100000 in
set_option maxHeartbeats 1000000 in
theorem read_b (s : ByteArray) (hs : s.size ≤ 10000) (W : World) :
    Calls Tryz.prog 20 #[.int .i32 98, .string s] W (ReadPost 98 s.data.toList W) := by
  have hC := fun w => nbytes_any s hs w
  have hE : Hid (bytesE s.data.toList = signE 98 s.data.toList) := Lib.hid rfl
  generalize bytesE s.data.toList = x at hC hE
  go_enter Tryz.func20, Tryz.ntmps20
  go_wp2_with fail
  refine (hC _).mono ?_
  rintro e W1 ⟨A, n, c, rfl, hown, hb1⟩
  have hn := (Blk.new (cs := zF) W 36 _ rfl).below hb1 (by simp)
  have hb : Below W.heap.size W W1 := ((Below.refl _ W).alloc (Nat.le_refl _) _).trans (hb1.mono (by simp))
  have HO := Lib.hid hown
  clear hb1 hC hown
  go_wp2_with (refine st_blk rfl 36 _ _ rfl W.heap.size [.string ⟨#[]⟩, .int .u64 0, .slice A n c] rfl rfl 36 zF hn (by kernel_rfl) rfl (by simp [Value.oneCell']) ?_)
  refine ret_cell_tmp rfl W.heap.size 36 [.string ⟨#[]⟩, .int .u64 0, .slice A n c] rfl (hn.row _) _ Tryz.underlying36 (by kernel_rfl) _ rfl rfl ?_
  have ho := own_setRow HO.out (g := W.heap.size) (by simp) [Value.string ⟨#[]⟩, .int .u64 0, .slice A n c].toArray
  obtain ⟨A2, c2, e2, h1, h2, h3⟩ := own_form ho
  cases e2
  refine ⟨_, by rw [hE.out]; rfl, ⟨⟨[], 0, bytesL s.data.toList⟩, ⟨A, n, c, rfl, Byt.of_own ho, h1, h2, h3⟩, fun _ => rfl⟩, (newV_own ho _ _).mono (by simp), below_row hb (Nat.le_refl _) _⟩

/-- The field of a word, by any sign. -/
theorem read_any (c : UInt8) (hc : sgB c = true) (s : ByteArray) (hs : s.size ≤ 10000) (W : World) (hN : NV W) :
    Calls Tryz.prog 20 #[.int .i32 ((c.toNat : Nat) : Int), .string s] W (ReadPost c s.data.toList W) := by
  rcases sg_cases c hc with rfl | rfl | rfl | rfl | rfl
  · cases h : tenantB s.data.toList
    · exact read_t_no s hs W hN h
    · exact read_t_yes s hs W hN h
  · cases h : targetB s.data.toList
    · exact read_h_no s hs W hN h
    · exact read_h_yes s hs W hN h
  · exact read_n s hs W hN
  · exact read_b s hs W
  · by_cases h : numE s.data.toList = 0 ∧ (2147483647 : Int) < ((numV s.data.toList : Nat) : Int)
    · exact read_s_over s hs W hN h.1 h.2
    · exact read_s_in s hs W hN (fun h0 h1 => h ⟨h0, h1⟩)

end Go.Proofs.YtpjjmnkiepdllaaGreatDoor
