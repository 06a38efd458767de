/-
  Package rec: which fields a kind has; its reference; the function that tells each field.
-/
import Derived.Test.YthjikbhjciphiaaGreatDoorZz18
import Derived.Test.YthjikbhjciphiaaGreatDoorZz6
import Derived.Test.YthjikbhjciphiaaGreatDoorZz7
import Derived.Shelf.Abstract
namespace Go.Proofs.YthjikbhjciphiaaGreatDoor
open Go.RowKit
set_option linter.unusedVariables false
set_option linter.unusedSimpArgs false

theorem dk_drewN {W : World} (h : DK W) (k : Nat) : DK (W.drewN k) := fun i hi => h i hi

theorem dk_below {B : Nat} {W W' : World} (h : DK W) (hb : Below B W W') (hB : W.heap.size ≤ B) : DK W' := by
  intro k hk
  have h1 := h k hk
  have h2 := World.block_lt_of_cell? W _ h1
  exact (hb.cell (p := ⟨4, k, none⟩) (Nat.lt_of_lt_of_le h2 hB)).trans h1

theorem isKind_any (k : Int) (W : World) :
    Calls Tryz.prog 50 #[.int .i64 k] W fun e W' => e = .returned (.bool (isK k)) ∧ W' = W := by
  by_cases h1 : 1 ≤ k
  · by_cases h2 : k ≤ 5
    · rw [show isK k = true by unfold isK; simp; omega]
      go_enter Tryz.func50, Tryz.ntmps50
      go_wp2
      go_ret
      exact ⟨rfl, rfl⟩
    · rw [show isK k = false by unfold isK; simp; omega]
      go_enter Tryz.func50, Tryz.ntmps50
      go_wp2
      go_ret
      exact ⟨rfl, rfl⟩
  · rw [show isK k = false by unfold isK; simp; omega]
    go_enter Tryz.func50, Tryz.ntmps50
    go_wp2
    go_ret
    exact ⟨rfl, rfl⟩

theorem kinds (k : Int) : (k = 1 ∧ kL k = false ∧ kN k = true ∧ kB k = false) ∨ (k = 2 ∧ kL k = false ∧ kN k = false ∧ kB k = true) ∨ (k = 3 ∧ kL k = true ∧ kN k = true ∧ kB k = false) ∨ (k = 4 ∧ kL k = true ∧ kN k = true ∧ kB k = false) ∨ (k ≠ 1 ∧ k ≠ 2 ∧ k ≠ 3 ∧ k ≠ 4 ∧ kL k = false ∧ kN k = false ∧ kB k = false) := by
  by_cases h1 : k = 1
  · subst h1; exact .inl ⟨rfl, rfl, rfl, rfl⟩
  by_cases h2 : k = 2
  · subst h2; exact .inr (.inl ⟨rfl, rfl, rfl, rfl⟩)
  by_cases h3 : k = 3
  · subst h3; exact .inr (.inr (.inl ⟨rfl, rfl, rfl, rfl⟩))
  by_cases h4 : k = 4
  · subst h4; exact .inr (.inr (.inr (.inl ⟨rfl, rfl, rfl, rfl⟩)))
  refine .inr (.inr (.inr (.inr ⟨h1, h2, h3, h4, ?_, ?_, ?_⟩))) <;> simp [kL, kN, kB, h1, h2, h3, h4]

theorem has_any (k : Int) (W : World) :
    Calls Tryz.prog 81 #[.int .i64 k] W fun e W' => e = .returned (.tuple #[.bool (kL k), .bool (kN k), .bool (kB k)]) ∧ W' = W := by
  rcases kinds k with ⟨rfl, h1, h2, h3⟩ | ⟨rfl, h1, h2, h3⟩ | ⟨rfl, h1, h2, h3⟩ | ⟨rfl, h1, h2, h3⟩ | ⟨d1, d2, d3, d4, h1, h2, h3⟩
  · rw [h1, h2, h3]
    clear h1 h2 h3
    go_enter Tryz.func81, Tryz.ntmps81
    go_wp2
    go_ret3
    exact ⟨rfl, rfl⟩
  · rw [h1, h2, h3]
    clear h1 h2 h3
    go_enter Tryz.func81, Tryz.ntmps81
    go_wp2
    go_ret3
    exact ⟨rfl, rfl⟩
  · rw [h1, h2, h3]
    clear h1 h2 h3
    go_enter Tryz.func81, Tryz.ntmps81
    go_wp2
    go_ret3
    exact ⟨rfl, rfl⟩
  · rw [h1, h2, h3]
    clear h1 h2 h3
    go_enter Tryz.func81, Tryz.ntmps81
    go_wp2
    go_ret3
    exact ⟨rfl, rfl⟩
  · rw [h1, h2, h3]
    have e1 : (k == 1) = false := by simpa using d1
    have e2 : (k == 2) = false := by simpa using d2
    have e3 : (k == 3) = false := by simpa using d3
    have e4 : (k == 4) = false := by simpa using d4
    clear h1 h2 h3 d1 d2 d3 d4
    go_enter Tryz.func81, Tryz.ntmps81
    go_wp2
    go_ret3
    exact ⟨rfl, rfl⟩

/-- The letters of a kind's fields. -/
def lettersT (k : Int) : ByteArray := if k = 1 then ⟨#[110]⟩ else if k = 2 then ⟨#[98]⟩ else if k = 3 then ⟨#[108, 110]⟩ else if k = 4 then ⟨#[108, 110]⟩ else ⟨#[]⟩

theorem refLetters_any (k : Int) (W : World) :
    Calls Tryz.prog 86 #[.int .i64 k] W fun e W' => e = .returned (.string (lettersT k)) ∧ Below W.heap.size W W' := by
  by_cases h0 : k < 1
  · rw [show lettersT k = ⟨#[]⟩ by unfold lettersT; rw [if_neg (by omega), if_neg (by omega), if_neg (by omega), if_neg (by omega)]]
    go_enter Tryz.func86, Tryz.ntmps86
    go_wp2
    go_ret
    exact ⟨rfl, (Below.refl _ _).alloc (Nat.le_refl _) _⟩
  by_cases h6 : 5 < k
  · rw [show lettersT k = ⟨#[]⟩ by unfold lettersT; rw [if_neg (by omega), if_neg (by omega), if_neg (by omega), if_neg (by omega)]]
    go_enter Tryz.func86, Tryz.ntmps86
    go_wp2
    go_ret
    exact ⟨rfl, (Below.refl _ _).alloc (Nat.le_refl _) _⟩
  obtain rfl | rfl | rfl | rfl | rfl : k = 1 ∨ k = 2 ∨ k = 3 ∨ k = 4 ∨ k = 5 := by omega
  all_goals
    clear h0 h6
    go_enter Tryz.func86, Tryz.ntmps86
    go_wp2
    go_ret
    exact ⟨rfl, (Below.refl _ _).alloc (Nat.le_refl _) _⟩

set_option maxRecDepth 100000 in
theorem refHasL_any (k : Int) (s : ByteArray) (hk : lettersT k = s) (hs : s.size ≤ 10000) (c : UInt8) (W : World) :
    Calls Tryz.prog 56 #[.int .i64 k, .int .u8 ((c.toNat : Nat) : Int)] W fun e W' => e = .returned (.bool (hasB s.data.toList c)) ∧ Below W.heap.size W W' := by
  have hC := refLetters_any k W
  rw [hk] at hC
  clear hk
  go_enter Tryz.func56, Tryz.ntmps56
  go_wp2_with (go_at_call 86; refine hC.mono ?_; rintro e W1 ⟨rfl, hb⟩)
  go_loop [6] (fun i => ∃ k : Nat, k ≤ s.size ∧ i = .int .i64 k ∧ hasB (s.data.toList.take k) c = false) (fun i => s.size - (intOf i).toNat)
  case atStart => exact ⟨0, Nat.zero_le _, rfl, rfl⟩
  case round =>
    obtain ⟨k, hk, rfl, hno⟩ := hrel
    by_cases hlt : k < s.size
    · have hby := byte_at s k hlt
      obtain ⟨x, hx⟩ : ∃ x, s[k]'hlt = x := ⟨_, rfl⟩
      rw [hx] at hby
      have hst := hasB_take _ k x c hby
      rw [hno, Bool.false_or] at hst
      have HB := beq_byte x c
      cases hxc : (x == c)
      · rw [hxc] at hst HB
        have HS := Lib.hid hst
        clear hst hno hby hxc
        go_wp2
        go_round
        case rel => exact ⟨k + 1, by omega, by go_num, HS.out⟩
        case measure => simp [intOf]; omega
      · rw [hxc] at HB
        have hm : hasB s.data.toList c = true := by
          have : x = c := by simpa using hxc
          subst this
          exact hasB_mem _ _ _ hby
        have HS := Lib.hid hm
        clear hst hno hby hxc hm
        go_wp2
        go_ret
        exact ⟨by rw [HS.out]; rfl, hb⟩
    · have HS := Lib.hid hno
      have hlen : s.data.toList.length ≤ k := by simp; omega
      have HL := Lib.hid hlen
      clear hno hlen
      go_wp2
      go_ret
      refine ⟨?_, hb⟩
      have := HS.out
      rw [List.take_of_length_le HL.out] at this
      rw [this]
      rfl

theorem letters_l (k : Int) : hasB (lettersT k).data.toList 108 = kL k := by
  rcases kinds k with ⟨rfl, h1, h2, h3⟩ | ⟨rfl, h1, h2, h3⟩ | ⟨rfl, h1, h2, h3⟩ | ⟨rfl, h1, h2, h3⟩ | ⟨d1, d2, d3, d4, h1, h2, h3⟩
  · decide
  · decide
  · decide
  · decide
  · rw [h1]; unfold lettersT; rw [if_neg d1, if_neg d2, if_neg d3, if_neg d4]; rfl
theorem letters_n (k : Int) : hasB (lettersT k).data.toList 110 = kN k := by
  rcases kinds k with ⟨rfl, h1, h2, h3⟩ | ⟨rfl, h1, h2, h3⟩ | ⟨rfl, h1, h2, h3⟩ | ⟨rfl, h1, h2, h3⟩ | ⟨d1, d2, d3, d4, h1, h2, h3⟩
  · decide
  · decide
  · decide
  · decide
  · rw [h2]; unfold lettersT; rw [if_neg d1, if_neg d2, if_neg d3, if_neg d4]; rfl
theorem letters_b (k : Int) : hasB (lettersT k).data.toList 98 = kB k := by
  rcases kinds k with ⟨rfl, h1, h2, h3⟩ | ⟨rfl, h1, h2, h3⟩ | ⟨rfl, h1, h2, h3⟩ | ⟨rfl, h1, h2, h3⟩ | ⟨d1, d2, d3, d4, h1, h2, h3⟩
  · decide
  · decide
  · decide
  · decide
  · rw [h3]; unfold lettersT; rw [if_neg d1, if_neg d2, if_neg d3, if_neg d4]; rfl
theorem letters_size (k : Int) : (lettersT k).size ≤ 10000 := by
  rcases kinds k with ⟨rfl, h1, h2, h3⟩ | ⟨rfl, h1, h2, h3⟩ | ⟨rfl, h1, h2, h3⟩ | ⟨rfl, h1, h2, h3⟩ | ⟨d1, d2, d3, d4, h1, h2, h3⟩
  · decide
  · decide
  · decide
  · decide
  · unfold lettersT; rw [if_neg d1, if_neg d2, if_neg d3, if_neg d4]; decide

theorem refHas_l (k : Int) (W : World) : Calls Tryz.prog 56 #[.int .i64 k, .int .u8 108] W fun e W' => e = .returned (.bool (kL k)) ∧ Below W.heap.size W W' := by
  rw [← letters_l]
  exact refHasL_any k _ rfl (letters_size k) 108 W
theorem refHas_n (k : Int) (W : World) : Calls Tryz.prog 56 #[.int .i64 k, .int .u8 110] W fun e W' => e = .returned (.bool (kN k)) ∧ Below W.heap.size W W' := by
  rw [← letters_n]
  exact refHasL_any k _ rfl (letters_size k) 110 W
theorem refHas_b (k : Int) (W : World) : Calls Tryz.prog 56 #[.int .i64 k, .int .u8 98] W fun e W' => e = .returned (.bool (kB k)) ∧ Below W.heap.size W W' := by
  rw [← letters_b]
  exact refHasL_any k _ rfl (letters_size k) 98 W

end Go.Proofs.YthjikbhjciphiaaGreatDoor

/-
  Package rec: whether a record's numbers may be, its price may be, it has no field of another kind.
-/
namespace Go.Proofs.YthjikbhjciphiaaGreatDoor
open Go.RowKit
set_option linter.unusedVariables false
set_option linter.unusedSimpArgs false

/-- A record as a value. -/
def rcV (s : Nat) (k : Int) (T : ByteArray) (l n b : Nat) : Value := .agg #[.int .u64 (s : Nat), .int .i64 k, .string T, .int .u64 (l : Nat), .int .u64 (n : Nat), .int .u64 (b : Nat)]
def rcCs (s : Nat) (k : Int) (T : ByteArray) (l n b : Nat) : List Value := [.int .u64 (s : Nat), .int .i64 k, .string T, .int .u64 (l : Nat), .int .u64 (n : Nat), .int .u64 (b : Nat)]

theorem range_cases (s : Nat) (k : Int) (l n : Nat) (t : List UInt8) (b : Nat) :
    (¬ (0 : Int) < (s : Int) ∧ Hid (rcRange ⟨s, k, t, l, n, b⟩ = false)) ∨
    ((0 : Int) < (s : Int) ∧ kL k = true ∧ ¬ (0 : Int) < (l : Int) ∧ Hid (rcRange ⟨s, k, t, l, n, b⟩ = false)) ∨
    ((0 : Int) < (s : Int) ∧ kL k = true ∧ (0 : Int) < (l : Int) ∧ k = 3 ∧ ¬ (0 : Int) < (n : Int) ∧ Hid (rcRange ⟨s, k, t, l, n, b⟩ = false)) ∨
    ((0 : Int) < (s : Int) ∧ kL k = true ∧ (0 : Int) < (l : Int) ∧ k = 3 ∧ (0 : Int) < (n : Int) ∧ Hid (rcRange ⟨s, k, t, l, n, b⟩ = true)) ∨
    ((0 : Int) < (s : Int) ∧ kL k = true ∧ (0 : Int) < (l : Int) ∧ (k != 3) = true ∧ Hid (rcRange ⟨s, k, t, l, n, b⟩ = true)) ∨
    ((0 : Int) < (s : Int) ∧ kL k = false ∧ (k != 3) = true ∧ Hid (rcRange ⟨s, k, t, l, n, b⟩ = true)) := by
  by_cases hs : 0 < s
  · cases hL : kL k
    · have h3 : k ≠ 3 := by intro h; subst h; cases hL
      refine .inr (.inr (.inr (.inr (.inr ⟨by omega, rfl, by simpa using h3, Lib.hid ?_⟩))))
      simp [rcRange, hL, h3]; omega
    · by_cases hl : 0 < l
      · by_cases h3 : k = 3
        · by_cases hn : 0 < n
          · exact .inr (.inr (.inr (.inl ⟨by omega, rfl, by omega, h3, by omega, Lib.hid (by simp [rcRange, hL, h3]; omega)⟩)))
          · exact .inr (.inr (.inl ⟨by omega, rfl, by omega, h3, by omega, Lib.hid (by simp [rcRange, hL, h3]; omega)⟩))
        · exact .inr (.inr (.inr (.inr (.inl ⟨by omega, rfl, by omega, by simpa using h3, Lib.hid (by simp [rcRange, hL, h3]; omega)⟩))))
      · exact .inr (.inl ⟨by omega, rfl, by omega, Lib.hid (by simp [rcRange, hL]; omega)⟩)
  · exact .inl ⟨by omega, Lib.hid (by simp [rcRange]; omega)⟩

set_option maxRecDepth 100000 in
theorem inRange_any (s : Nat) (k : Int) (T : ByteArray) (l n b : Nat) (t : List UInt8) (W : World) :
    Calls Tryz.prog 52 #[rcV s k T l n b] W fun e W' => e = .returned (.bool (rcRange ⟨s, k, t, l, n, b⟩)) ∧ Below W.heap.size W W' := by
  have hH := fun w => has_any k w
  unfold rcV
  rcases range_cases s k l n t b with ⟨h0, HQ⟩ | ⟨h0, h1, h2, HQ⟩ | ⟨h0, h1, h2, h3, h4, HQ⟩ | ⟨h0, h1, h2, h3, h4, HQ⟩ | ⟨h0, h1, h2, h3, HQ⟩ | ⟨h0, h1, h3, HQ⟩
  · rw [HQ.out]
    generalize kL k = q1 at hH
    generalize kN k = q2 at hH
    generalize kB k = q3 at hH
    go_enter Tryz.func52, Tryz.ntmps52
    go_wp2_with (go_at_call 81; refine (hH _).mono ?_; rintro e W1 ⟨rfl, rfl⟩)
    all_goals
      go_ret
      exact ⟨rfl, (Below.refl _ _).alloc (Nat.le_refl _) _⟩
  · rw [HQ.out]
    rw [h1] at hH
    generalize kN k = q2 at hH
    generalize kB k = q3 at hH
    go_enter Tryz.func52, Tryz.ntmps52
    go_wp2_with (go_at_call 81; refine (hH _).mono ?_; rintro e W1 ⟨rfl, rfl⟩)
    all_goals
      go_ret
      exact ⟨rfl, (Below.refl _ _).alloc (Nat.le_refl _) _⟩
  · rw [HQ.out]
    rw [h1] at hH
    have dn : decide (0 < n) = false := by simp; omega
    subst h3
    generalize kN 3 = q2 at hH
    generalize kB 3 = q3 at hH
    go_enter Tryz.func52, Tryz.ntmps52
    go_wp2_with (go_at_call 81; refine (hH _).mono ?_; rintro e W1 ⟨rfl, rfl⟩)
    all_goals
      go_ret
      exact ⟨rfl, (Below.refl _ _).alloc (Nat.le_refl _) _⟩
  · rw [HQ.out]
    rw [h1] at hH
    have dn : decide (0 < n) = true := by simp; omega
    subst h3
    generalize kN 3 = q2 at hH
    generalize kB 3 = q3 at hH
    go_enter Tryz.func52, Tryz.ntmps52
    go_wp2_with (go_at_call 81; refine (hH _).mono ?_; rintro e W1 ⟨rfl, rfl⟩)
    all_goals
      go_ret
      exact ⟨rfl, (Below.refl _ _).alloc (Nat.le_refl _) _⟩
  · rw [HQ.out]
    rw [h1] at hH
    generalize kN k = q2 at hH
    generalize kB k = q3 at hH
    go_enter Tryz.func52, Tryz.ntmps52
    go_wp2_with (go_at_call 81; refine (hH _).mono ?_; rintro e W1 ⟨rfl, rfl⟩)
    all_goals
      go_ret
      exact ⟨rfl, (Below.refl _ _).alloc (Nat.le_refl _) _⟩
  · rw [HQ.out]
    rw [h1] at hH
    generalize kN k = q2 at hH
    generalize kB k = q3 at hH
    go_enter Tryz.func52, Tryz.ntmps52
    go_wp2_with (go_at_call 81; refine (hH _).mono ?_; rintro e W1 ⟨rfl, rfl⟩)
    all_goals
      go_ret
      exact ⟨rfl, (Below.refl _ _).alloc (Nat.le_refl _) _⟩

theorem canon_same (b : Nat) (h : partsIs b = true) : decide (cls b = 4 ∨ cls b = 5) = (((canonV b : Nat) : Int) == ((b : Nat) : Int)) := by
  have h3 : cls b = 3 ∨ cls b = 4 ∨ cls b = 5 := by unfold partsIs at h; simpa using h
  rcases canon_cases b with ⟨c, _⟩ | ⟨c, e⟩ | ⟨c, e⟩
  · omega
  · have hb : b ≠ 0 := by intro h; subst h; rw [cls_zero] at c; omega
    rw [e, c]
    simp
    omega
  · rw [e]
    have : cls b = 4 ∨ cls b = 5 := by omega
    simp [this]

set_option maxRecDepth 100000 in
theorem priced_any (s : Nat) (k : Int) (T : ByteArray) (l n b : Nat) (hb : b < 18446744073709551616) (t : List UInt8) (W : World) (hT : DK W) :
    Calls Tryz.prog 53 #[rcV s k T l n b] W fun e W' => e = .returned (.bool (rcPriced ⟨s, k, t, l, n, b⟩)) ∧ Below W.heap.size W W' := by
  have hH := fun w => has_any k w
  unfold rcV
  generalize kL k = q1 at hH
  generalize kN k = q2 at hH
  cases hB : kB k
  · have HQ := Lib.hid (show rcPriced ⟨s, k, t, l, n, b⟩ = true by simp [rcPriced, hB])
    rw [hB] at hH
    clear hB
    rw [HQ.out]
    go_enter Tryz.func53, Tryz.ntmps53
    go_wp2_with (go_at_call 81; refine (hH _).mono ?_; rintro e W1 ⟨rfl, rfl⟩)
    go_ret
    exact ⟨rfl, (Below.refl _ _).alloc (Nat.le_refl _) _⟩
  · rw [hB] at hH
    have hT1 := fun o => dk_below hT ((Below.refl W.heap.size W).alloc (Nat.le_refl _) o) (Nat.le_refl _)
    cases hp : partsIs b
    · have HQ := Lib.hid (show rcPriced ⟨s, k, t, l, n, b⟩ = false by
        have h3 : ¬ (cls b = 3 ∨ cls b = 4 ∨ cls b = 5) := by unfold partsIs at hp; simpa using hp
        simp [rcPriced, hB]; omega)
      have hC := fun w hw => check_no b hb hp w hw
      clear hB hp
      rw [HQ.out]
      go_enter Tryz.func53, Tryz.ntmps53
      go_wp2_with (first | (go_at_call 81; refine (hH _).mono ?_; rintro e W1 ⟨rfl, rfl⟩) | (go_at_call 82; refine (hC _ (hT1 _)).mono ?_; rintro e W1 ⟨rfl, rfl⟩))
      go_ret
      exact ⟨rfl, (Below.refl _ _).alloc (Nat.le_refl _) _⟩
    · have hcs := canon_same b hp
      have HQ := Lib.hid (show rcPriced ⟨s, k, t, l, n, b⟩ = (((canonV b : Nat) : Int) == ((b : Nat) : Int)) by
        rw [← hcs]; simp [rcPriced, hB])
      have hC := fun w hw => check_yes b hb hp w hw
      clear hB hp hcs
      rw [HQ.out]
      clear HQ
      generalize canonV b = c at hC ⊢
      obtain ⟨q, hq⟩ : ∃ q, ((((c : Nat) : Int) == ((b : Nat) : Int)) : Bool) = q := ⟨_, rfl⟩
      rw [hq]
      cases q
      · go_enter Tryz.func53, Tryz.ntmps53
        go_wp2_with (first | (go_at_call 81; refine (hH _).mono ?_; rintro e W1 ⟨rfl, rfl⟩) | (go_at_call 82; refine (hC _ (hT1 _)).mono ?_; rintro e W1 ⟨rfl, rfl⟩))
        go_ret
        exact ⟨rfl, (Below.refl _ _).alloc (Nat.le_refl _) _⟩
      · go_enter Tryz.func53, Tryz.ntmps53
        go_wp2_with (first | (go_at_call 81; refine (hH _).mono ?_; rintro e W1 ⟨rfl, rfl⟩) | (go_at_call 82; refine (hC _ (hT1 _)).mono ?_; rintro e W1 ⟨rfl, rfl⟩))
        go_ret
        exact ⟨rfl, (Below.refl _ _).alloc (Nat.le_refl _) _⟩

/-- Each field that hangs on the kind is told, one behind the other: I j holds ahead of the j-th call. -/
theorem rfields_any (F : FuncId) (cap : Array Value) (k : Int) (g : Nat) (I0 I1 I2 I3 : World → Prop) (W : World)
    (henter : ∀ args w, (callFunc F args).run Tryz.prog w = .ok (.enter F args) w) (hk : W.cell? ⟨g, 1, none⟩ = some (.int .i64 k)) (h0 : I0 W)
    (c0 : ∀ w, I0 w → Calls Tryz.prog F (#[.bool (kL k), .pointer (some ⟨g, 3, none⟩)] ++ cap) w fun e w' => e = .returned (.tuple #[]) ∧ I1 w')
    (c1 : ∀ w, I1 w → Calls Tryz.prog F (#[.bool (kN k), .pointer (some ⟨g, 4, none⟩)] ++ cap) w fun e w' => e = .returned (.tuple #[]) ∧ I2 w')
    (c2 : ∀ w, I2 w → Calls Tryz.prog F (#[.bool (kB k), .pointer (some ⟨g, 5, none⟩)] ++ cap) w fun e w' => e = .returned (.tuple #[]) ∧ I3 w') :
    Calls Tryz.prog 83 #[.pointer (some ⟨g, 0, none⟩), .func (.func F) #[] cap] W fun e W' => e = .returned (.tuple #[]) ∧ I3 W' := by
  have hH := fun w => has_any k w
  generalize kL k = q1 at hH c0
  generalize kN k = q2 at hH c1
  generalize kB k = q3 at hH c2
  go_enter Tryz.func83, Tryz.ntmps83
  go_wp2_with (go_at_call 81; refine (hH _).mono ?_; rintro e W1 ⟨rfl, rfl⟩)
  refine (c0 _ h0).mono ?_
  rintro e W2 ⟨rfl, h1⟩
  go_wp2_with fail
  refine (c1 _ h1).mono ?_
  rintro e W3 ⟨rfl, h2⟩
  go_wp2_with fail
  refine (c2 _ h2).mono ?_
  rintro e W4 ⟨rfl, h3⟩
  go_wp2_with fail
  go_end0
  exact ⟨rfl, h3⟩

theorem enters_bare : ∀ args w, (callFunc 84 args).run Tryz.prog w = .ok (.enter 84 args) w := enters_of Tryz.func84 (by kernel_rfl) rfl

theorem bareF_any (b h : Bool) (p g i x : Nat) (W : World) (hp : Blk W p 4 [.bool b]) (hx : W.cell? ⟨g, i, none⟩ = some (.int .u64 (x : Nat))) :
    Calls Tryz.prog 84 (#[.bool h, .pointer (some ⟨g, i, none⟩)] ++ #[.pointer (some ⟨p, 0, none⟩)]) W fun e W' => e = .returned (.tuple #[]) ∧ W' = W.setCell ⟨p, 0, none⟩ (.bool (b && (h || decide (x = 0)))) := by
  show Calls Tryz.prog 84 #[.bool h, .pointer (some ⟨g, i, none⟩), .pointer (some ⟨p, 0, none⟩)] W _
  have z0 := hp.cell 0
  have f0 := hp.frozen 0
  simp at z0
  cases b
  · go_enter Tryz.func84, Tryz.ntmps84
    go_wp2
    go_end0
    exact ⟨rfl, rfl⟩
  · cases h
    · by_cases hz : x = 0
      · subst hz
        go_enter Tryz.func84, Tryz.ntmps84
        go_wp2
        go_end0
        exact ⟨rfl, rfl⟩
      · have hq : (((x : Nat) : Int) == 0) = false := by simp; omega
        rw [decide_eq_false hz]
        clear hz
        go_enter Tryz.func84, Tryz.ntmps84
        go_wp2
        go_end0
        exact ⟨rfl, rfl⟩
    · go_enter Tryz.func84, Tryz.ntmps84
      go_wp2
      go_end0
      exact ⟨rfl, rfl⟩

/-- What is kept while the fields are asked. -/
def BareI (W : World) (cs : List Value) (q : Bool) (w : World) : Prop :=
  Blk w W.heap.size 35 cs ∧ Blk w (W.heap.size + 1) 4 [.bool q] ∧ Below W.heap.size W w
theorem BareI.set {W w : World} {cs : List Value} {q : Bool} (h : BareI W cs q w) (q' : Bool) : BareI W cs q' (w.setCell ⟨W.heap.size + 1, 0, none⟩ (.bool q')) :=
  ⟨h.1.other _ _ (by simp), h.2.1.set 0 _, by
    rw [setCell_row h.2.1]
    exact below_row h.2.2 (by omega) _⟩

set_option maxRecDepth 100000 in
theorem bare_any (s : Nat) (k : Int) (T : ByteArray) (l n b : Nat) (t : List UInt8) (W : World) :
    Calls Tryz.prog 54 #[rcV s k T l n b] W fun e W' => e = .returned (.bool (rcBare ⟨s, k, t, l, n, b⟩)) ∧ Below W.heap.size W W' := by
  have HQ := Lib.hid (show rcBare ⟨s, k, t, l, n, b⟩ = (((true && (kL k || decide (l = 0))) && (kN k || decide (n = 0))) && (kB k || decide (b = 0))) from rfl)
  have hF : ∀ w, BareI W (rcCs s k T l n b) true w → Calls Tryz.prog 83 #[.pointer (some ⟨W.heap.size, 0, none⟩), .func (.func 84) #[] #[.pointer (some ⟨W.heap.size + 1, 0, none⟩)]] w fun e w' => e = .returned (.tuple #[]) ∧ BareI W (rcCs s k T l n b) (rcBare ⟨s, k, t, l, n, b⟩) w' := by
    intro w hI
    refine rfields_any _ _ k W.heap.size _ (BareI W (rcCs s k T l n b) (true && (kL k || decide (l = 0)))) (BareI W (rcCs s k T l n b) ((true && (kL k || decide (l = 0))) && (kN k || decide (n = 0)))) _ w enters_bare (by rw [hI.1.cell]; rfl) hI ?_ ?_ ?_
    · intro w hI
      refine (bareF_any _ _ _ _ _ l w hI.2.1 (by rw [hI.1.cell]; rfl)).mono ?_
      rintro e w' ⟨rfl, rfl⟩
      exact ⟨rfl, hI.set _⟩
    · intro w hI
      refine (bareF_any _ _ _ _ _ n w hI.2.1 (by rw [hI.1.cell]; rfl)).mono ?_
      rintro e w' ⟨rfl, rfl⟩
      exact ⟨rfl, hI.set _⟩
    · intro w hI
      refine (bareF_any _ _ _ _ _ b w hI.2.1 (by rw [hI.1.cell]; rfl)).mono ?_
      rintro e w' ⟨rfl, rfl⟩
      refine ⟨rfl, ?_⟩
      rw [HQ.out]
      exact hI.set _
  clear HQ
  generalize rcBare ⟨s, k, t, l, n, b⟩ = q at hF ⊢
  have hmf : ∀ (fn : Fn) (first cap : Array Value) (w : World), (Instr.makeFunc fn first cap).run Tryz.prog w = .ok (.func fn first cap) w := fun _ _ _ _ => rfl
  have hI0 : BareI W (rcCs s k T l n b) true ((W.alloc (.cells #[.int .u64 (s : Nat), .int .i64 k, .string T, .int .u64 (l : Nat), .int .u64 (n : Nat), .int .u64 (b : Nat)] 35)).alloc (.cells #[.bool true] 4)) := by
    refine ⟨(Blk.new W _ _ rfl).alloc _, ?_, ((Below.refl _ W).alloc (Nat.le_refl _) _).alloc (by simp) _⟩
    have := Blk.new (cs := [.bool true]) (W.alloc (.cells #[.int .u64 (s : Nat), .int .i64 k, .string T, .int .u64 (l : Nat), .int .u64 (n : Nat), .int .u64 (b : Nat)] 35)) 4 _ rfl
    simpa using this
  unfold rcV
  go_enter Tryz.func54, Tryz.ntmps54
  go_wp2_with fail
  refine (hF _ hI0).mono ?_
  rintro e W3 ⟨rfl, hI3⟩
  have z0 := hI3.2.1.cell 0
  simp at z0
  go_wp2_with fail
  go_ret
  exact ⟨rfl, hI3.2.2⟩

theorem rc_cells {w : World} {g s l n b : Nat} {k : Int} {T : ByteArray} (h : Blk w g 35 (rcCs s k T l n b)) : w.cell? ⟨g, 0, none⟩ = some (.int .u64 (s : Nat)) ∧ w.cell? ⟨g, 1, none⟩ = some (.int .i64 k) ∧ w.cell? ⟨g, 2, none⟩ = some (.string T) ∧ w.cell? ⟨g, 3, none⟩ = some (.int .u64 (l : Nat)) ∧ w.cell? ⟨g, 4, none⟩ = some (.int .u64 (n : Nat)) ∧ w.cell? ⟨g, 5, none⟩ = some (.int .u64 (b : Nat)) :=
  ⟨h.cell 0, h.cell 1, h.cell 2, h.cell 3, h.cell 4, h.cell 5⟩

/-- The order of what is asked. -/
theorem check_cases (r : Rc) : (isK r.kind = false ∧ Hid (checkC r = 5)) ∨ (isK r.kind = true ∧ tenantB r.ten = false ∧ Hid (checkC r = 7)) ∨ (isK r.kind = true ∧ tenantB r.ten = true ∧ rcRange r = false ∧ Hid (checkC r = 6)) ∨ (isK r.kind = true ∧ tenantB r.ten = true ∧ rcRange r = true ∧ rcPriced r = false ∧ Hid (checkC r = 13)) ∨ (isK r.kind = true ∧ tenantB r.ten = true ∧ rcRange r = true ∧ rcPriced r = true ∧ rcBare r = false ∧ Hid (checkC r = 2)) ∨ (isK r.kind = true ∧ tenantB r.ten = true ∧ rcRange r = true ∧ rcPriced r = true ∧ rcBare r = true ∧ Hid (checkC r = 0)) := by
  unfold checkC
  cases h1 : isK r.kind
  · exact .inl ⟨rfl, Lib.hid rfl⟩
  cases h2 : tenantB r.ten
  · exact .inr (.inl ⟨rfl, rfl, Lib.hid rfl⟩)
  cases h3 : rcRange r
  · exact .inr (.inr (.inl ⟨rfl, rfl, rfl, Lib.hid rfl⟩))
  cases h4 : rcPriced r
  · exact .inr (.inr (.inr (.inl ⟨rfl, rfl, rfl, rfl, Lib.hid rfl⟩)))
  cases h5 : rcBare r
  · exact .inr (.inr (.inr (.inr (.inl ⟨rfl, rfl, rfl, rfl, rfl, Lib.hid rfl⟩))))
  · exact .inr (.inr (.inr (.inr (.inr ⟨rfl, rfl, rfl, rfl, rfl, Lib.hid rfl⟩))))

set_option maxRecDepth 100000 in
set_option maxHeartbeats 1000000 in
theorem check_any (s : Nat) (k : Int) (T : ByteArray) (l n b : Nat) (hT : T.size ≤ maxLen) (hb : b < 18446744073709551616) (W : World) (hD : DK W) :
    Calls Tryz.prog 34 #[rcV s k T l n b] W fun e W' => e = .returned (.int .i64 (checkC ⟨s, k, T.data.toList, l, n, b⟩)) ∧ Below W.heap.size W W' := by
  have cK := fun w => isKind_any k w
  have cT := fun w => tenant_any T hT w
  have cR := fun w => inRange_any s k T l n b T.data.toList w
  have cP := fun w hw => priced_any s k T l n b hb T.data.toList w hw
  have cB := fun w => bare_any s k T l n b T.data.toList w
  unfold rcV at cR cP cB ⊢
  rcases check_cases ⟨s, k, T.data.toList, l, n, b⟩ with ⟨h1, HQ⟩ | ⟨h1, h2, HQ⟩ | ⟨h1, h2, h3, HQ⟩ | ⟨h1, h2, h3, h4, HQ⟩ | ⟨h1, h2, h3, h4, h5, HQ⟩ | ⟨h1, h2, h3, h4, h5, HQ⟩
  all_goals
    rw [HQ.out]
    clear HQ
    simp only at h1
    rw [h1] at cK
    try (simp only at h2; rw [h2] at cT)
    try rw [h3] at cR
    try rw [h4] at cP
    try rw [h5] at cB
    have hN := Blk.new (cs := rcCs s k T l n b) W 35 _ rfl
    have hb0 := (Below.refl W.heap.size W).alloc (Nat.le_refl _) (.cells (rcCs s k T l n b).toArray 35)
    go_enter Tryz.func34, Tryz.ntmps34
    go_wp2_with (first
      | (go_at_call 50; refine (cK _).mono ?_; rintro e w ⟨rfl, rfl⟩)
      | (go_at_call 51; refine (cT _).mono ?_; rintro e w2 ⟨rfl, hb2⟩; have hN2 := hN.below hb2 (by simp); obtain ⟨z0, z1, z2, z3, z4, z5⟩ := rc_cells hN2; have hB2 := hb0.trans (hb2.mono (by simp)); clear hb2)
      | (go_at_call 52; refine (cR _).mono ?_; rintro e w3 ⟨rfl, hb3⟩; have hN3 := hN2.below hb3 hN2.lt; obtain ⟨z0, z1, z2, z3, z4, z5⟩ := rc_cells hN3; have hB3 := hB2.trans (hb3.mono hB2.size); clear hb3)
      | (go_at_call 53; refine (cP _ (dk_below hD hB3 (Nat.le_refl _))).mono ?_; rintro e w4 ⟨rfl, hb4⟩; have hN4 := hN3.below hb4 hN3.lt; obtain ⟨z0, z1, z2, z3, z4, z5⟩ := rc_cells hN4; have hB4 := hB3.trans (hb4.mono hB3.size); clear hb4)
      | (go_at_call 54; refine (cB _).mono ?_; rintro e w5 ⟨rfl, hb5⟩; have hB5 := hB4.trans (hb5.mono hB4.size); clear hb5))
    go_ret
    first | exact ⟨rfl, hB5⟩ | exact ⟨rfl, hB4⟩ | exact ⟨rfl, hB3⟩ | exact ⟨rfl, hB2⟩ | exact ⟨rfl, hb0⟩

end Go.Proofs.YthjikbhjciphiaaGreatDoor
