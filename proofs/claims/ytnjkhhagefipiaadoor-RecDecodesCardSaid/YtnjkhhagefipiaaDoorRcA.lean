/-
  Package rec: which fields a kind has; its reference; the function that tells each field.
-/
import Derived.Test.YtnjkhhagefipiaaDoorRcM
import Derived.Test.YtnjkhhagefipiaaDoorPrB
import Derived.Test.YtnjkhhagefipiaaDoorNaG
import Derived.Test.YtnjkhhagefipiaaDoorRow
import Derived.Shelf.Abstract
namespace Go.Proofs.YtnjkhhagefipiaaDoor
open Go.RowKit
set_option linter.unusedVariables false
set_option linter.unusedSimpArgs false

theorem dk_drewN {W : World} (h : DK W) (k : Nat) : DK (W.drewN k) := fun i hi => h i hi

theorem dk_below {B : Nat} {W W' : World} (h : DK W) (hb : Below B W W') (hB : W.heap.size ≤ B) : DK W' := by
  intro k hk
  have h1 := h k hk
  have h2 := World.block_lt_of_cell? W _ h1
  exact (hb.cell (p := ⟨1, k, none⟩) (Nat.lt_of_lt_of_le h2 hB)).trans h1

theorem isKind_any (k : Int) (W : World) :
    Calls Tryd.prog 15 #[.int .i64 k] W fun e W' => e = .returned (.bool (isK k)) ∧ W' = W := by
  by_cases h1 : 1 ≤ k
  · by_cases h2 : k ≤ 5
    · rw [show isK k = true by unfold isK; simp; omega]
      go_enter Tryd.func15, Tryd.ntmps15
      go_wp2
      go_ret
      exact ⟨rfl, rfl⟩
    · rw [show isK k = false by unfold isK; simp; omega]
      go_enter Tryd.func15, Tryd.ntmps15
      go_wp2
      go_ret
      exact ⟨rfl, rfl⟩
  · rw [show isK k = false by unfold isK; simp; omega]
    go_enter Tryd.func15, Tryd.ntmps15
    go_wp2
    go_ret
    exact ⟨rfl, rfl⟩

theorem kinds (k : Int) : (k = 1 ∧ kL k = false ∧ kN k = true ∧ kB k = false) ∨ (k = 2 ∧ kL k = false ∧ kN k = false ∧ kB k = true) ∨ (k = 3 ∧ kL k = true ∧ kN k = true ∧ kB k = false) ∨ (k = 4 ∧ kL k = true ∧ kN k = true ∧ kB k = false) ∨ (k ≠ 1 ∧ k ≠ 2 ∧ k ≠ 3 ∧ k ≠ 4 ∧ kL k = false ∧ kN k = false ∧ kB k = false) := by
  by_cases h1 : k = 1
  · subst h1; exact .inl ⟨rfl, rfl, rfl, rfl⟩
  by_cases h2 : k = 2
  · subst h2; exact .inr (.inl ⟨rfl, rfl, rfl, rfl⟩)
  by_cases h3 : k = 3
  · subst h3; exact .inr (.inr (.inl ⟨rfl, rfl, rfl, rfl⟩))
  by_cases h4 : k = 4
  · subst h4; exact .inr (.inr (.inr (.inl ⟨rfl, rfl, rfl, rfl⟩)))
  refine .inr (.inr (.inr (.inr ⟨h1, h2, h3, h4, ?_, ?_, ?_⟩))) <;> simp [kL, kN, kB, h1, h2, h3, h4]

theorem has_any (k : Int) (W : World) :
    Calls Tryd.prog 7 #[.int .i64 k] W fun e W' => e = .returned (.tuple #[.bool (kL k), .bool (kN k), .bool (kB k)]) ∧ W' = W := by
  rcases kinds k with ⟨rfl, h1, h2, h3⟩ | ⟨rfl, h1, h2, h3⟩ | ⟨rfl, h1, h2, h3⟩ | ⟨rfl, h1, h2, h3⟩ | ⟨d1, d2, d3, d4, h1, h2, h3⟩
  · rw [h1, h2, h3]
    clear h1 h2 h3
    go_enter Tryd.func7, Tryd.ntmps7
    go_wp2
    go_ret3
    exact ⟨rfl, rfl⟩
  · rw [h1, h2, h3]
    clear h1 h2 h3
    go_enter Tryd.func7, Tryd.ntmps7
    go_wp2
    go_ret3
    exact ⟨rfl, rfl⟩
  · rw [h1, h2, h3]
    clear h1 h2 h3
    go_enter Tryd.func7, Tryd.ntmps7
    go_wp2
    go_ret3
    exact ⟨rfl, rfl⟩
  · rw [h1, h2, h3]
    clear h1 h2 h3
    go_enter Tryd.func7, Tryd.ntmps7
    go_wp2
    go_ret3
    exact ⟨rfl, rfl⟩
  · rw [h1, h2, h3]
    have e1 : (k == 1) = false := by simpa using d1
    have e2 : (k == 2) = false := by simpa using d2
    have e3 : (k == 3) = false := by simpa using d3
    have e4 : (k == 4) = false := by simpa using d4
    clear h1 h2 h3 d1 d2 d3 d4
    go_enter Tryd.func7, Tryd.ntmps7
    go_wp2
    go_ret3
    exact ⟨rfl, rfl⟩

/-- The letters of a kind's fields. -/
def lettersT (k : Int) : ByteArray := if k = 1 then ⟨#[110]⟩ else if k = 2 then ⟨#[98]⟩ else if k = 3 then ⟨#[108, 110]⟩ else if k = 4 then ⟨#[108, 110]⟩ else ⟨#[]⟩

theorem refLetters_any (k : Int) (W : World) :
    Calls Tryd.prog 22 #[.int .i64 k] W fun e W' => e = .returned (.string (lettersT k)) ∧ Below W.heap.size W W' := by
  by_cases h0 : k < 1
  · rw [show lettersT k = ⟨#[]⟩ by unfold lettersT; rw [if_neg (by omega), if_neg (by omega), if_neg (by omega), if_neg (by omega)]]
    go_enter Tryd.func22, Tryd.ntmps22
    go_wp2
    go_ret
    exact ⟨rfl, (Below.refl _ _).alloc (Nat.le_refl _) _⟩
  by_cases h6 : 5 < k
  · rw [show lettersT k = ⟨#[]⟩ by unfold lettersT; rw [if_neg (by omega), if_neg (by omega), if_neg (by omega), if_neg (by omega)]]
    go_enter Tryd.func22, Tryd.ntmps22
    go_wp2
    go_ret
    exact ⟨rfl, (Below.refl _ _).alloc (Nat.le_refl _) _⟩
  obtain rfl | rfl | rfl | rfl | rfl : k = 1 ∨ k = 2 ∨ k = 3 ∨ k = 4 ∨ k = 5 := by omega
  all_goals
    clear h0 h6
    go_enter Tryd.func22, Tryd.ntmps22
    go_wp2
    go_ret
    exact ⟨rfl, (Below.refl _ _).alloc (Nat.le_refl _) _⟩

set_option maxRecDepth 100000 in
theorem refHasL_any (k : Int) (s : ByteArray) (hk : lettersT k = s) (hs : s.size ≤ 10000) (c : UInt8) (W : World) :
    Calls Tryd.prog 10 #[.int .i64 k, .int .u8 ((c.toNat : Nat) : Int)] W fun e W' => e = .returned (.bool (hasB s.data.toList c)) ∧ Below W.heap.size W W' := by
  have hC := refLetters_any k W
  rw [hk] at hC
  clear hk
  go_enter Tryd.func10, Tryd.ntmps10
  go_wp2_with (go_at_call 22; refine hC.mono ?_; rintro e W1 ⟨rfl, hb⟩)
  go_loop [6] (fun i => ∃ k : Nat, k ≤ s.size ∧ i = .int .i64 k ∧ hasB (s.data.toList.take k) c = false) (fun i => s.size - (intOf i).toNat)
  case atStart => exact ⟨0, Nat.zero_le _, rfl, rfl⟩
  case round =>
    obtain ⟨k, hk, rfl, hno⟩ := hrel
    by_cases hlt : k < s.size
    · have hby := byte_at s k hlt
      obtain ⟨x, hx⟩ : ∃ x, s[k]'hlt = x := ⟨_, rfl⟩
      rw [hx] at hby
      have hst := hasB_take _ k x c hby
      rw [hno, Bool.false_or] at hst
      have HB := beq_byte x c
      cases hxc : (x == c)
      · rw [hxc] at hst HB
        have HS := Lib.hid hst
        clear hst hno hby hxc
        go_wp2
        go_round
        case rel => exact ⟨k + 1, by omega, by go_num, HS.out⟩
        case measure => simp [intOf]; omega
      · rw [hxc] at HB
        have hm : hasB s.data.toList c = true := by
          have : x = c := by simpa using hxc
          subst this
          exact hasB_mem _ _ _ hby
        have HS := Lib.hid hm
        clear hst hno hby hxc hm
        go_wp2
        go_ret
        exact ⟨by rw [HS.out]; rfl, hb⟩
    · have HS := Lib.hid hno
      have hlen : s.data.toList.length ≤ k := by simp; omega
      have HL := Lib.hid hlen
      clear hno hlen
      go_wp2
      go_ret
      refine ⟨?_, hb⟩
      have := HS.out
      rw [List.take_of_length_le HL.out] at this
      rw [this]
      rfl

theorem letters_l (k : Int) : hasB (lettersT k).data.toList 108 = kL k := by
  rcases kinds k with ⟨rfl, h1, h2, h3⟩ | ⟨rfl, h1, h2, h3⟩ | ⟨rfl, h1, h2, h3⟩ | ⟨rfl, h1, h2, h3⟩ | ⟨d1, d2, d3, d4, h1, h2, h3⟩
  · decide
  · decide
  · decide
  · decide
  · rw [h1]; unfold lettersT; rw [if_neg d1, if_neg d2, if_neg d3, if_neg d4]; rfl
theorem letters_n (k : Int) : hasB (lettersT k).data.toList 110 = kN k := by
  rcases kinds k with ⟨rfl, h1, h2, h3⟩ | ⟨rfl, h1, h2, h3⟩ | ⟨rfl, h1, h2, h3⟩ | ⟨rfl, h1, h2, h3⟩ | ⟨d1, d2, d3, d4, h1, h2, h3⟩
  · decide
  · decide
  · decide
  · decide
  · rw [h2]; unfold lettersT; rw [if_neg d1, if_neg d2, if_neg d3, if_neg d4]; rfl
theorem letters_b (k : Int) : hasB (lettersT k).data.toList 98 = kB k := by
  rcases kinds k with ⟨rfl, h1, h2, h3⟩ | ⟨rfl, h1, h2, h3⟩ | ⟨rfl, h1, h2, h3⟩ | ⟨rfl, h1, h2, h3⟩ | ⟨d1, d2, d3, d4, h1, h2, h3⟩
  · decide
  · decide
  · decide
  · decide
  · rw [h3]; unfold lettersT; rw [if_neg d1, if_neg d2, if_neg d3, if_neg d4]; rfl
theorem letters_size (k : Int) : (lettersT k).size ≤ 10000 := by
  rcases kinds k with ⟨rfl, h1, h2, h3⟩ | ⟨rfl, h1, h2, h3⟩ | ⟨rfl, h1, h2, h3⟩ | ⟨rfl, h1, h2, h3⟩ | ⟨d1, d2, d3, d4, h1, h2, h3⟩
  · decide
  · decide
  · decide
  · decide
  · unfold lettersT; rw [if_neg d1, if_neg d2, if_neg d3, if_neg d4]; decide

theorem refHas_l (k : Int) (W : World) : Calls Tryd.prog 10 #[.int .i64 k, .int .u8 108] W fun e W' => e = .returned (.bool (kL k)) ∧ Below W.heap.size W W' := by
  rw [← letters_l]
  exact refHasL_any k _ rfl (letters_size k) 108 W
theorem refHas_n (k : Int) (W : World) : Calls Tryd.prog 10 #[.int .i64 k, .int .u8 110] W fun e W' => e = .returned (.bool (kN k)) ∧ Below W.heap.size W W' := by
  rw [← letters_n]
  exact refHasL_any k _ rfl (letters_size k) 110 W
theorem refHas_b (k : Int) (W : World) : Calls Tryd.prog 10 #[.int .i64 k, .int .u8 98] W fun e W' => e = .returned (.bool (kB k)) ∧ Below W.heap.size W W' := by
  rw [← letters_b]
  exact refHasL_any k _ rfl (letters_size k) 98 W

end Go.Proofs.YtnjkhhagefipiaaDoor
