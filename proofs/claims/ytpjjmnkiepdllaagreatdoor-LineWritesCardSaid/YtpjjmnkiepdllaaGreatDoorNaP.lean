/-
  Arithmetic of digits and the numbers that they spell. No program stands here.
-/
import Derived.Test.YtpjjmnkiepdllaaGreatDoorNaM
import Derived.Test.YtpjjmnkiepdllaaGreatDoorNaB
import Derived.Lib.ItoaNum
import Derived.Lib.ItoaLen
import Derived.Lib.ParseIntB
namespace Go.Proofs.YtpjjmnkiepdllaaGreatDoor
open Go.RowKit
set_option linter.unusedVariables false
set_option linter.unusedSimpArgs false

/-- One digit more. -/
def spellStep (a : Nat) (c : UInt8) : Nat := a * 10 + c.toNat % 16
/-- What digits spell, behind others that spell acc. -/
def spell (acc : Nat) (l : List UInt8) : Nat := l.foldl spellStep acc
theorem spell_nil (p : Nat) : spell p [] = p := rfl
theorem spell_cons' (p : Nat) (c : UInt8) (l : List UInt8) : spell p (c :: l) = spell (spellStep p c) l := rfl
theorem spell_cons (p : Nat) (c : UInt8) (l : List UInt8) : spell p (c :: l) = spell (p * 10 + c.toNat % 16) l := by
  rw [spell_cons', spellStep]
theorem spell_append (l : List UInt8) : ∀ (acc : Nat) (r : List UInt8), spell acc (l ++ r) = spell (spell acc l) r := by
  induction l with
  | nil => intro acc r; rfl
  | cons c l ih =>
    intro acc r
    rw [List.cons_append, spell_cons', spell_cons', ih]
theorem spell_ge (l : List UInt8) : ∀ acc, acc ≤ spell acc l := by
  induction l with
  | nil => intro acc; exact Nat.le_refl _
  | cons c l ih =>
    intro acc
    rw [spell_cons]
    exact Nat.le_trans (by omega) (ih _)
theorem spell_take (l : List UInt8) (k : Nat) (b : UInt8) (h : l[k]? = some b) : spell 0 (l.take (k + 1)) = spell 0 (l.take k) * 10 + b.toNat % 16 := by
  rw [List.take_add_one, h, spell_append]
  show spell _ [b] = _
  rw [spell_cons, spell_nil]
theorem spell_take_le (l : List UInt8) (k : Nat) : spell 0 (l.take k) ≤ spell 0 l := by
  have := spell_append (l.take k) 0 (l.drop k)
  rw [List.take_append_drop] at this
  rw [this]
  exact spell_ge _ _
theorem digR_of (b : UInt8) (h : digR ((b.toNat : Nat) : Int) = true) : 48 ≤ b.toNat ∧ b.toNat ≤ 57 := by
  simp only [digR, Bool.and_eq_true, decide_eq_true_eq] at h
  omega
theorem allR_cons (p : Int → Bool) (b : UInt8) (l : List UInt8) : allR p (b :: l) = (p ((b.toNat : Nat) : Int) && allR p l) := rfl
theorem spell_bounds (l : List UInt8) (h : allR digR l = true) : ∀ p, p * 10 ^ l.length ≤ spell p l ∧ spell p l < (p + 1) * 10 ^ l.length := by
  induction l with
  | nil =>
    intro p
    rw [List.length_nil, Nat.pow_zero, Nat.mul_one, Nat.mul_one]
    exact ⟨Nat.le_refl _, Nat.lt_succ_self _⟩
  | cons c l ih =>
    intro p
    rw [allR_cons, Bool.and_eq_true] at h
    have hd := digR_of c h.1
    obtain ⟨d, hd'⟩ : ∃ d, c.toNat % 16 = d := ⟨_, rfl⟩
    have hd9 : d ≤ 9 := by omega
    obtain ⟨h1, h2⟩ := ih h.2 (p * 10 + d)
    rw [List.length_cons, Nat.pow_succ]
    rw [spell_cons, hd']
    generalize spell (p * 10 + d) l = S at h1 h2 ⊢
    generalize 10 ^ l.length = t at h1 h2 ⊢
    rw [Nat.add_mul] at h1
    rw [Nat.add_mul, Nat.add_mul, Nat.one_mul] at h2
    have e1 : p * (t * 10) = p * 10 * t := by rw [Nat.mul_comm t 10, Nat.mul_assoc]
    have e3 : (p + 1) * (t * 10) = p * (t * 10) + t * 10 := by rw [Nat.add_mul, Nat.one_mul]
    have h3 : d * t ≤ 9 * t := Nat.mul_le_mul_right _ hd9
    rw [e3, e1]
    generalize p * 10 * t = X at h1 h2 ⊢
    generalize d * t = Y at h1 h2 h3
    omega

/-- Texts of digits, as long as each other, are in order as their numbers are. -/
theorem less_spell (a : List UInt8) : ∀ (b : List UInt8) (p : Nat), a.length = b.length → allR digR a = true → allR digR b = true → Op.bytesLess a b = decide (spell p a < spell p b) := by
  induction a with
  | nil =>
    intro b p hl _ _
    have : b = [] := List.eq_nil_of_length_eq_zero hl.symm
    subst this
    simp [Op.bytesLess, spell_nil]
  | cons x a ih =>
    intro b p hl ha hb
    cases b with
    | nil => simp at hl
    | cons y b =>
      have hl' : a.length = b.length := by simpa using hl
      rw [allR_cons, Bool.and_eq_true] at ha hb
      have hx := digR_of x ha.1
      have hy := digR_of y hb.1
      have i := ih b (p * 10 + x.toNat % 16) hl' ha.2 hb.2
      obtain ⟨a1, a2⟩ := spell_bounds a ha.2 (p * 10 + x.toNat % 16)
      obtain ⟨b1, b2⟩ := spell_bounds b hb.2 (p * 10 + y.toNat % 16)
      rw [← hl'] at b1 b2
      rw [spell_cons, spell_cons]
      rcases Nat.lt_trichotomy x.toNat y.toNat with h | h | h
      · have e : (p * 10 + x.toNat % 16 + 1) * 10 ^ a.length ≤ (p * 10 + y.toNat % 16) * 10 ^ a.length := Nat.mul_le_mul_right _ (by omega)
        rw [decide_eq_true (by omega)]
        have h' : x < y := UInt8.lt_iff_toNat_lt.2 h
        simp [Op.bytesLess, h']
      · have e : x = y := UInt8.toNat_inj.1 h
        subst e
        rw [← i]
        have h' : ¬ x < x := by rw [UInt8.lt_iff_toNat_lt]; omega
        simp [Op.bytesLess, h']
      · have e : (p * 10 + y.toNat % 16 + 1) * 10 ^ a.length ≤ (p * 10 + x.toNat % 16) * 10 ^ a.length := Nat.mul_le_mul_right _ (by omega)
        rw [decide_eq_false (by omega)]
        have h' : ¬ x < y := by rw [UInt8.lt_iff_toNat_lt]; omega
        have h'' : ¬ x = y := by intro e; subst e; omega
        have h3 : y < x := UInt8.lt_iff_toNat_lt.2 h
        simp [Op.bytesLess, h', h'', h3]

/-- Texts of digits, as long as each other, that spell the same number are the same. -/
theorem spell_inj (a : List UInt8) : ∀ (b : List UInt8) (p : Nat), a.length = b.length → allR digR a = true → allR digR b = true → spell p a = spell p b → a = b := by
  induction a with
  | nil => intro b p hl _ _ _; exact (List.eq_nil_of_length_eq_zero hl.symm).symm
  | cons x a ih =>
    intro b p hl ha hb he
    cases b with
    | nil => simp at hl
    | cons y b =>
      have hl' : a.length = b.length := by simpa using hl
      rw [allR_cons, Bool.and_eq_true] at ha hb
      have hx := digR_of x ha.1
      have hy := digR_of y hb.1
      obtain ⟨a1, a2⟩ := spell_bounds a ha.2 (p * 10 + x.toNat % 16)
      obtain ⟨b1, b2⟩ := spell_bounds b hb.2 (p * 10 + y.toNat % 16)
      rw [← hl'] at b1 b2
      rw [spell_cons, spell_cons] at he
      rcases Nat.lt_trichotomy x.toNat y.toNat with h | h | h
      · have e : (p * 10 + x.toNat % 16 + 1) * 10 ^ a.length ≤ (p * 10 + y.toNat % 16) * 10 ^ a.length := Nat.mul_le_mul_right _ (by omega)
        omega
      · have e : x = y := UInt8.toNat_inj.1 h
        subst e
        rw [ih b _ hl' ha.2 hb.2 he]
      · have e : (p * 10 + y.toNat % 16 + 1) * 10 ^ a.length ≤ (p * 10 + x.toNat % 16) * 10 ^ a.length := Nat.mul_le_mul_right _ (by omega)
        omega

/-- What the library's parse gives at digits. -/
theorem parse_digits (l : List UInt8) (h : allR digR l = true) : ∀ acc, acc ≤ 18446744073709551615 →
    Lib.parseUintM 18446744073709551615 acc l = if spell acc l ≤ 18446744073709551615 then .ok (spell acc l) else .range := by
  induction l with
  | nil => intro acc ha; rw [spell_nil, if_pos ha]; rfl
  | cons c l ih =>
    intro acc ha
    rw [allR_cons, Bool.and_eq_true] at h
    have hd := digR_of c h.1
    have e16 : c.toNat - 48 = c.toNat % 16 := by omega
    have hg := spell_ge l (acc * 10 + c.toNat % 16)
    rw [spell_cons]
    unfold Lib.parseUintM
    rw [if_pos hd, e16]
    by_cases h1 : 1844674407370955162 ≤ acc
    · rw [if_pos h1, if_neg (by omega)]
    · rw [if_neg h1]
      by_cases h2 : 18446744073709551615 < acc * 10 + c.toNat % 16
      · rw [if_pos h2, if_neg (by omega)]
      · rw [if_neg h2]
        exact ih h.2 _ (by omega)

/-- Whether a text is a number's digits; which one; what is wrong. -/
def isNumB (l : List UInt8) : Bool := decide (l = [48]) || (decide (1 ≤ l.length) && (decide (l.getD 0 0 ≠ 48) && allR digR l))
def numE (l : List UInt8) : Int := if isNumB l then (if spell 0 l ≤ 18446744073709551615 then 0 else 6) else 2
def numV (l : List UInt8) : Nat := if isNumB l then (if spell 0 l ≤ 18446744073709551615 then spell 0 l else 0) else 0

theorem isNum_digits (l : List UInt8) (h : isNumB l = true) : l ≠ [] ∧ allR digR l = true := by
  unfold isNumB at h
  rw [Bool.or_eq_true, decide_eq_true_eq] at h
  rcases h with h | h
  · subst h
    exact ⟨by simp, by decide⟩
  · simp only [Bool.and_eq_true, decide_eq_true_eq] at h
    exact ⟨by intro e; rw [e] at h; simp at h, h.2.2⟩

theorem parse_num (l : List UInt8) (h : isNumB l = true) : Lib.parseUintB 64 l = if spell 0 l ≤ 18446744073709551615 then .ok (spell 0 l) else .range := by
  obtain ⟨h1, h2⟩ := isNum_digits l h
  unfold Lib.parseUintB
  rw [if_neg h1]
  exact parse_digits l h2 0 (by omega)

theorem decDigits_facts (u : Nat) : allR digR (Lib.decDigits u) = true ∧ spell 0 (Lib.decDigits u) = u ∧ Lib.decDigits u ≠ [] ∧ (1 ≤ u → (Lib.decDigits u).getD 0 0 ≠ 48) := by
  induction u using Nat.strongRecOn with
  | ind u ih =>
    by_cases h : u < 10
    · have hu : Lib.decDigits u = [UInt8.ofNat (48 + u)] := by rw [Lib.decDigits, dif_pos h]
      have e : ∀ d : Fin 10, allR digR [UInt8.ofNat (48 + d.val)] = true ∧ spell 0 [UInt8.ofNat (48 + d.val)] = d.val ∧ (1 ≤ d.val → [UInt8.ofNat (48 + d.val)].getD 0 0 ≠ 48) := by decide +kernel
      rw [hu]
      exact ⟨(e ⟨u, h⟩).1, (e ⟨u, h⟩).2.1, by simp, (e ⟨u, h⟩).2.2⟩
    · have hu : Lib.decDigits u = Lib.decDigits (u / 10) ++ [UInt8.ofNat (48 + u % 10)] := by rw [Lib.decDigits, dif_neg h]
      obtain ⟨h1, h2, h3, h4⟩ := ih (u / 10) (by omega)
      have e : ∀ d : Fin 10, digR (((UInt8.ofNat (48 + d.val)).toNat : Nat) : Int) = true ∧ (UInt8.ofNat (48 + d.val)).toNat % 16 = d.val := by decide +kernel
      have e' := e ⟨u % 10, by omega⟩
      rw [hu]
      refine ⟨?_, ?_, by simp, fun _ => ?_⟩
      · unfold allR at h1 ⊢
        rw [List.all_append, h1]
        simp only [List.all_cons, List.all_nil, Bool.and_true, Bool.true_and]
        exact e'.1
      · rw [spell_append, h2]
        have e2 : (UInt8.ofNat (48 + u % 10)).toNat % 16 = u % 10 := e'.2
        rw [spell_cons, spell_nil, e2]
        omega
      · have := h4 (by omega)
        cases hd : Lib.decDigits (u / 10) with
        | nil => exact absurd hd h3
        | cons c r =>
          rw [hd] at this
          simpa using this

theorem num_decDigits (u : Nat) (h : u ≤ 18446744073709551615) : isNumB (Lib.decDigits u) = true ∧ numV (Lib.decDigits u) = u ∧ numE (Lib.decDigits u) = 0 := by
  obtain ⟨h1, h2, h3, h4⟩ := decDigits_facts u
  have hi : isNumB (Lib.decDigits u) = true := by
    unfold isNumB
    by_cases h0 : u = 0
    · subst h0
      rw [show Lib.decDigits 0 = [48] by rw [Lib.decDigits, dif_pos (by omega)]; rfl]
      rfl
    · have h5 := h4 (by omega)
      have h6 : 1 ≤ (Lib.decDigits u).length := by
        cases hd : Lib.decDigits u with
        | nil => exact absurd hd h3
        | cons c r => simp
      rw [h1, decide_eq_true h6, decide_eq_true h5]
      simp
  refine ⟨hi, ?_, ?_⟩
  · unfold numV; rw [hi, if_pos rfl, h2, if_pos h]
  · unfold numE; rw [hi, if_pos rfl, h2, if_pos h]

theorem isNum_two (b : UInt8) (l : List UInt8) (h : isNumB (b :: l) = true) (hl : l ≠ []) : b ≠ 48 := by
  unfold isNumB at h
  rw [Bool.or_eq_true, decide_eq_true_eq] at h
  rcases h with h | h
  · injection h with _ h2
    exact absurd h2 hl
  · simp only [Bool.and_eq_true, decide_eq_true_eq] at h
    simpa using h.2.1

/-- A longer text spells more, a shorter one less than the greatest number. -/
theorem long_spell (l : List UInt8) (h : isNumB l = true) (hl : 20 < l.length) : ¬ spell 0 l ≤ 18446744073709551615 := by
  obtain ⟨_, hd⟩ := isNum_digits l h
  cases l with
  | nil => simp at hl
  | cons b r =>
    have hr : r ≠ [] := by intro e; rw [e] at hl; simp at hl
    have hb := isNum_two b r h hr
    rw [allR_cons, Bool.and_eq_true] at hd
    have hd1 := digR_of b hd.1
    have hb1 : 49 ≤ b.toNat := by
      have : b.toNat ≠ 48 := fun e => hb (UInt8.toNat_inj.1 e)
      omega
    have h1 := (spell_bounds r hd.2 (0 * 10 + b.toNat % 16)).1
    have h2 : 20 ≤ r.length := by simpa using Nat.le_of_lt_succ (by simpa using hl)
    have h3 : 10 ^ 20 ≤ 10 ^ r.length := Nat.pow_le_pow_right (by decide) h2
    have h4 : 1 * 10 ^ r.length ≤ (0 * 10 + b.toNat % 16) * 10 ^ r.length := Nat.mul_le_mul_right _ (by omega)
    rw [spell_cons]
    have h5 : (10 : Nat) ^ 20 = 100000000000000000000 := by decide
    omega
theorem short_spell (l : List UInt8) (h : allR digR l = true) (hl : l.length < 20) : spell 0 l ≤ 18446744073709551615 := by
  have h1 := (spell_bounds l h 0).2
  have h3 : 10 ^ l.length ≤ 10 ^ 19 := Nat.pow_le_pow_right (by decide) (by omega)
  have h5 : (10 : Nat) ^ 19 = 10000000000000000000 := by decide
  omega

def mostT : ByteArray := ⟨#[49, 56, 52, 52, 54, 55, 52, 52, 48, 55, 51, 55, 48, 57, 53, 53, 49, 54, 49, 53]⟩
theorem most_spell : spell 0 mostT.data.toList = 18446744073709551615 ∧ allR digR mostT.data.toList = true ∧ mostT.data.toList.length = 20 := by decide +kernel

end Go.Proofs.YtpjjmnkiepdllaaGreatDoor
