/-
  Arithmetic of lines by a pattern: what is wrong with a word by its sign, fields and their words, words joined to a line. No program stands here.
-/
import Derived.Test.YtpjjmnkiepdllaaGreatDoorNaO
import Derived.Test.YtpjjmnkiepdllaaGreatDoorNaW
import Derived.Test.YtpjjmnkiepdllaaGreatDoorNaP
namespace Go.Proofs.YtpjjmnkiepdllaaGreatDoor
open Go.RowKit
set_option linter.unusedVariables false
set_option linter.unusedSimpArgs false

theorem num_bounds (l : List UInt8) (h : isNumB l = true) (h0 : l ≠ [48]) : 10 ^ (l.length - 1) ≤ spell 0 l ∧ spell 0 l < 10 ^ l.length ∧ 1 ≤ l.length := by
  obtain ⟨hne, hd⟩ := isNum_digits l h
  cases l with
  | nil => exact absurd rfl hne
  | cons b r =>
    have hb : b ≠ 48 := by
      unfold isNumB at h
      rw [Bool.or_eq_true, decide_eq_true_eq] at h
      rcases h with h | h
      · exact absurd h h0
      · simp only [Bool.and_eq_true, decide_eq_true_eq] at h
        simpa using h.2.1
    have h2 := (spell_bounds (b :: r) hd 0).2
    rw [allR_cons, Bool.and_eq_true] at hd
    have hd1 := digR_of b hd.1
    have hb1 : 49 ≤ b.toNat := by
      have : b.toNat ≠ 48 := fun e => hb (UInt8.toNat_inj.1 e)
      omega
    have h1 := (spell_bounds r hd.2 (0 * 10 + b.toNat % 16)).1
    have h4 : 1 * 10 ^ r.length ≤ (0 * 10 + b.toNat % 16) * 10 ^ r.length := Nat.mul_le_mul_right _ (by omega)
    rw [Nat.one_mul] at h4
    rw [← spell_cons] at h1
    refine ⟨?_, by simpa using h2, by simp⟩
    rw [List.length_cons, Nat.add_sub_cancel]
    exact Nat.le_trans h4 h1

/-- The digits of what digits spell are these. -/
theorem dec_spell (l : List UInt8) (h : isNumB l = true) : Lib.decDigits (spell 0 l) = l := by
  obtain ⟨g1, g2, g3, g4⟩ := decDigits_facts (spell 0 l)
  by_cases h0 : l = [48]
  · subst h0
    rw [show spell 0 [48] = 0 from rfl, Lib.decDigits, dif_pos (by omega)]
    rfl
  · obtain ⟨b1, b2, b3⟩ := num_bounds l h h0
    have hd := (isNum_digits l h).2
    have hpos : 1 ≤ spell 0 l := Nat.le_trans (Nat.one_le_pow _ _ (by omega)) b1
    generalize hD : Lib.decDigits (spell 0 l) = D at g1 g2 g3 g4
    have hN : isNumB D = true := by
      unfold isNumB
      have h6 : 1 ≤ D.length := by
        cases D with
        | nil => exact absurd rfl g3
        | cons c r => simp
      rw [g1, decide_eq_true h6, decide_eq_true (g4 hpos)]
      simp
    have hD0 : D ≠ [48] := by
      intro e
      rw [e] at g2
      rw [show spell 0 [48] = 0 from rfl] at g2
      omega
    obtain ⟨c1, c2, c3⟩ := num_bounds D hN hD0
    rw [g2] at c1 c2
    have hlen : D.length = l.length := by
      rcases Nat.lt_trichotomy D.length l.length with e | e | e
      · have : (10 : Nat) ^ D.length ≤ 10 ^ (l.length - 1) := Nat.pow_le_pow_right (by decide) (by omega)
        omega
      · exact e
      · have : (10 : Nat) ^ l.length ≤ 10 ^ (D.length - 1) := Nat.pow_le_pow_right (by decide) (by omega)
        omega
    exact spell_inj D l 0 hlen g1 hd g2

/-- A sign of a pattern. -/
def sgB (c : UInt8) : Bool := decide (c = 116) || (decide (c = 104) || (decide (c = 110) || (decide (c = 98) || decide (c = 115))))
def sgR (r : Int) : Bool := decide (r = 116) || (decide (r = 104) || (decide (r = 110) || (decide (r = 98) || decide (r = 115))))
def isPat (p : List UInt8) : Bool := p.all sgB
theorem sgR_high (r : Int) (h : 128 ≤ r) : sgR r = false := by simp [sgR]; omega
theorem sgR_byte : ∀ b : Fin 256, sgR ((b.val : Nat) : Int) = sgB (UInt8.ofNat b.val) := by decide +kernel
theorem sgR_of (c : UInt8) : sgR ((c.toNat : Nat) : Int) = sgB c := by
  have := sgR_byte ⟨c.toNat, c.toNat_lt⟩
  simpa using this
theorem isPat_allR (p : List UInt8) : isPat p = allR sgR p := by
  unfold isPat allR
  congr 1
  funext c
  exact (sgR_of c).symm
theorem sg_cases (c : UInt8) (h : sgB c = true) : c = 116 ∨ c = 104 ∨ c = 110 ∨ c = 98 ∨ c = 115 := by
  simp only [sgB, Bool.or_eq_true, decide_eq_true_eq] at h
  exact h
theorem sg_low (c : UInt8) (h : sgB c = true) : c.toNat < 128 := by
  rcases sg_cases c h with e | e | e | e | e <;> rw [e] <;> decide
theorem isPat_at (p : List UInt8) (h : isPat p = true) (i : Nat) (c : UInt8) (hc : p[i]? = some c) : sgB c = true := by
  unfold isPat at h
  rw [List.all_eq_true] at h
  exact h c (List.mem_of_getElem? hc)
theorem isPat_take (p : List UInt8) (k : Nat) (c : UInt8) (h : p[k]? = some c) : isPat (p.take (k + 1)) = (isPat (p.take k) && sgB c) := by
  unfold isPat
  rw [List.take_add_one, h]
  simp [List.all_append]
theorem isPat_out (p : List UInt8) (k : Nat) (c : UInt8) (h : p[k]? = some c) (hc : sgB c = false) : isPat p = false := by
  unfold isPat
  rw [List.all_eq_false]
  exact ⟨c, List.mem_of_getElem? h, by simp [hc]⟩

/-- What is wrong with a word, by a sign. -/
def smallE (w : List UInt8) : Int := if numE w = 0 then (if 2147483647 < numV w then 6 else 0) else numE w
def signE (c : UInt8) (w : List UInt8) : Int :=
  if c = 116 then (if tenantB w then 0 else 2) else if c = 104 then (if targetB w then 0 else 2) else if c = 110 then numE w else if c = 115 then smallE w else if c = 98 then (if okHex w then 0 else 2) else 2

/-- A field: its text, its number, its bytes. -/
structure Fd where
  text : List UInt8
  n : Nat
  data : List UInt8

/-- The field of a word; a field's word; a field with just what its sign names. -/
def readF (c : UInt8) (w : List UInt8) : Fd := if c = 116 ∨ c = 104 then ⟨w, 0, []⟩ else if c = 110 ∨ c = 115 then ⟨[], numV w, []⟩ else ⟨[], 0, bytesL w⟩
def textF (c : UInt8) (f : Fd) : List UInt8 := if c = 116 ∨ c = 104 then f.text else if c = 110 ∨ c = 115 then Lib.decDigits f.n else hexS f.data
def bareF (c : UInt8) (f : Fd) : Fd := if c = 116 ∨ c = 104 then ⟨f.text, 0, []⟩ else if c = 110 ∨ c = 115 then ⟨[], f.n, []⟩ else ⟨[], 0, f.data⟩

theorem numE_zero (w : List UInt8) (h : numE w = 0) : isNumB w = true ∧ numV w = spell 0 w := by
  unfold numE at h
  unfold numV
  cases hi : isNumB w
  · rw [hi, if_neg (by decide)] at h
    exact absurd h (by decide)
  · rw [hi, if_pos rfl] at h
    rw [if_pos rfl]
    split at h
    · rename_i hc
      exact ⟨rfl, by rw [if_pos hc]⟩
    · exact absurd h (by decide)
theorem smallE_zero (w : List UInt8) (h : smallE w = 0) : numE w = 0 := by
  unfold smallE at h
  by_cases h0 : numE w = 0
  · exact h0
  · rw [if_neg h0] at h
    exact h
theorem signE_sg (c : UInt8) (w : List UInt8) (h : signE c w = 0) : sgB c = true := by
  unfold signE at h
  unfold sgB
  by_cases h1 : c = 116
  · simp [h1]
  by_cases h2 : c = 104
  · simp [h2]
  by_cases h3 : c = 110
  · simp [h3]
  by_cases h4 : c = 115
  · simp [h4]
  by_cases h5 : c = 98
  · simp [h5]
  rw [if_neg h1, if_neg h2, if_neg h3, if_neg h4, if_neg h5] at h
  exact absurd h (by decide)

/-- A word that a sign takes comes back from its field. -/
theorem text_read (c : UInt8) (w : List UInt8) (h : signE c w = 0) : textF c (readF c w) = w := by
  rcases sg_cases c (signE_sg c w h) with rfl | rfl | rfl | rfl | rfl
  · rfl
  · rfl
  · have h1 : numE w = 0 := h
    obtain ⟨h2, h3⟩ := numE_zero w h1
    show Lib.decDigits (numV w) = w
    rw [h3, dec_spell w h2]
  · have h1 : (if okHex w then (0 : Int) else 2) = 0 := h
    have h2 : okHex w = true := by
      cases ho : okHex w
      · rw [ho] at h1; exact absurd h1 (by decide)
      · rfl
    show hexS (bytesL w) = w
    unfold bytesL
    rw [if_pos h2, hexS_unhex w h2]
  · have h1 : smallE w = 0 := h
    obtain ⟨h2, h3⟩ := numE_zero w (smallE_zero w h1)
    show Lib.decDigits (numV w) = w
    rw [h3, dec_spell w h2]
/-- A field comes back from its word. -/
theorem read_text (c : UInt8) (f : Fd) (hn : f.n ≤ 18446744073709551615) (h : sgB c = true) : readF c (textF c f) = bareF c f := by
  rcases sg_cases c h with rfl | rfl | rfl | rfl | rfl
  · rfl
  · rfl
  · show (⟨[], numV (Lib.decDigits f.n), []⟩ : Fd) = ⟨[], f.n, []⟩
    rw [(num_decDigits f.n hn).2.1]
  · show (⟨[], 0, bytesL (hexS f.data)⟩ : Fd) = ⟨[], 0, f.data⟩
    unfold bytesL
    rw [if_pos (ok_hexS f.data), unhex_hexS]
  · show (⟨[], numV (Lib.decDigits f.n), []⟩ : Fd) = ⟨[], f.n, []⟩
    rw [(num_decDigits f.n hn).2.1]

/-- Words behind the first one. -/
def tailW (ws : List (List UInt8)) : List UInt8 := ws.flatMap fun w => 32 :: w
def lineJ : List (List UInt8) → List UInt8
  | [] => []
  | w :: ws => w ++ tailW ws
theorem tailW_cons (w : List UInt8) (ws : List (List UInt8)) : tailW (w :: ws) = 32 :: (w ++ tailW ws) := by simp [tailW]
theorem tailW_snoc (ws : List (List UInt8)) (w : List UInt8) : tailW (ws ++ [w]) = tailW ws ++ 32 :: w := by simp [tailW]
theorem lineJ_cut (s : List UInt8) : lineJ (cutL s) = s := by
  induction s with
  | nil => rfl
  | cons c r ih =>
    rw [cutL_cons]
    obtain ⟨w, ws, h⟩ := cutL_ne r
    rw [h] at ih ⊢
    by_cases h32 : c.toNat = 32
    · rw [if_pos h32]
      have hc : c = 32 := UInt8.toNat_inj.1 h32
      show [] ++ tailW (w :: ws) = c :: r
      rw [tailW_cons, hc, ← ih]
      rfl
    · rw [if_neg h32]
      show (c :: w) ++ tailW ws = c :: r
      rw [← ih]
      rfl
theorem cutL_app (a b : List UInt8) : cutL (a ++ 32 :: b) = cutL a ++ cutL b := by
  induction a with
  | nil => rfl
  | cons c r ih =>
    rw [List.cons_append, cutL_cons, cutL_cons, ih]
    obtain ⟨w, ws, h⟩ := cutL_ne r
    rw [h]
    by_cases h32 : c.toNat = 32
    · rw [if_pos h32, if_pos h32]; rfl
    · rw [if_neg h32, if_neg h32]; rfl
theorem cutL_one (a : List UInt8) (h : (cutL a).length = 1) : cutL a = [a] := by
  have h1 := lineJ_cut a
  obtain ⟨w, ws, hc⟩ := cutL_ne a
  rw [hc] at h h1 ⊢
  have h2 : ws = [] := List.eq_nil_of_length_eq_zero (by simpa using h)
  subst h2
  have : w ++ tailW [] = a := h1
  rw [show tailW [] = [] from rfl, List.append_nil] at this
  rw [this]
theorem cut_ge (ws : List (List UInt8)) : ∀ w, ws.length + 1 ≤ (cutL (w ++ tailW ws)).length := by
  induction ws with
  | nil =>
    intro w
    rw [show tailW [] = [] from rfl, List.append_nil]
    obtain ⟨a, b, h⟩ := cutL_ne w
    rw [h]; simp
  | cons v vs ih =>
    intro w
    rw [tailW_cons, cutL_app, List.length_append]
    obtain ⟨a, b, h⟩ := cutL_ne w
    have := ih v
    rw [h]; simp; omega
/-- Words that are joined come back, if there are no more. -/
theorem cut_join (ws : List (List UInt8)) : ∀ w, (cutL (w ++ tailW ws)).length = ws.length + 1 → cutL (w ++ tailW ws) = w :: ws := by
  induction ws with
  | nil =>
    intro w h
    rw [show tailW [] = [] from rfl, List.append_nil] at h ⊢
    exact cutL_one w (by simpa using h)
  | cons v vs ih =>
    intro w h
    rw [tailW_cons, cutL_app] at h ⊢
    rw [List.length_append] at h
    have h2 := cut_ge vs v
    have h3 : 1 ≤ (cutL w).length := by
      obtain ⟨a, b, h⟩ := cutL_ne w
      rw [h]; simp
    rw [List.length_cons] at h
    rw [cutL_one w (by omega), ih v (by omega)]
    rfl

/-- What is wrong with words, sign by sign; with a line. -/
def pairE : List UInt8 → List (List UInt8) → Int
  | c :: p, w :: ws => if signE c w = 0 then pairE p ws else signE c w
  | _, _ => 0
theorem pairE_cons (c : UInt8) (p : List UInt8) (w : List UInt8) (ws : List (List UInt8)) : pairE (c :: p) (w :: ws) = if signE c w = 0 then pairE p ws else signE c w := rfl
def lfitsB (s word pat : List UInt8) : Bool := isPat pat && (lineIs s && (decide ((lineW s).length = pat.length + 1) && decide ((lineW s).headD [] = word)))
def checkE (s word pat : List UInt8) : Int := if lfitsB s word pat then pairE pat (lineW s).tail else 2

theorem pairE_drop (pat : List UInt8) (ws : List (List UInt8)) (i : Nat) (c : UInt8) (w : List UInt8) (hc : pat[i]? = some c) (hw : ws[i]? = some w) : pairE (pat.drop i) (ws.drop i) = if signE c w = 0 then pairE (pat.drop (i + 1)) (ws.drop (i + 1)) else signE c w := by
  have h1 := (List.getElem?_eq_some_iff.1 hc).1
  have e1 : pat[i] = c := (List.getElem?_eq_some_iff.1 hc).2
  have h2 := (List.getElem?_eq_some_iff.1 hw).1
  have e2 : ws[i] = w := (List.getElem?_eq_some_iff.1 hw).2
  rw [List.drop_eq_getElem_cons h1, List.drop_eq_getElem_cons h2, e1, e2, pairE_cons]
theorem pairE_end (pat : List UInt8) (ws : List (List UInt8)) (i : Nat) (h : pat.length ≤ i) : pairE (pat.drop i) (ws.drop i) = 0 := by
  rw [List.drop_eq_nil_of_le h]
  rfl

def readL (pat : List UInt8) (ws : List (List UInt8)) : List Fd := List.zipWith readF pat ws
def textL (pat : List UInt8) (fs : List Fd) : List (List UInt8) := List.zipWith textF pat fs
def bareL (pat : List UInt8) (fs : List Fd) : List Fd := List.zipWith bareF pat fs
/-- Fields as a line. -/
def lineF (word pat : List UInt8) (fs : List Fd) : List UInt8 := word ++ tailW (textL pat fs)

theorem text_readL (pat : List UInt8) : ∀ ws : List (List UInt8), pat.length = ws.length → pairE pat ws = 0 → textL pat (readL pat ws) = ws := by
  induction pat with
  | nil =>
    intro ws h _
    have : ws = [] := List.eq_nil_of_length_eq_zero h.symm
    subst this
    rfl
  | cons c p ih =>
    intro ws h he
    cases ws with
    | nil => simp at h
    | cons w ws =>
      rw [pairE_cons] at he
      by_cases h0 : signE c w = 0
      · rw [if_pos h0] at he
        show textF c (readF c w) :: textL p (readL p ws) = w :: ws
        rw [text_read c w h0, ih ws (by simpa using h) he]
      · rw [if_neg h0] at he
        exact absurd he h0
theorem read_textL (pat : List UInt8) : ∀ fs : List Fd, (∀ f ∈ fs, f.n ≤ 18446744073709551615) → isPat pat = true → pat.length = fs.length → readL pat (textL pat fs) = bareL pat fs := by
  induction pat with
  | nil => intro fs _ _ _; rfl
  | cons c p ih =>
    intro fs hn hp hl
    cases fs with
    | nil => rfl
    | cons f fs =>
      have hp2 : sgB c = true ∧ isPat p = true := by
        unfold isPat at hp ⊢
        rw [List.all_cons, Bool.and_eq_true] at hp
        exact hp
      show readF c (textF c f) :: readL p (textL p fs) = bareF c f :: bareL p fs
      rw [read_text c f (hn f (by simp)) hp2.1, ih fs (fun g hg => hn g (by simp [hg])) hp2.2 (by simpa using hl)]

/-- A line that fits. -/
theorem fits_of (s word pat : List UInt8) (h : lfitsB s word pat = true) : isPat pat = true ∧ ∃ ws, ws.length = pat.length ∧ lineW s = word :: ws ∧ cutL s = word :: ws ∧ s = word ++ tailW ws := by
  unfold lfitsB at h
  simp only [Bool.and_eq_true, decide_eq_true_eq] at h
  obtain ⟨h1, h2, h3, h4⟩ := h
  refine ⟨h1, ?_⟩
  cases hl : lineW s with
  | nil => rw [hl] at h3; simp at h3
  | cons w ws =>
    rw [hl] at h3 h4
    have h4' : w = word := h4
    subst h4'
    have hs : s ≠ [] := by
      rintro rfl
      have : lineW [] = [] := rfl
      rw [this] at hl
      cases hl
    have hc : cutL s = w :: ws := by
      unfold lineIs at h2
      unfold lineW at hl
      rw [wordsL_eq s hs] at h2 hl
      cases hb : lineB true s
      · rw [hb] at h2; cases h2
      · rw [hb] at hl; exact hl
    refine ⟨ws, by simpa using h3, rfl, hc, ?_⟩
    have := lineJ_cut s
    rw [hc] at this
    exact this.symm
theorem check_zero (s word pat : List UInt8) (h : checkE s word pat = 0) : lfitsB s word pat = true ∧ pairE pat (lineW s).tail = 0 := by
  unfold checkE at h
  cases hf : lfitsB s word pat
  · rw [hf, if_neg (by decide)] at h; exact absurd h (by decide)
  · rw [hf, if_pos rfl] at h; exact ⟨rfl, h⟩
/-- The fields of a line that fits lead back to it. -/
theorem line_read (s word pat : List UInt8) (h : checkE s word pat = 0) : lineF word pat (readL pat (lineW s).tail) = s := by
  obtain ⟨h1, h2⟩ := check_zero s word pat h
  obtain ⟨h3, ws, h4, h5, _, h7⟩ := fits_of s word pat h1
  unfold lineF
  rw [h5] at h2 ⊢
  rw [List.tail_cons] at h2 ⊢
  rw [text_readL pat ws h4.symm h2, ← h7]
/-- Fields come back from their line. -/
theorem read_line (word pat : List UInt8) (fs : List Fd) (hn : ∀ f ∈ fs, f.n ≤ 18446744073709551615) (hl : fs.length = pat.length) (h : checkE (lineF word pat fs) word pat = 0) :
    readL pat (lineW (lineF word pat fs)).tail = bareL pat fs := by
  obtain ⟨h1, h2⟩ := check_zero _ word pat h
  obtain ⟨h3, ws, h4, h5, h6, h7⟩ := fits_of _ word pat h1
  have hlen : (textL pat fs).length = pat.length := by unfold textL; simp [hl]
  have hj := cut_join (textL pat fs) word (by
    show (cutL (lineF word pat fs)).length = _
    rw [h6, hlen, ← h4]; rfl)
  have h8 : word :: ws = word :: textL pat fs := h6.symm.trans hj
  injection h8 with _ h9
  rw [h5, List.tail_cons, h9]
  exact read_textL pat fs hn h3 hl.symm

theorem readL_at (pat : List UInt8) (ws : List (List UInt8)) (i : Nat) (c : UInt8) (w : List UInt8) (hc : pat[i]? = some c) (hw : ws[i]? = some w) : (readL pat ws)[i]? = some (readF c w) := by
  unfold readL
  rw [List.getElem?_zipWith, hc, hw]
theorem textL_at (pat : List UInt8) (fs : List Fd) (i : Nat) (c : UInt8) (f : Fd) (hc : pat[i]? = some c) (hf : fs[i]? = some f) : (textL pat fs)[i]? = some (textF c f) := by
  unfold textL
  rw [List.getElem?_zipWith, hc, hf]
theorem bareL_at (pat : List UInt8) (fs : List Fd) (i : Nat) (c : UInt8) (f : Fd) (hc : pat[i]? = some c) (hf : fs[i]? = some f) : (bareL pat fs)[i]? = some (bareF c f) := by
  unfold bareL
  rw [List.getElem?_zipWith, hc, hf]

end Go.Proofs.YtpjjmnkiepdllaaGreatDoor
