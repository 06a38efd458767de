/-
  Arithmetic of lines: the words of a line, how a line is cut, runes that are read of it. No program stands here.
-/
import Derived.Test.YtpjjmnkiepdllaaGreatDoorNaM
import Derived.Lib.Split
import Derived.Lib.SplitLaws
import Derived.Lib.IndexBytes
import Derived.Lib.DecodeN
namespace Go.Proofs.YtpjjmnkiepdllaaGreatDoor
open Go.RowKit
set_option linter.unusedVariables false
set_option linter.unusedSimpArgs false

/-- Whether bytes may go on a line, behind a blank or not. -/
def lineB : Bool → List UInt8 → Bool
  | k, [] => !k
  | k, c :: r => if c.toNat < 32 then false else if c.toNat = 32 then (if k then false else lineB true r) else lineB false r

theorem lineB_cons (k : Bool) (c : UInt8) (r : List UInt8) : lineB k (c :: r) = if c.toNat < 32 then false else if c.toNat = 32 then (if k then false else lineB true r) else lineB false r := rfl

/-- One byte more at the first piece. -/
def onHead (c : UInt8) : List (List UInt8) → List (List UInt8)
  | [] => []
  | w :: ws => (c :: w) :: ws
/-- Bytes cut at each blank. -/
def cutL : List UInt8 → List (List UInt8)
  | [] => [[]]
  | c :: r => if c.toNat = 32 then [] :: cutL r else onHead c (cutL r)

theorem cutL_cons (c : UInt8) (r : List UInt8) : cutL (c :: r) = if c.toNat = 32 then [] :: cutL r else onHead c (cutL r) := rfl
theorem cutL_ne (l : List UInt8) : ∃ w ws, cutL l = w :: ws := by
  induction l with
  | nil => exact ⟨[], [], rfl⟩
  | cons c r ih =>
    obtain ⟨w, ws, h⟩ := ih
    rw [cutL_cons]
    split
    · exact ⟨_, _, rfl⟩
    · rw [h]
      exact ⟨_, _, rfl⟩

/-- The words of what is left of a line, behind a word's beginning and the words ahead. -/
def wordsR : List UInt8 → List (List UInt8) → List UInt8 → Option (List (List UInt8))
  | w, out, [] => if w = [] then none else some (out ++ [w])
  | w, out, c :: r => if c.toNat = 32 then (if w = [] then none else wordsR [] (out ++ [w]) r) else if c.toNat < 32 then none else wordsR (w ++ [c]) out r

theorem wordsR_cons (w : List UInt8) (out : List (List UInt8)) (c : UInt8) (r : List UInt8) : wordsR w out (c :: r) = if c.toNat = 32 then (if w = [] then none else wordsR [] (out ++ [w]) r) else if c.toNat < 32 then none else wordsR (w ++ [c]) out r := rfl

/-- A word's beginning laid ahead of the first piece. -/
def joinHead (w : List UInt8) : List (List UInt8) → List (List UInt8)
  | [] => []
  | h :: t => (w ++ h) :: t
theorem joinHead_on (w : List UInt8) (c : UInt8) (L : List (List UInt8)) : joinHead w (onHead c L) = joinHead (w ++ [c]) L := by
  cases L with
  | nil => rfl
  | cons h t => simp [joinHead, onHead]

theorem wordsR_eq (l : List UInt8) : ∀ w out, wordsR w out l = if lineB (decide (w = [])) l then some (out ++ joinHead w (cutL l)) else none := by
  induction l with
  | nil =>
    intro w out
    by_cases hw : w = []
    · subst hw; rfl
    · simp [wordsR, lineB, hw, cutL, joinHead]
  | cons c r ih =>
    intro w out
    rw [wordsR_cons, lineB_cons, cutL_cons]
    by_cases h32 : c.toNat = 32
    · rw [if_pos h32, if_neg (show ¬ c.toNat < 32 by omega), if_pos h32, if_pos h32]
      by_cases hw : w = []
      · subst hw; rfl
      · rw [if_neg hw, decide_eq_false hw, ih [] (out ++ [w])]
        obtain ⟨h, t, hc⟩ := cutL_ne r
        rw [hc]
        simp [joinHead]
    · rw [if_neg h32, if_neg h32, if_neg h32]
      by_cases hl : c.toNat < 32
      · rw [if_pos hl, if_pos hl]; simp
      · rw [if_neg hl, if_neg hl, ih (w ++ [c]) out, joinHead_on]
        rw [decide_eq_false (by simp)]

/-- The words of a line. -/
def wordsL (l : List UInt8) : Option (List (List UInt8)) := if l = [] then some [] else wordsR [] [] l

theorem wordsL_eq (l : List UInt8) (h : l ≠ []) : wordsL l = if lineB true l then some (cutL l) else none := by
  unfold wordsL
  rw [if_neg h, wordsR_eq]
  obtain ⟨a, b, hc⟩ := cutL_ne l
  rw [hc]
  simp [joinHead]

theorem splitK_ne (b : UInt8) (s : List UInt8) (k : Nat) (h : b ≠ 32) : Lib.splitK [32] 0 k (b :: s) = onHead b (Lib.splitK [32] 0 k s) := by
  cases k with
  | zero => rfl
  | succ k =>
    have hi : Lib.index (b :: s) [32] = if Lib.index s [32] == -1 then -1 else Lib.index s [32] + 1 := by
      rw [Lib.index_one, Lib.index_one]
      show (if b == 32 then (0 : Int) else _) = _
      rw [if_neg (by simpa using h)]
    have hg := Lib.index_ge s [32]
    unfold Lib.splitK
    by_cases hm : Lib.index s [32] = -1
    · rw [hi, hm]
      rfl
    · have e1 : (Lib.index s [32] == -1) = false := by simpa using hm
      have e2 : (Lib.index s [32] + 1 == -1) = false := by simp; omega
      rw [hi, e1]
      simp only [if_false, e2, Bool.false_eq_true]
      obtain ⟨j, hj⟩ : ∃ j : Nat, Lib.index s [32] = j := ⟨(Lib.index s [32]).toNat, by omega⟩
      rw [hj, show ((j : Int) + 1).toNat = j + 1 by omega, show ((j : Int)).toNat = j by omega]
      show (b :: s).take (j + 1 + 0) :: Lib.splitK [32] 0 k ((b :: s).drop (j + 1 + 1)) = onHead b (s.take (j + 0) :: Lib.splitK [32] 0 k (s.drop (j + 1)))
      rfl
theorem splitK_eq (s : List UInt8) (k : Nat) : Lib.splitK [32] 0 (k + 1) (32 :: s) = [] :: Lib.splitK [32] 0 k s := by
  have hi : Lib.index (32 :: s) [32] = 0 := by
    rw [Lib.index_one]
    rfl
  rw [Lib.splitK, hi]
  rfl
theorem split_cut (l : List UInt8) : Lib.splitK [32] 0 (Lib.count l [32]) l = cutL l := by
  induction l with
  | nil => rfl
  | cons c r ih =>
    rw [cutL_cons]
    by_cases h : c = 32
    · subst h
      rw [Lib.count_cons_eq, Nat.add_comm, splitK_eq, ih]
      rfl
    · have h2 : c.toNat ≠ 32 := fun e => h (UInt8.toNat_inj.1 e)
      rw [Lib.count_cons_ne c 32 r h, splitK_ne c r _ h, ih, if_neg h2]

theorem decodeN_two (n b0 b1 b2 b3 : Nat) (h : 128 ≤ b0) (h2 : 2 ≤ (Lib.decodeN n b0 b1 b2 b3).2) : 1 < n ∧ 128 ≤ b1 := by
  unfold Lib.decodeN at h2
  rw [if_neg (by omega)] at h2
  split at h2
  · rename_i hc
    omega
  · split at h2
    · rename_i hc
      omega
    · split at h2
      · rename_i hc
        omega
      · exact absurd h2 (by decide)
theorem decodeN_three (n b0 b1 b2 b3 : Nat) (h : 128 ≤ b0) (h2 : 3 ≤ (Lib.decodeN n b0 b1 b2 b3).2) : 2 < n ∧ 128 ≤ b2 := by
  unfold Lib.decodeN at h2
  rw [if_neg (by omega)] at h2
  split at h2
  · split at h2
    · exact absurd (show 3 ≤ 2 from h2) (by omega)
    · exact absurd h2 (by decide)
  · split at h2
    · rename_i hc
      omega
    · split at h2
      · rename_i hc
        omega
      · exact absurd h2 (by decide)
theorem decodeN_four (n b0 b1 b2 b3 : Nat) (h : 128 ≤ b0) (h2 : 4 ≤ (Lib.decodeN n b0 b1 b2 b3).2) : 3 < n ∧ 128 ≤ b3 := by
  unfold Lib.decodeN at h2
  rw [if_neg (by omega)] at h2
  split at h2
  · split at h2
    · exact absurd (show 4 ≤ 2 from h2) (by omega)
    · exact absurd h2 (by decide)
  · split at h2
    · split at h2
      · exact absurd (show 4 ≤ 3 from h2) (by omega)
      · exact absurd h2 (by decide)
    · split at h2
      · rename_i hc
        omega
      · exact absurd h2 (by decide)
theorem decodeN_le (n b0 b1 b2 b3 : Nat) : (Lib.decodeN n b0 b1 b2 b3).2 ≤ 4 := by
  unfold Lib.decodeN
  repeat' split
  all_goals (dsimp only; omega)

/-- A rune that is read is of bytes that are no signs below 128, unless it is one. -/
theorem decode_bytes (s : ByteArray) (pos : Nat) (h : pos < s.size) (ha : 128 ≤ (s[pos]'h).toNat) : ∀ j, 1 ≤ j → j < (Utf8.decode s pos).2 → ∃ hj : pos + j < s.size, 128 ≤ (s[pos + j]'hj).toNat := by
  intro j hj1 hj2
  have hget : ∀ k (hk : pos + k < s.size), (s.get! (pos + k)).toNat = (s[pos + k]'hk).toNat := fun k hk => congrArg UInt8.toNat (get_at s (pos + k) hk)
  have e0 : (s.get! pos).toNat = (s[pos]'h).toNat := congrArg UInt8.toNat (get_at s pos h)
  rw [Lib.decode_at, e0] at hj2
  have h4 := decodeN_le (s.size - pos) (s[pos]'h).toNat (s.get! (pos + 1)).toNat (s.get! (pos + 2)).toNat (s.get! (pos + 3)).toNat
  have h1 := decodeN_two (s.size - pos) (s[pos]'h).toNat (s.get! (pos + 1)).toNat (s.get! (pos + 2)).toNat (s.get! (pos + 3)).toNat ha
  have h2 := decodeN_three (s.size - pos) (s[pos]'h).toNat (s.get! (pos + 1)).toNat (s.get! (pos + 2)).toNat (s.get! (pos + 3)).toNat ha
  have h3 := decodeN_four (s.size - pos) (s[pos]'h).toNat (s.get! (pos + 1)).toNat (s.get! (pos + 2)).toNat (s.get! (pos + 3)).toNat ha
  obtain rfl | rfl | rfl : j = 1 ∨ j = 2 ∨ j = 3 := by omega
  · obtain ⟨g1, g2⟩ := h1 (by omega)
    have hk : pos + 1 < s.size := by omega
    exact ⟨hk, by rw [← hget 1 hk]; exact g2⟩
  · obtain ⟨g1, g2⟩ := h2 (by omega)
    have hk : pos + 2 < s.size := by omega
    exact ⟨hk, by rw [← hget 2 hk]; exact g2⟩
  · obtain ⟨g1, g2⟩ := h3 (by omega)
    have hk : pos + 3 < s.size := by omega
    exact ⟨hk, by rw [← hget 3 hk]; exact g2⟩

/-- Bytes of greater runes are passed over. -/
theorem lineB_high (l : List UInt8) (k : Bool) (pos : Nat) : ∀ n, 1 ≤ n → (∀ j, j < n → ∃ b, l[pos + j]? = some b ∧ 128 ≤ b.toNat) → lineB k (l.drop pos) = lineB false (l.drop (pos + n)) := by
  intro n
  induction n with
  | zero => intro h; omega
  | succ n ih =>
    intro _ h
    have hstep : ∀ q p, (∃ b, l[p]? = some b ∧ 128 ≤ b.toNat) → lineB q (l.drop p) = lineB false (l.drop (p + 1)) := by
      intro q p hb
      obtain ⟨b, hb1, hb2⟩ := hb
      have hlt := (List.getElem?_eq_some_iff.1 hb1).1
      have he : l[p] = b := (List.getElem?_eq_some_iff.1 hb1).2
      rw [List.drop_eq_getElem_cons hlt, he, lineB_cons, if_neg (by omega), if_neg (by omega)]
    by_cases hn : n = 0
    · subst hn
      exact hstep k pos (by simpa using h 0 (by omega))
    · rw [ih (by omega) (fun j hj => h j (by omega)), hstep false (pos + n) (h n (by omega))]
      rfl
theorem lineB_step (l : List UInt8) (k : Bool) (pos : Nat) (b : UInt8) (h : l[pos]? = some b) :
    lineB k (l.drop pos) = if b.toNat < 32 then false else if b.toNat = 32 then (if k then false else lineB true (l.drop (pos + 1))) else lineB false (l.drop (pos + 1)) := by
  have hlt := (List.getElem?_eq_some_iff.1 h).1
  have he : l[pos] = b := (List.getElem?_eq_some_iff.1 h).2
  rw [List.drop_eq_getElem_cons hlt, he]
  rfl
theorem lineB_end (l : List UInt8) (k : Bool) (pos : Nat) (h : l.length ≤ pos) : lineB k (l.drop pos) = !k := by
  rw [List.drop_eq_nil_of_le h]
  rfl

end Go.Proofs.YtpjjmnkiepdllaaGreatDoor
