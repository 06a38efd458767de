/-
  Boxes: the box at the beginning of bytes, all boxes from the beginning on, boxes that are cut off, a box that is spoilt. No program stands here.
-/
import Derived.Test.YthjikbhjciphiaaGreatDoorZz5
import Derived.Test.YthjikbhjciphiaaGreatDoorZz3
import Derived.Lib.Mul64
import Derived.Laws.Bits64b
import Derived.Deep.CutBlock
import Derived.Test.YthjikbhjciphiaaGreatDoorZz1
import Derived.Laws.Externs
namespace Go.Proofs.YthjikbhjciphiaaGreatDoor
open Go.RowKit
set_option linter.unusedVariables false
set_option linter.unusedSimpArgs false

/-- The box of bytes. -/
def boxC (b : List UInt8) : List UInt8 := sealC (le 2 b.length ++ b)
theorem boxC_len (b : List UInt8) : (boxC b).length = b.length + 6 := by
  unfold boxC
  rw [sealC_len, List.length_append, le_len]
  omega
/-- The number that a box begins with. -/
def nB (r : List UInt8) : Nat := num (r.take 2)
/-- The box at the beginning: its bytes, its size, what is wrong. -/
def headC (r : List UInt8) : List UInt8 × Nat × Int :=
  if r.length < 2 then ([], 0, 1) else if nB r = 0 then ([], 0, 2) else if 4096 < nB r then ([], 0, 3) else if r.length < nB r + 6 then ([], 0, 1)
  else if boxC ((r.drop 2).take (nB r)) = r.take (nB r + 6) then ((r.drop 2).take (nB r), nB r + 6, 0) else ([], 0, 4)
/-- The box at a place: its bytes, the place behind it, what is wrong. -/
def nextC (l : List UInt8) (a : Int) : List UInt8 × Nat × Int :=
  if a < 0 ∨ (l.length : Int) < a then ([], 0, 6) else if (headC (l.drop a.toNat)).2.2 = 0 then ((headC (l.drop a.toNat)).1, a.toNat + (headC (l.drop a.toNat)).2.1, 0) else ([], 0, (headC (l.drop a.toNat)).2.2)
/-- All boxes from the beginning on, and where they end. -/
def validF : Nat → List UInt8 → List (List UInt8) × Nat
  | 0, _ => ([], 0)
  | f + 1, r => if (headC r).2.2 = 0 then ((headC r).1 :: (validF f (r.drop (headC r).2.1)).1, (headC r).2.1 + (validF f (r.drop (headC r).2.1)).2) else ([], 0)
def validC (r : List UInt8) : List (List UInt8) × Nat := validF r.length r

theorem nB_le (r : List UInt8) : nB r < 65536 := by
  have h := num_lt (r.take 2)
  have h2 : (r.take 2).length ≤ 2 := by rw [List.length_take]; omega
  exact Nat.lt_of_lt_of_le h (Nat.le_trans (Nat.pow_le_pow_right (by decide) h2) (by decide))
/-- What a head is. -/
theorem head_cases (r : List UInt8) : ((headC r).2.2 = 0 ∧ 1 ≤ nB r ∧ nB r ≤ 4096 ∧ nB r + 6 ≤ r.length ∧ (headC r).1 = (r.drop 2).take (nB r) ∧ (headC r).2.1 = nB r + 6 ∧ boxC (headC r).1 = r.take (nB r + 6)) ∨ ((headC r).2.2 ≠ 0 ∧ (headC r).1 = [] ∧ (headC r).2.1 = 0) := by
  unfold headC
  split
  · exact .inr ⟨by decide, rfl, rfl⟩
  · split
    · exact .inr ⟨by decide, rfl, rfl⟩
    · split
      · exact .inr ⟨by decide, rfl, rfl⟩
      · split
        · exact .inr ⟨by decide, rfl, rfl⟩
        · split
          · rename_i h
            exact .inl ⟨rfl, by omega, by omega, by omega, rfl, rfl, h⟩
          · exact .inr ⟨by decide, rfl, rfl⟩
theorem head_size (r : List UInt8) (h : (headC r).2.2 = 0) : 7 ≤ (headC r).2.1 ∧ (headC r).2.1 ≤ r.length ∧ (headC r).1.length + 6 = (headC r).2.1 ∧ (headC r).2.1 ≤ 4102 := by
  rcases head_cases r with ⟨_, h1, h2, h3, h4, h5, _⟩ | ⟨h0, _⟩
  · rw [h4, h5, List.length_take, List.length_drop]
    omega
  · exact absurd h h0
theorem boxC_head (b r : List UInt8) : (boxC b ++ r).take 2 = le 2 b.length ∧ ((boxC b ++ r).drop 2).take b.length = b := by
  have h2 := le_len 2 b.length
  have e : boxC b ++ r = le 2 b.length ++ (b ++ (le 4 (crcSum (le 2 b.length ++ b)) ++ r)) := by
    unfold boxC sealC
    simp [List.append_assoc]
  rw [e, List.take_left' h2, List.drop_left' h2, List.take_left' rfl]
  exact ⟨rfl, rfl⟩
/-- A box at the beginning is found. -/
theorem head_box (b r : List UInt8) (h1 : 1 ≤ b.length) (h2 : b.length ≤ 4096) : headC (boxC b ++ r) = (b, b.length + 6, 0) := by
  obtain ⟨e1, e2⟩ := boxC_head b r
  have hl := boxC_len b
  have hn : nB (boxC b ++ r) = b.length := by
    unfold nB
    rw [e1, num_le]
    exact Nat.mod_eq_of_lt (by omega)
  have ht : (boxC b ++ r).take (b.length + 6) = boxC b := List.take_left' hl
  unfold headC
  rw [hn, if_neg (by rw [List.length_append, hl]; omega), if_neg (by omega), if_neg (by omega), if_neg (by rw [List.length_append, hl]; omega), e2, ht, if_pos rfl]
/-- A box that is cut off is none. -/
theorem head_torn (b : List UInt8) (m : Nat) (h1 : 1 ≤ b.length) (h2 : b.length ≤ 4096) (hm : m < b.length + 6) : (headC ((boxC b).take m)).2.2 = 1 := by
  have hl := boxC_len b
  have hlen : ((boxC b).take m).length = m := by rw [List.length_take]; omega
  unfold headC
  by_cases h0 : m < 2
  · rw [if_pos (by omega)]
  · have e1 := (boxC_head b []).1
    rw [List.append_nil] at e1
    have hn : nB ((boxC b).take m) = b.length := by
      unfold nB
      rw [List.take_take, Nat.min_eq_left (by omega), e1, num_le]
      exact Nat.mod_eq_of_lt (by omega)
    rw [hn, if_neg (by omega), if_neg (by omega), if_neg (by omega), if_pos (by omega)]

theorem validF_more : ∀ (f : Nat) (r : List UInt8), r.length ≤ f → validF f r = validF r.length r := by
  intro f
  induction f using Nat.strongRecOn with
  | ind f ih =>
    intro r hr
    cases f with
    | zero => rw [show r.length = 0 by omega]
    | succ f =>
      by_cases h0 : (headC r).2.2 = 0
      · obtain ⟨h1, h2, _⟩ := head_size r h0
        obtain ⟨k, hk⟩ : ∃ k, r.length = k + 1 := ⟨r.length - 1, by omega⟩
        have hd : (r.drop (headC r).2.1).length ≤ k := by rw [List.length_drop]; omega
        have hd2 : (r.drop (headC r).2.1).length ≤ f := by omega
        rw [hk]
        unfold validF
        rw [if_pos h0, if_pos h0, ih f (by omega) _ hd2]
        by_cases hkf : k = f
        · rw [hkf, ih f (by omega) _ hd2]
        · rw [ih k (by omega) _ hd]
      · have e1 : validF (f + 1) r = ([], 0) := by unfold validF; rw [if_neg h0]
        rw [e1]
        cases hl : r.length with
        | zero => rfl
        | succ k => unfold validF; rw [if_neg h0]
theorem valid_go (r : List UInt8) (h : (headC r).2.2 = 0) : validC r = ((headC r).1 :: (validC (r.drop (headC r).2.1)).1, (headC r).2.1 + (validC (r.drop (headC r).2.1)).2) := by
  obtain ⟨h1, h2, _⟩ := head_size r h
  obtain ⟨k, hk⟩ : ∃ k, r.length = k + 1 := ⟨r.length - 1, by omega⟩
  have hd : (r.drop (headC r).2.1).length ≤ k := by rw [List.length_drop]; omega
  have e := validF_more k (r.drop (headC r).2.1) hd
  unfold validC
  rw [hk]
  conv => lhs; unfold validF
  rw [if_pos h, e]
theorem valid_stop (r : List UInt8) (h : (headC r).2.2 ≠ 0) : validC r = ([], 0) := by
  unfold validC
  cases r.length with
  | zero => rfl
  | succ k => unfold validF; rw [if_neg h]
theorem valid_end (r : List UInt8) : (validC r).2 ≤ r.length ∧ (validC r).1.length ≤ r.length := by
  suffices h : ∀ n (r : List UInt8), r.length = n → (validC r).2 ≤ r.length ∧ (validC r).1.length ≤ r.length from h r.length r rfl
  intro n
  induction n using Nat.strongRecOn with
  | ind n ih =>
    intro r hr
    by_cases h0 : (headC r).2.2 = 0
    · obtain ⟨h1, h2, _⟩ := head_size r h0
      have hd : (r.drop (headC r).2.1).length = r.length - (headC r).2.1 := List.length_drop
      obtain ⟨i1, i2⟩ := ih _ (by omega) (r.drop (headC r).2.1) hd
      rw [valid_go r h0]
      simp only [List.length_cons]
      omega
    · rw [valid_stop r h0]
      exact ⟨Nat.zero_le _, Nat.zero_le _⟩

/-- Boxes, one behind the other. -/
def boxesC (l : List (List UInt8)) : List UInt8 := (l.map boxC).flatten
/-- Those of them that are whole within n bytes, and where they end. -/
def cutB : List (List UInt8) → Nat → List (List UInt8) × Nat
  | [], _ => ([], 0)
  | b :: t, n => if b.length + 6 ≤ n then (b :: (cutB t (n - (b.length + 6))).1, b.length + 6 + (cutB t (n - (b.length + 6))).2) else ([], 0)
theorem boxesC_cons (b : List UInt8) (t : List (List UInt8)) : boxesC (b :: t) = boxC b ++ boxesC t := by
  unfold boxesC; rw [List.map_cons, List.flatten_cons]
theorem boxesC_snoc (t : List (List UInt8)) (b : List UInt8) : boxesC (t ++ [b]) = boxesC t ++ boxC b := by
  unfold boxesC; simp
/-- Cut off anywhere: just those are valid that are whole. -/
theorem valid_cut : ∀ (l : List (List UInt8)) (n : Nat), (∀ b ∈ l, 1 ≤ b.length ∧ b.length ≤ 4096) → validC ((boxesC l).take n) = cutB l n := by
  intro l
  induction l with
  | nil =>
    intro n _
    show validC ((boxesC []).take n) = ([], 0)
    rw [show boxesC [] = [] from rfl, List.take_nil]
    rfl
  | cons b t ih =>
    intro n h
    obtain ⟨h1, h2⟩ := h b List.mem_cons_self
    have hl := boxC_len b
    unfold cutB
    rw [boxesC_cons, List.take_append, hl]
    by_cases hn : b.length + 6 ≤ n
    · rw [if_pos hn, List.take_of_length_le (by omega)]
      have hh := head_box b ((boxesC t).take (n - (b.length + 6))) h1 h2
      rw [valid_go _ (by rw [hh]), hh]
      simp only
      rw [List.drop_left' hl, ih _ (fun x hx => h x (List.mem_cons_of_mem _ hx))]
    · rw [if_neg hn, show n - (b.length + 6) = 0 by omega, List.take_zero, List.append_nil]
      exact valid_stop _ (by rw [head_torn b n h1 h2 (by omega)]; decide)
/-- All bytes of boxes. -/
def lenB (l : List (List UInt8)) : Nat := (boxesC l).length
theorem lenB_cons (b : List UInt8) (t : List (List UInt8)) : lenB (b :: t) = b.length + 6 + lenB t := by
  unfold lenB; rw [boxesC_cons, List.length_append, boxC_len]
theorem lenB_snoc (t : List (List UInt8)) (b : List UInt8) : lenB (t ++ [b]) = lenB t + (b.length + 6) := by
  unfold lenB; rw [boxesC_snoc, List.length_append, boxC_len]
theorem cutB_all : ∀ (l : List (List UInt8)) (n : Nat), lenB l ≤ n → cutB l n = (l, lenB l) := by
  intro l
  induction l with
  | nil => intro n _; rfl
  | cons b t ih =>
    intro n h
    rw [lenB_cons] at h ⊢
    unfold cutB
    rw [if_pos (by omega), ih _ (by omega)]
theorem cutB_snoc : ∀ (l : List (List UInt8)) (b : List UInt8) (n : Nat), n < lenB (l ++ [b]) → cutB (l ++ [b]) n = cutB l n := by
  intro l
  induction l with
  | nil =>
    intro b n h
    rw [List.nil_append, lenB_cons] at h
    have : lenB [] = 0 := rfl
    show cutB [b] n = ([], 0)
    unfold cutB
    rw [if_neg (by omega)]
  | cons a t ih =>
    intro b n h
    rw [List.cons_append, lenB_cons] at h
    show cutB (a :: (t ++ [b])) n = cutB (a :: t) n
    unfold cutB
    by_cases hn : a.length + 6 ≤ n
    · rw [if_pos hn, if_pos hn, ih b _ (by omega)]
    · rw [if_neg hn, if_neg hn]

/-- A box that is spoilt behind its number is none. -/
theorem head_spoilt (b : List UInt8) (a : Nat) (x : List UInt8) (h1 : 1 ≤ b.length) (h2 : b.length ≤ 4096) (ha : a ≤ b.length) (hx : x.length = 4) (h0 : num x ≠ 0) :
    headC (xorL (boxC b) (List.replicate (2 + a) 0 ++ x ++ List.replicate (b.length - a) 0)) = ([], 0, 4) := by
  have hl := boxC_len b
  have h2l := le_len 2 b.length
  have hs := spoilt (le 2 b.length ++ b) (b.length + 2) (2 + a) x (by rw [List.length_append, h2l]; omega) (by omega) hx h0
  rw [show b.length + 2 - (2 + a) = b.length - a by omega] at hs
  change isSeal (xorL (boxC b) (List.replicate (2 + a) 0 ++ x ++ List.replicate (b.length - a) 0)) = false at hs
  have hd : (List.replicate (2 + a) (0 : UInt8) ++ x ++ List.replicate (b.length - a) 0).length = b.length + 6 := by simp [hx]; omega
  have ht2 : (xorL (boxC b) (List.replicate (2 + a) 0 ++ x ++ List.replicate (b.length - a) 0)).take 2 = le 2 b.length := by
    have e1 := (boxC_head b []).1
    rw [List.append_nil] at e1
    unfold xorL
    rw [List.take_zipWith, e1, List.append_assoc, ← List.replicate_append_replicate, List.append_assoc, List.take_left' (by simp)]
    have := xorL_zeros (le 2 b.length)
    unfold xorL at this
    rw [h2l] at this
    exact this
  have hlen : (xorL (boxC b) (List.replicate (2 + a) 0 ++ x ++ List.replicate (b.length - a) 0)).length = b.length + 6 := by rw [xorL_len _ _ (by rw [hl, hd]), hl]
  generalize xorL (boxC b) (List.replicate (2 + a) 0 ++ x ++ List.replicate (b.length - a) 0) = s at hs ht2 hlen
  have hn : nB s = b.length := by
    unfold nB
    rw [ht2, num_le]
    exact Nat.mod_eq_of_lt (by omega)
  unfold headC
  rw [hn, if_neg (by omega), if_neg (by omega), if_neg (by omega), if_neg (by omega), if_neg]
  intro e
  have e2 : s.take (b.length + 6) = s := List.take_of_length_le (by omega)
  rw [e2] at e
  have := isSeal_sealC (le 2 ((s.drop 2).take b.length).length ++ (s.drop 2).take b.length)
  change isSeal (boxC ((s.drop 2).take b.length)) = true at this
  rw [e, hs] at this
  cases this

end Go.Proofs.YthjikbhjciphiaaGreatDoor

/-
  Walks of package real: Pick, the library's Mul64; awake of law05.
-/
namespace Go.Proofs.YthjikbhjciphiaaGreatDoor
open Go.RowKit
set_option linter.unusedVariables false
set_option linter.unusedSimpArgs false

theorem m64_mask (a : Nat) (ha : a < 18446744073709551616) : bits .and .u64 (a : Int) 4294967295 = ((a % 4294967296 : Nat) : Int) := by
  have h := bits_and_u64_nat a 4294967295 ha (by omega)
  have e : a &&& 4294967295 = a % 4294967296 := Nat.and_two_pow_sub_one_eq_mod a 32
  rw [e] at h
  exact h
theorem m64_div (a : Nat) : (a : Int) / 4294967296 = ((a / 4294967296 : Nat) : Int) := by omega
theorem m64_mul (a b : Nat) : (a : Int) * (b : Int) = ((a * b : Nat) : Int) := (Int.natCast_mul a b).symm
theorem m64_add (a b : Nat) : (a : Int) + (b : Int) = ((a + b : Nat) : Int) := (Int.natCast_add a b).symm
theorem m64_wrap (a : Nat) (ha : a < 18446744073709551616) : IntKind.u64.wrap (a : Int) = (a : Int) := by rw [IntKind.wrap_u64]; omega
theorem m64_wrapM (a : Nat) : IntKind.u64.wrap (a : Int) = ((a % 18446744073709551616 : Nat) : Int) := by rw [IntKind.wrap_u64]; omega

set_option maxHeartbeats 1000000 in
theorem mul64_any (x y : Nat) (hx : x < 18446744073709551616) (hy : y < 18446744073709551616) (w : World) :
    Calls Tryz.prog 141 #[.int .u64 x, .int .u64 y] w fun e w' => e = .returned (.tuple #[.int .u64 ((x * y / 18446744073709551616 : Nat) : Int), .int .u64 ((x * y % 18446744073709551616 : Nat) : Int)]) ∧ w = w' := by
  obtain ⟨bd, bt, bw, hhi⟩ := Lib.mul64_hi x y hx hy
  have ba := Lib.half_mul_le (a := x / 4294967296) (b := y / 4294967296) (by omega) (by omega)
  have bb := Lib.half_mul_le (a := x / 4294967296) (b := y % 4294967296) (by omega) (by omega)
  have bc := Lib.half_mul_le (a := x % 4294967296) (b := y / 4294967296) (by omega) (by omega)
  have ba' : x / 4294967296 * (y / 4294967296) < 18446744073709551616 := by omega
  have bb' : x / 4294967296 * (y % 4294967296) < 18446744073709551616 := by omega
  have bc' : x % 4294967296 * (y / 4294967296) < 18446744073709551616 := by omega
  have bh1 : x / 4294967296 * (y / 4294967296) + (x / 4294967296 * (y % 4294967296) + x % 4294967296 * (y % 4294967296) / 4294967296) / 4294967296 < 18446744073709551616 := by omega
  have bh : x / 4294967296 * (y / 4294967296) + (x / 4294967296 * (y % 4294967296) + x % 4294967296 * (y % 4294967296) / 4294967296) / 4294967296 + ((x / 4294967296 * (y % 4294967296) + x % 4294967296 * (y % 4294967296) / 4294967296) % 4294967296 + x % 4294967296 * (y / 4294967296)) / 4294967296 < 18446744073709551616 := by omega
  go_enter Tryz.func141, Tryz.ntmps141
  go_wp2
  simp only [m64_mask x hx, m64_mask y hy, m64_div, m64_mul, m64_add, m64_wrap _ bd, m64_wrap _ bb', m64_wrap _ bt, m64_mask _ bt, m64_wrap _ bc', m64_wrap _ bw, m64_wrap _ ba', m64_wrap _ bh1, m64_wrap _ bh, m64_wrapM (x * y)]
  rw [hhi]
  go_ret2
  exact ⟨rfl, rfl⟩

theorem pick_sum (p : Nat) (h : p < 9007199254740992 * 9223372036854775808) :
    wrap64 (bits .or .u64 (IntKind.u64.wrap ((p : Int) / 18446744073709551616 * 2048)) ((p : Int) % 18446744073709551616 / 9007199254740992)) = ((p / 9007199254740992 : Nat) : Int) := by
  obtain ⟨a, ha⟩ : ∃ a, a = p / 18446744073709551616 := ⟨_, rfl⟩
  obtain ⟨c, hc⟩ : ∃ c, c = p % 18446744073709551616 / 9007199254740992 := ⟨_, rfl⟩
  have hp : p / 9007199254740992 = 2048 * a + c := by omega
  have hc2 : c < 2 ^ 11 := by omega
  have ha2 : a < 4503599627370496 := by omega
  have e1 : IntKind.u64.wrap ((p : Int) / 18446744073709551616 * 2048) = ((2048 * a : Nat) : Int) := by rw [IntKind.wrap_u64]; omega
  have e2 : (p : Int) % 18446744073709551616 / 9007199254740992 = ((c : Nat) : Int) := by omega
  have e3 := Nat.two_pow_add_eq_or_of_lt hc2 a
  have e4 : 2 ^ 11 * a = 2048 * a := rfl
  rw [e4] at e3
  rw [e1, e2, u64_or_nat (2048 * a) c (by omega) (by omega), ← e3, hp]
  clear e1 e2 e3 e4 hp ha hc h
  unfold wrap64
  omega

end Go.Proofs.YthjikbhjciphiaaGreatDoor

/-
  Walks of the reference of package real: Parts, Pick.
-/
namespace Go.Proofs.YthjikbhjciphiaaGreatDoor
open Go.RowKit
set_option linter.unusedVariables false
set_option linter.unusedSimpArgs false

/-- What the reference's Parts gives: the odd number, the power, whether there are any. -/
def partsM (b : Nat) : Nat := if cls b = 5 then od b else 0
def partsE (b : Nat) : Int := if cls b = 5 then -1074 + ((ex b + tz b : Nat) : Int) else 0
def partsIs (b : Nat) : Bool := decide (cls b = 3 ∨ cls b = 4 ∨ cls b = 5)

theorem int_div_pow (m q : Nat) : (m : Int) / 2 ^ q = ((m / 2 ^ q : Nat) : Int) := by
  rw [Int.natCast_ediv, Int.natCast_pow]
  rfl

/-- The first loop's state. -/
def KInv (m q : Nat) (kv iv : Value) : Prop := ∃ i : Nat, 1 ≤ i ∧ i ≤ 54 ∧ iv = .int .i64 i ∧ kv = .int .u64 ((kk m q (i - 1) : Nat) : Int)
/-- The second loop's state. -/
def LInv (k n : Nat) (ov tv iv : Value) : Prop := ∃ (c o t : Nat) (i : Int), c ≤ 53 ∧ i = (c : Int) - 1 ∧ iv = .int .i64 i ∧ ov = .int .u64 (o : Int) ∧ tv = .int .u64 (t : Int) ∧ t < 9007199254740992 ∧ o * 9007199254740992 + t = k * (n / 2 ^ c)

theorem tz_sum (b : Nat) (h0 : 0 < b) (hb : b < 9218868437227405312) : ex b + tz b < 2100 := by
  have := (od_spec b h0).2.2
  unfold ex
  omega

theorem od_lt (b : Nat) : od b < 9007199254740992 := Nat.lt_of_le_of_lt (Nat.div_le_self _ _) (mg_lt b)

end Go.Proofs.YthjikbhjciphiaaGreatDoor

/-
  Walks of the library's Frexp and TrailingZeros64, and of real.Parts.
-/
namespace Go.Proofs.YthjikbhjciphiaaGreatDoor
open Go.RowKit
set_option linter.unusedVariables false
set_option linter.unusedSimpArgs false

theorem and_abs (b : Nat) (h : b < 9223372036854775808) : bits .andNot .u64 (b : Int) 9223372036854775808 = (b : Int) := by
  have h1 := u64_andNot_nat b 9223372036854775808 (by omega) (by decide)
  have h2 : b &&& (18446744073709551615 - 9223372036854775808) = b := by
    rw [show (18446744073709551615 - 9223372036854775808 : Nat) = 2 ^ 63 - 1 by decide, Nat.and_two_pow_sub_one_eq_mod]
    exact Nat.mod_eq_of_lt h
  rw [h2] at h1
  exact h1

theorem and_frac (w : Nat) (h : w < 9223372036854775808) : bits .andNot .u64 (w : Int) 9218868437227405312 = ((w % 4503599627370496 : Nat) : Int) := by
  have h1 := u64_andNot_nat w 9218868437227405312 (by omega) (by decide)
  have h2 : w &&& (18446744073709551615 - 9218868437227405312) = w % 4503599627370496 := by
    have e1 : (18446744073709551615 - 9218868437227405312 : Nat) = 2 ^ 63 ||| (2 ^ 52 - 1) := by decide
    rw [e1, Nat.and_or_distrib_left, Nat.and_two_pow_sub_one_eq_mod]
    have e2 : w &&& 2 ^ 63 = 0 := by
      apply Nat.eq_of_testBit_eq
      intro i
      rw [Nat.testBit_and, Nat.zero_testBit, Nat.testBit_two_pow]
      by_cases hi : 63 = i
      · subst hi
        rw [Nat.testBit_lt_two_pow (show w < 2 ^ 63 from h)]
        rfl
      · simp [hi]
    rw [e2, Nat.zero_or]
  rw [h2] at h1
  exact h1

theorem or_half (f : Nat) (h : f < 4503599627370496) : bits .or .u64 (f : Int) 4602678819172646912 = ((4602678819172646912 + f : Nat) : Int) := by
  have h1 := u64_or_nat f 4602678819172646912 (by omega) (by decide)
  have h2 := Nat.two_pow_add_eq_or_of_lt (i := 52) (show f < 2 ^ 52 from h) 1022
  rw [show (2 ^ 52 * 1022 : Nat) = 4602678819172646912 by decide] at h2
  rw [Nat.or_comm, ← h2] at h1
  exact h1

theorem and_exp (x : Nat) (h : x < 2048) : bits .and .u64 (x : Int) 2047 = (x : Int) := by
  have h1 := u64_and_nat x 2047 (by omega) (by decide)
  have h2 : x &&& 2047 = x := by
    rw [show (2047 : Nat) = 2 ^ 11 - 1 by decide, Nat.and_two_pow_sub_one_eq_mod]
    exact Nat.mod_eq_of_lt h
  rw [h2] at h1
  exact h1

theorem abs_any (b : Nat) (h : b < 9223372036854775808) (W : World) :
    Calls Tryz.prog 203 #[.float .f64 b] W fun e W' => e = .returned (.float .f64 b) ∧ W = W' := by
  have h1 := and_abs b h
  go_enter Tryz.func203, Tryz.ntmps203
  go_wp2
  go_ret
  exact ⟨rfl, rfl⟩

theorem isInf_zero (b : Nat) (h : b < 9223372036854775808) (W : World) (q : Bool) (hq : (FloatKind.f64.format.order b 9218868437227405311 == some .gt) = q) :
    Calls Tryz.prog 195 #[.float .f64 b, .int .i64 0] W fun e W' => e = .returned (.bool q) ∧ W = W' := by
  go_enter Tryz.func195, Tryz.ntmps195
  go_wp2_with (go_at_call 203; refine (abs_any b h _).mono ?_; rintro e w' ⟨rfl, rfl⟩)
  go_ret
  exact ⟨rfl, rfl⟩

theorem normalize_big (b : Nat) (h : b < 9223372036854775808) (hq : (FloatKind.f64.format.order b 4503599627370496 == some .lt) = false) (W : World) :
    Calls Tryz.prog 205 #[.float .f64 b] W fun e W' => e = .returned (.tuple #[.float .f64 b, .int .i64 0]) ∧ W = W' := by
  go_enter Tryz.func205, Tryz.ntmps205
  go_wp2_with (go_at_call 203; refine (abs_any b h _).mono ?_; rintro e w' ⟨rfl, rfl⟩)
  go_ret2
  exact ⟨rfl, rfl⟩

theorem normalize_small (b : Nat) (h : b < 9223372036854775808) (hq : (FloatKind.f64.format.order b 4503599627370496 == some .lt) = true)
    (v : Nat) (hv : floatBits .mul .f64 b 4841369599423283200 = some v) (W : World) :
    Calls Tryz.prog 205 #[.float .f64 b] W fun e W' => e = .returned (.tuple #[.float .f64 v, .int .i64 (-52)]) ∧ W = W' := by
  have r1 : ∀ W : World, (binOp .mul 211 (.float .f64 b) (.float .f64 4841369599423283200)).run Tryz.prog W = .ok (.float .f64 v) W := fun W => run_float_arith W .mul 211 .f64 b 4841369599423283200 v hv
  clear hv
  go_enter Tryz.func205, Tryz.ntmps205
  go_wp2_with (go_at_call 203; refine (abs_any b h _).mono ?_; rintro e w' ⟨rfl, rfl⟩)
  go_ret2
  exact ⟨rfl, rfl⟩

/-- What the library's frexp gives, out of what normalize does. -/
theorem frexp_of (b v x f : Nat) (d : Int) (h : b < 9223372036854775808) (hv : v < 9223372036854775808) (hd0 : -52 ≤ d) (hd : d ≤ 0)
    (f1 : (FloatKind.f64.format.order b b != some .eq) = false) (f2 : (FloatKind.f64.format.order b 0 == some .eq) = false) (f3 : (FloatKind.f64.format.order b 9218868437227405311 == some .gt) = false)
    (cn : ∀ W, Calls Tryz.prog 205 #[.float .f64 b] W fun e W' => e = .returned (.tuple #[.float .f64 v, .int .i64 d]) ∧ W = W')
    (hx : v / 4503599627370496 = x) (hf : v % 4503599627370496 = f) (W : World) :
    Calls Tryz.prog 198 #[.float .f64 b] W fun e W' => e = .returned (.tuple #[.float .f64 (4602678819172646912 + f), .int .i64 (d + ((x : Int) - 1022))]) ∧ W = W' := by
  have c1 := fun W => isNaN_any b W false f1
  have c2 := fun W => isInf_zero b h W false f3
  have a1 := and_frac v hv
  have a2 := or_half f (by omega)
  have a3 := and_exp x (by omega)
  have a4 : (v : Int) / 4503599627370496 = (x : Int) := by omega
  have a5 : (x : Int) < 2048 := by omega
  rw [hf] at a1
  obtain ⟨u, hu⟩ : ∃ u, u = 4602678819172646912 + f := ⟨_, rfl⟩
  rw [← hu] at a2 ⊢
  have HU := Lib.hid hu
  have a6 : (x : Int) - 1023 + 1 = (x : Int) - 1022 := by omega
  rw [← a6]
  clear f1 f3 hx hf hu a6 h hv
  go_enter Tryz.func198, Tryz.ntmps198
  go_wp2_with (first | (go_at_call 194; refine (c1 _).mono ?_; rintro e w' ⟨rfl, rfl⟩) | (go_at_call 195; refine (c2 _).mono ?_; rintro e w' ⟨rfl, rfl⟩) | (go_at_call 205; refine (cn _).mono ?_; rintro e w' ⟨rfl, rfl⟩))
  go_ret2
  exact ⟨rfl, rfl⟩

theorem frexp_any (b u : Nat) (x : Int) (W : World)
    (c : ∀ W, Calls Tryz.prog 198 #[.float .f64 b] W fun e W' => e = .returned (.tuple #[.float .f64 u, .int .i64 x]) ∧ W = W') :
    Calls Tryz.prog 174 #[.float .f64 b] W fun e W' => e = .returned (.tuple #[.float .f64 u, .int .i64 x]) ∧ W = W' := by
  go_enter Tryz.func174, Tryz.ntmps174
  go_wp2_with (go_at_call 198; refine (c _).mono ?_; rintro e w' ⟨rfl, rfl⟩)
  go_ret2
  exact ⟨rfl, rfl⟩

/-- The table of the library's TrailingZeros64 in its variable. -/
def DK (W : World) : Prop := ∀ k, k < 64 → W.cell? ⟨4, k, none⟩ = some (.int .u8 (Lib.deBruijn64tab.getD k 0 : Nat))

theorem tz64_key (x a : Nat) (hx : x < 18446744073709551616) (hx0 : x ≠ 0) (hlow : x &&& (18446744073709551616 - x) = a) :
    IntKind.u64.wrap (bits BinOp.and IntKind.u64 (x : Int) (IntKind.u64.wrap (-(x : Int))) * 285870213051353865) / 288230376151711744 = ((a * 285870213051353865 % 18446744073709551616 / 288230376151711744 : Nat) : Int) := by
  have e1 : IntKind.u64.wrap (-(x : Int)) = ((18446744073709551616 - x : Nat) : Int) := by rw [IntKind.wrap_u64]; omega
  rw [e1, u64_and_nat x _ hx (by omega), hlow, IntKind.wrap_u64]
  omega

theorem tz64_core (x k idx : Nat) (w : World) (hx0 : ((x : Int) == 0) = false)
    (key : IntKind.u64.wrap (bits BinOp.and IntKind.u64 (x : Int) (IntKind.u64.wrap (-(x : Int))) * 285870213051353865) / 288230376151711744 = (idx : Int))
    (hi : idx < 64) (hk : k < 64) (hcell : w.cell? ⟨4, idx, none⟩ = some (.int .u8 k)) :
    Calls Tryz.prog 176 #[.int .u64 x] w fun e w' => e = .returned (.int .i64 k) ∧ w = w' := by
  go_enter Tryz.func176, Tryz.ntmps176
  go_wp2_with (simp only [key])
  go_ret
  exact ⟨rfl, rfl⟩

theorem tz64_any (x : Nat) (hx : x < 18446744073709551616) (hx0 : x ≠ 0) (w : World) (hT : DK w) :
    Calls Tryz.prog 176 #[.int .u64 x] w fun e w' => e = .returned (.int .i64 (Lib.ctz 64 x : Nat)) ∧ w = w' := by
  obtain ⟨hlow, hk⟩ := Lib.lowest_bit 64 x hx0 hx
  obtain ⟨hi, htab⟩ := Lib.deBruijn64_at _ hk
  have hc := hT _ hi
  rw [htab] at hc
  exact tz64_core x _ _ w (by simp; omega) (tz64_key x _ hx hx0 hlow) hi hk hc

/-- real.Parts of what is above 0, out of what its calls tell. -/
theorem parts_of (b u f v z r : Nat) (x s : Int) (W : World) (hf : f < 4503599627370496) (hx0 : -1200 ≤ x) (hx : x ≤ 1200) (hz : z < 64)
    (cc : ∀ W, Calls Tryz.prog 173 #[.int .u64 b] W fun e W' => e = .returned (.int .i64 5) ∧ W = W')
    (cf : ∀ W, Calls Tryz.prog 174 #[.float .f64 b] W fun e W' => e = .returned (.tuple #[.float .f64 u, .int .i64 x]) ∧ W = W')
    (hv : floatBits .mul .f64 u 4845873199050653696 = some v) (hk : floatToIntVal .f64 v .u64 = some ((4503599627370496 + f : Nat) : Int))
    (ct : Calls Tryz.prog 176 #[.int .u64 ((4503599627370496 + f : Nat) : Int)] W fun e w' => e = .returned (.int .i64 (z : Nat)) ∧ W = w')
    (hr : (4503599627370496 + f) / 2 ^ z = r) (hs : x - 53 + (z : Int) = s) :
    Calls Tryz.prog 125 #[.int .u64 b] W fun e W' => e = .returned (.tuple #[.int .u64 r, .int .i64 s, .bool true]) ∧ W = W' := by
  obtain ⟨m, hm⟩ : ∃ m, m = 4503599627370496 + f := ⟨_, rfl⟩
  rw [← hm] at hk ct hr
  have hm2 : m < 9007199254740992 := by omega
  have r1 : ∀ W : World, (binOp .mul 211 (.float .f64 u) (.float .f64 4845873199050653696)).run Tryz.prog W = .ok (.float .f64 v) W := fun W => run_float_arith W .mul 211 .f64 u 4845873199050653696 v hv
  have r2 : ∀ W : World, (convert 211 23 (.float .f64 v)).run Tryz.prog W = .ok (.int .u64 m) W := fun W => run_convert_float_int W 211 23 .f64 .u64 v m (by kernel_rfl) Tryz.underlying23 hk
  have hr2 : (m : Int) / 2 ^ z = (r : Int) := by rw [int_div_pow, hr]
  subst hs
  clear hv hk hr hm hf
  go_enter Tryz.func125, Tryz.ntmps125
  go_wp2_with (first | (go_at_call 173; refine (cc _).mono ?_; rintro e w' ⟨rfl, rfl⟩) | (go_at_call 174; refine (cf _).mono ?_; rintro e w' ⟨rfl, rfl⟩) | (go_at_call 176; refine ct.mono ?_; rintro e w' ⟨rfl, rfl⟩))
  go_ret3
  exact ⟨rfl, rfl⟩

/-- Frexp's number by 2 to the power of 53, its power, and what they are of the odd part. -/
theorem frexp_says (b : Nat) (h0 : 0 < b) (hb : b < 9218868437227405312) :
    ∃ (f : Nat) (x : Int), f < 4503599627370496 ∧ -1200 ≤ x ∧ x ≤ 1200 ∧ (4503599627370496 + f) / 2 ^ Lib.ctz 64 (4503599627370496 + f) = od b ∧ x - 53 + ((Lib.ctz 64 (4503599627370496 + f) : Nat) : Int) = -1074 + ((ex b + tz b : Nat) : Int) ∧
      (∀ W, Calls Tryz.prog 174 #[.float .f64 b] W fun e W' => e = .returned (.tuple #[.float .f64 (4602678819172646912 + f), .int .i64 x]) ∧ W = W') := by
  have hc : cls b ≠ 0 := by unfold cls; rw [if_pos (by omega), if_neg (by omega), if_pos hb]; decide
  have f1 : (FloatKind.f64.format.order b b != some .eq) = false := by rw [fmt64, order_self b (by omega) hc]; rfl
  have f2 : (FloatKind.f64.format.order b 0 == some .eq) = false := by rw [fmt64, order_pp b 0 hb (by decide), Nat.compare_eq_gt.2 (by omega)]; rfl
  have f3 : (FloatKind.f64.format.order b 9218868437227405311 == some .gt) = false := by
    rw [fmt64, order_pp b _ hb (by decide)]
    have : compare b 9218868437227405311 ≠ .gt := by rw [Ne, Nat.compare_eq_gt]; omega
    simp [this]
  obtain ⟨m1, m2, m3⟩ := od_spec b h0
  by_cases hs : b < 4503599627370496
  · have f4 : (FloatKind.f64.format.order b 4503599627370496 == some .lt) = true := by rw [fmt64, order_pp b _ hb (by decide), Nat.compare_eq_lt.2 hs]; rfl
    obtain ⟨hl, z1, z2⟩ := sub_field b h0 hs
    have hv : floatBits .mul .f64 b 4841369599423283200 = some ((0 + b.log2) * 4503599627370496 + b * 2 ^ (52 - b.log2)) := mul_sub b _ 0 h0 hs (by omega) c52
    obtain ⟨hm, hex⟩ := mg_small b (by omega)
    have hctz : Lib.ctz 64 (b * 2 ^ (52 - b.log2)) = tz b + (52 - b.log2) := by
      obtain ⟨k, k1, _⟩ := ctz_spec (b * 2 ^ (52 - b.log2)) (by omega) (by omega)
      obtain ⟨j, j1, _⟩ := ctz_spec b h0 (by omega)
      have ej : tz b = Lib.ctz 64 b := by unfold tz; rw [hm]
      rw [ej]
      refine pow_unique (m := k) (n := j) ?_
      rw [← k1, Nat.pow_add, Nat.mul_right_comm, ← j1]
    obtain ⟨L, hL⟩ : ∃ L, L = b.log2 := ⟨_, rfl⟩
    obtain ⟨z, hz⟩ : ∃ z, z = b * 2 ^ (52 - L) := ⟨_, rfl⟩
    rw [← hL] at hl z1 z2 hv hctz
    rw [← hz] at z1 z2 hv hctz
    obtain ⟨f, hf⟩ : ∃ f, z = 4503599627370496 + f := ⟨z - 4503599627370496, by omega⟩
    refine ⟨f, -52 + (((L + 1 : Nat) : Int) - 1022), by omega, by omega, by omega, ?_, ?_, ?_⟩
    · rw [← hf, hctz, Nat.pow_add, hz, Nat.mul_div_mul_right _ _ (Nat.two_pow_pos _)]
      unfold od
      rw [hm]
    · rw [← hf, hctz, hex]
      omega
    · intro W
      refine frexp_any b _ _ W fun W => ?_
      exact frexp_of b _ (L + 1) f (-52) (by omega) (by omega) (by omega) (by omega) f1 f2 f3 (fun W => normalize_small b (by omega) f4 _ hv W) (by omega) (by omega) W
  · have f4 : (FloatKind.f64.format.order b 4503599627370496 == some .lt) = false := by
      rw [fmt64, order_pp b _ hb (by decide)]
      have : compare b 4503599627370496 ≠ .lt := by rw [Ne, Nat.compare_eq_lt]; omega
      simp [this]
    have hm : mg b = 4503599627370496 + b % 4503599627370496 := by unfold mg; rw [if_neg hs]
    have hex : ex b + 1 = b / 4503599627370496 := by unfold ex; omega
    refine ⟨b % 4503599627370496, 0 + (((b / 4503599627370496 : Nat) : Int) - 1022), by omega, by omega, by omega, ?_, ?_, ?_⟩
    · rw [← hm]
      rfl
    · rw [← hm, ← hex]
      show _ - 53 + ((tz b : Nat) : Int) = _
      omega
    · intro W
      refine frexp_any b _ _ W fun W => ?_
      exact frexp_of b b _ _ 0 (by omega) (by omega) (by omega) (by omega) f1 f2 f3 (fun W => normalize_big b (by omega) f4 W) rfl rfl W

theorem parts_yes (b : Nat) (h0 : 0 < b) (hb : b < 9218868437227405312) (h5 : cls b = 5) (W : World) (hT : DK W) :
    Calls Tryz.prog 125 #[.int .u64 b] W fun e W' => e = .returned (.tuple #[.int .u64 (od b : Nat), .int .i64 (-1074 + ((ex b + tz b : Nat) : Int)), .bool true]) ∧ W = W' := by
  obtain ⟨f, x, hf, hx0, hx, hr, hs, cf⟩ := frexp_says b h0 hb
  obtain ⟨v, hv, hw⟩ := mul53_half f hf
  have cc := fun W => class_any b (by omega) W
  rw [h5] at cc
  have hct := (Lib.lowest_bit 64 (4503599627370496 + f) (by omega) (by omega)).2
  refine parts_of b _ f v _ _ x _ W hf hx0 hx hct cc cf hv ?_ (tz64_any _ (by omega) (by omega) W hT) hr hs
  unfold floatToIntVal
  rw [show FloatKind.decode .f64 v = Ieee.double.read v from rfl, hw]
  have hmin : IntKind.u64.min = 0 := rfl
  have hmax : IntKind.u64.max = 18446744073709551615 := rfl
  simp only [hmin, hmax]
  rw [if_pos (by omega)]

theorem parts_no (b c : Nat) (W : World) (q : Bool) (cc : ∀ W, Calls Tryz.prog 173 #[.int .u64 b] W fun e W' => e = .returned (.int .i64 (c : Nat)) ∧ W = W')
    (hc : ((c = 3 ∨ c = 4) ∧ q = true) ∨ ((c = 0 ∨ c = 1 ∨ c = 2 ∨ c = 6) ∧ q = false)) :
    Calls Tryz.prog 125 #[.int .u64 b] W fun e W' => e = .returned (.tuple #[.int .u64 0, .int .i64 0, .bool q]) ∧ W = W' := by
  rcases hc with ⟨rfl | rfl, rfl⟩ | ⟨rfl | rfl | rfl | rfl, rfl⟩
  all_goals
    go_enter Tryz.func125, Tryz.ntmps125
    go_wp2_with (go_at_call 173; refine (cc _).mono ?_; rintro e w' ⟨rfl, rfl⟩)
    go_ret3
    exact ⟨rfl, rfl⟩

end Go.Proofs.YthjikbhjciphiaaGreatDoor

/-
  Walks of package price: divided, product, Due, Check, Over, Add.
-/
namespace Go.Proofs.YthjikbhjciphiaaGreatDoor
open Go.RowKit
set_option linter.unusedVariables false
set_option linter.unusedSimpArgs false

theorem min_div (h j : Nat) (hh : h < 18446744073709551616) : (h : Int) / 2 ^ min j 64 = ((h / 2 ^ j : Nat) : Int) := by
  rw [int_div_pow]
  by_cases h64 : j ≤ 64
  · rw [Nat.min_eq_left h64]
  · rw [Nat.min_eq_right (by omega), Nat.div_eq_of_lt hh, Nat.div_eq_of_lt (Nat.lt_of_lt_of_le hh (Nat.pow_le_pow_right (by decide) (by omega) : 2 ^ 64 ≤ 2 ^ j))]

end Go.Proofs.YthjikbhjciphiaaGreatDoor

/-
  Walks of package price: Due, Check, Over, Add; the parts of any number; the reference's Add.
-/
namespace Go.Proofs.YthjikbhjciphiaaGreatDoor
open Go.RowKit
set_option linter.unusedVariables false
set_option linter.unusedSimpArgs false

theorem parts_any (b : Nat) (hb : b < 18446744073709551616) (W : World) (hT : DK W) :
    Calls Tryz.prog 125 #[.int .u64 b] W fun e W' => e = .returned (.tuple #[.int .u64 (partsM b : Nat), .int .i64 (partsE b), .bool (partsIs b)]) ∧ W = W' := by
  obtain ⟨s0, s1, s2, s3, s4, s5, s6⟩ := cls_says b hb
  by_cases h5 : cls b = 5
  · obtain ⟨g0, g1⟩ := s5 h5
    unfold partsM partsE partsIs
    rw [if_pos h5, if_pos h5, decide_eq_true (.inr (.inr h5))]
    exact parts_yes b g0 g1 h5 W hT
  · unfold partsM partsE partsIs
    rw [if_neg h5, if_neg h5]
    by_cases h34 : cls b = 3 ∨ cls b = 4
    · rw [decide_eq_true (by omega)]
      exact parts_no b (cls b) W true (class_any b hb) (.inl ⟨h34, rfl⟩)
    · rw [decide_eq_false (by omega)]
      exact parts_no b (cls b) W false (class_any b hb) (.inr ⟨by rcases cls_le b with h | h | h | h | h | h | h <;> omega, rfl⟩)

theorem partsM_lt (b : Nat) (hb : b < 18446744073709551616) : partsM b < 9007199254740992 := by
  obtain ⟨s0, s1, s2, s3, s4, s5, s6⟩ := cls_says b hb
  unfold partsM
  split
  · exact Nat.lt_of_le_of_lt (Nat.div_le_self _ _) (mg_lt b)
  · decide

theorem partsE_in (b : Nat) (hb : b < 18446744073709551616) : -1074 ≤ partsE b ∧ partsE b ≤ 2000 := by
  obtain ⟨s0, s1, s2, s3, s4, s5, s6⟩ := cls_says b hb
  unfold partsE
  split
  · rename_i h
    obtain ⟨g0, g1⟩ := s5 h
    have h1 := (od_spec b g0).2.2
    have h2 : ex b ≤ 2045 := by unfold ex; omega
    omega
  · omega

theorem due_parts (n b : Nat) : capM (scale (n * partsM b) (partsE b)) = dueV n b := by
  unfold partsM partsE dueV
  by_cases h : cls b = 5
  · rw [if_pos h, if_pos h, if_pos h]
  · rw [if_neg h, if_neg h, if_neg h]
    unfold scale
    rw [if_pos (by omega), Nat.mul_zero, Nat.zero_mul]
    rfl

theorem check_yes (b : Nat) (hb : b < 18446744073709551616) (hq : partsIs b = true) (W : World) (hT : DK W) :
    Calls Tryz.prog 82 #[.int .u64 b] W fun e W' => e = .returned (.tuple #[.int .u64 (canonV b : Nat), .int .i64 0]) ∧ W = W' := by
  have cp := parts_any b hb W hT
  rw [hq] at cp
  have hm := partsM_lt b hb
  obtain ⟨he0, he1⟩ := partsE_in b hb
  have cc := fun W => canon_any b hb W
  clear hq
  generalize partsM b = m at cp hm
  generalize partsE b = p at cp he0 he1
  generalize canonV b = c at cc ⊢
  go_enter Tryz.func82, Tryz.ntmps82
  go_wp2_with (first | (go_at_call 125; refine cp.mono ?_; rintro e w' ⟨rfl, rfl⟩) | (go_at_call 126; refine (cc _).mono ?_; rintro e w' ⟨rfl, rfl⟩))
  go_ret2
  exact ⟨rfl, rfl⟩

theorem check_no (b : Nat) (hb : b < 18446744073709551616) (hq : partsIs b = false) (W : World) (hT : DK W) :
    Calls Tryz.prog 82 #[.int .u64 b] W fun e W' => e = .returned (.tuple #[.int .u64 0, .int .i64 13]) ∧ W = W' := by
  have cp := parts_any b hb W hT
  rw [hq] at cp
  have hm := partsM_lt b hb
  obtain ⟨he0, he1⟩ := partsE_in b hb
  clear hq
  generalize partsM b = m at cp hm
  generalize partsE b = p at cp he0 he1
  go_enter Tryz.func82, Tryz.ntmps82
  go_wp2_with (go_at_call 125; refine cp.mono ?_; rintro e w' ⟨rfl, rfl⟩)
  go_ret2
  exact ⟨rfl, rfl⟩

/-- Would the sum be too great? -/
def overV (a b : Nat) : Bool := decide (18446744073709551616 ≤ a + b)

end Go.Proofs.YthjikbhjciphiaaGreatDoor
