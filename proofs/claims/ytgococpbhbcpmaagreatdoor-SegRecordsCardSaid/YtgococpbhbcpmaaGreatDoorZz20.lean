/-
  Segments' names: sixteen digits of a number, the number of a name, their order. No program stands here.
-/
import Derived.Test.YtgococpbhbcpmaaGreatDoorZz1
import Derived.Laws.Concat
import Derived.Laws.DeepStrings4
import Derived.OpenShut
import Derived.ShutString
import Derived.ChangeOld
import Derived.ChangeArms
import Derived.Test.YtgococpbhbcpmaaGreatDoorZz5
namespace Go.Proofs.YtgococpbhbcpmaaGreatDoor
open Go.RowKit
set_option linter.unusedVariables false
set_option linter.unusedSimpArgs false

/-- A hexadecimal digit. -/
def hd16 (d : Nat) : UInt8 := if d < 10 then UInt8.ofNat (48 + d) else UInt8.ofNat (87 + d)
/-- The lowest k digits of a number. -/
def hexL : Nat → Nat → List UInt8
  | 0, _ => []
  | k + 1, n => hd16 (n / 16 ^ k % 16) :: hexL k n
/-- The name of a number. -/
def nameL (n : Nat) : List UInt8 := 119 :: hexL 16 n
def decR16 (c : UInt8) : Bool := decide (48 ≤ c.toNat ∧ c.toNat ≤ 57)
def lowR16 (c : UInt8) : Bool := decide (97 ≤ c.toNat ∧ c.toNat ≤ 102)
/-- One sign more. -/
def stepV (n : Nat) (c : UInt8) : Nat := if decR16 c then 16 * n + c.toNat % 16 else if lowR16 c then 16 * n + c.toNat % 16 + 9 else n
def valS (l : List UInt8) : Nat := l.foldl stepV 0
/-- The number of a name, and whether it is one. -/
def numC (s : List UInt8) : Nat × Bool := if s.length = 17 then (valS (s.drop 1), decide (nameL (valS (s.drop 1)) = s)) else (0, false)

theorem hexL_len (k n : Nat) : (hexL k n).length = k := by
  induction k with
  | zero => rfl
  | succ k ih => simp [hexL, ih]
theorem nameL_len (n : Nat) : (nameL n).length = 17 := by unfold nameL; rw [List.length_cons, hexL_len]
theorem hd16_cases : ∀ d : Fin 16, (decR16 (hd16 d.val) = true ∧ (hd16 d.val).toNat % 16 = d.val) ∨ (decR16 (hd16 d.val) = false ∧ lowR16 (hd16 d.val) = true ∧ (hd16 d.val).toNat % 16 + 9 = d.val) := by decide +kernel
theorem stepV_hd (p d : Nat) (h : d < 16) : stepV p (hd16 d) = 16 * p + d := by
  unfold stepV
  rcases hd16_cases ⟨d, h⟩ with ⟨h1, h2⟩ | ⟨h1, h2, h3⟩
  · simp only at h1 h2
    rw [if_pos h1, h2]
  · simp only at h1 h2 h3
    rw [if_neg (by rw [h1]; decide), if_pos h2]
    omega
theorem val_hex (k : Nat) : ∀ (n p : Nat), (hexL k n).foldl stepV p = p * 16 ^ k + n % 16 ^ k := by
  induction k with
  | zero => intro n p; simp [hexL, Nat.mod_one]
  | succ k ih =>
    intro n p
    show (hexL k n).foldl stepV (stepV p (hd16 (n / 16 ^ k % 16))) = _
    rw [stepV_hd _ _ (Nat.mod_lt _ (by decide)), ih, Nat.mod_pow_succ, Nat.pow_succ, Nat.add_mul, Nat.mul_comm (16 ^ k) (n / 16 ^ k % 16), Nat.mul_comm (16 ^ k) 16, Nat.mul_comm 16 p, Nat.mul_assoc]
    omega
theorem val_name (n : Nat) (h : n < 18446744073709551616) : valS ((nameL n).drop 1) = n := by
  show (hexL 16 n).foldl stepV 0 = n
  rw [val_hex, Nat.zero_mul, Nat.zero_add]
  exact Nat.mod_eq_of_lt h
theorem num_name (n : Nat) (h : n < 18446744073709551616) : numC (nameL n) = (n, true) := by
  unfold numC
  rw [if_pos (nameL_len n), val_name n h]
  simp
theorem name_inj (a b : Nat) (ha : a < 18446744073709551616) (hb : b < 18446744073709551616) (h : nameL a = nameL b) : a = b := by
  have := val_name a ha
  rw [h, val_name b hb] at this
  exact this.symm
theorem stepV_le (n : Nat) (c : UInt8) : stepV n c ≤ 16 * n + 15 := by
  unfold stepV
  have hm := Nat.mod_lt c.toNat (show 0 < 16 by decide)
  split
  · omega
  · split
    · rename_i h
      have h' : 97 ≤ c.toNat ∧ c.toNat ≤ 102 := of_decide_eq_true h
      omega
    · omega
theorem val_lt (l : List UInt8) : ∀ p, l.foldl stepV p + 1 ≤ (p + 1) * 16 ^ l.length := by
  induction l with
  | nil => intro p; simp
  | cons c l ih =>
    intro p
    have h1 := ih (stepV p c)
    have h2 := stepV_le p c
    have h3 : (stepV p c + 1) * 16 ^ l.length ≤ ((p + 1) * 16) * 16 ^ l.length := Nat.mul_le_mul_right _ (by omega)
    rw [List.length_cons, Nat.pow_succ, Nat.mul_comm (16 ^ l.length) 16, ← Nat.mul_assoc]
    exact Nat.le_trans h1 h3
theorem num_is (s : List UInt8) (h : (numC s).2 = true) : (numC s).1 < 18446744073709551616 ∧ s = nameL (numC s).1 := by
  unfold numC at h ⊢
  by_cases hl : s.length = 17
  · rw [if_pos hl] at h ⊢
    have h1 := val_lt (s.drop 1) 0
    rw [List.length_drop, hl] at h1
    have h2 : nameL (valS (s.drop 1)) = s := of_decide_eq_true h
    refine ⟨?_, h2.symm⟩
    have : (16 : Nat) ^ (17 - 1) = 18446744073709551616 := by decide
    unfold valS
    omega
  · rw [if_neg hl] at h
    cases h
theorem num_eq (s : List UInt8) (n : Nat) (h : n < 18446744073709551616) : numC s = (n, true) ↔ s = nameL n := by
  constructor
  · intro e
    have := num_is s (by rw [e])
    rw [e] at this
    exact this.2
  · rintro rfl
    exact num_name n h

theorem hd16_lt : ∀ a b : Fin 16, decide (hd16 a.val < hd16 b.val) = decide (a.val < b.val) ∧ (hd16 a.val = hd16 b.val → a = b) := by decide +kernel
/-- Digits are in order as their numbers. -/
theorem hex_less (k a b : Nat) : Op.bytesLess (hexL k a) (hexL k b) = decide (a % 16 ^ k < b % 16 ^ k) := by
  induction k with
  | zero => simp [hexL, Op.bytesLess, Nat.mod_one]
  | succ k ih =>
    obtain ⟨x, hx⟩ : ∃ x : Fin 16, x.val = a / 16 ^ k % 16 := ⟨⟨_, Nat.mod_lt _ (by decide)⟩, rfl⟩
    obtain ⟨y, hy⟩ : ∃ y : Fin 16, y.val = b / 16 ^ k % 16 := ⟨⟨_, Nat.mod_lt _ (by decide)⟩, rfl⟩
    have hp : 0 < 16 ^ k := Nat.pow_pos (by decide)
    have ha := Nat.mod_lt a hp
    have hb := Nat.mod_lt b hp
    rw [Nat.mod_pow_succ, Nat.mod_pow_succ, ← hx, ← hy]
    show (decide (hd16 (a / 16 ^ k % 16) < hd16 (b / 16 ^ k % 16)) || (hd16 (a / 16 ^ k % 16) == hd16 (b / 16 ^ k % 16) && Op.bytesLess (hexL k a) (hexL k b))) = _
    rw [← hx, ← hy, ih, (hd16_lt x y).1]
    generalize 16 ^ k = P at ha hb ⊢
    generalize a % P = A at ha ⊢
    generalize b % P = B at hb ⊢
    rcases Nat.lt_trichotomy x.val y.val with h | h | h
    · have h1 : P * (x.val + 1) ≤ P * y.val := Nat.mul_le_mul_left _ h
      rw [Nat.mul_add, Nat.mul_one] at h1
      rw [decide_eq_true h, show decide (A + P * x.val < B + P * y.val) = true from decide_eq_true (by omega)]
      rfl
    · have e : x = y := Fin.ext h
      subst e
      rw [decide_eq_false (by omega), Bool.false_or, beq_self_eq_true, Bool.true_and]
      exact decide_eq_decide.2 (by omega)
    · have h1 : P * (y.val + 1) ≤ P * x.val := Nat.mul_le_mul_left _ h
      rw [Nat.mul_add, Nat.mul_one] at h1
      have hne : (hd16 x.val == hd16 y.val) = false := by
        rw [beq_eq_false_iff_ne]
        intro e
        have := (hd16_lt x y).2 e
        rw [this] at h
        exact Nat.lt_irrefl _ h
      rw [decide_eq_false (show ¬ x.val < y.val by omega), show decide (A + P * x.val < B + P * y.val) = false from decide_eq_false (by omega), hne]
      rfl
theorem name_less (a b : Nat) (ha : a < 18446744073709551616) (hb : b < 18446744073709551616) : Op.bytesLess (nameL a) (nameL b) = decide (a < b) := by
  show (decide ((119 : UInt8) < 119) || ((119 : UInt8) == 119 && Op.bytesLess (hexL 16 a) (hexL 16 b))) = _
  rw [hex_less, show (16 : Nat) ^ 16 = 18446744073709551616 by decide, Nat.mod_eq_of_lt ha, Nat.mod_eq_of_lt hb]
  simp

end Go.Proofs.YtgococpbhbcpmaaGreatDoor

/-
  The reference's names of segments.
-/
namespace Go.Proofs.YtgococpbhbcpmaaGreatDoor
open Go.RowKit
set_option linter.unusedVariables false
set_option linter.unusedSimpArgs false

theorem hd16_slice {P : Program} (w : World) (t : TypeId) (k k' : IntKind) (d : Nat) (i j : Int) (hi : i = (d : Int)) (hj : j = (d : Int) + 1) (hd : d < 16) (h : P.underlying t = some .string) :
    (Instr.slice t (.string ⟨#[48, 49, 50, 51, 52, 53, 54, 55, 56, 57, 97, 98, 99, 100, 101, 102]⟩) (some (.int k i)) (some (.int k' j)) none).run P w = .ok (.string ⟨[hd16 d].toArray⟩) w := by
  subst hi; subst hj
  rw [run_slice_string_if w t _ k k' _ _ h, if_pos ⟨by omega, by show _ ≤ ((16 : Nat) : Int); omega⟩, if_pos ⟨by omega, by omega⟩]
  congr 1
  have e : ∀ d : Fin 16, (⟨#[48, 49, 50, 51, 52, 53, 54, 55, 56, 57, 97, 98, 99, 100, 101, 102]⟩ : ByteArray).extract d.val (d.val + 1) = ⟨[hd16 d.val].toArray⟩ := by decide +kernel
  have := e ⟨d, hd⟩
  rw [show ((d : Int)).toNat = d by omega, show ((d : Int) + 1).toNat = d + 1 by omega]
  exact congrArg Value.string this
theorem add_txts {P : Program} (x y z : List UInt8) (hz : z = x ++ y) (hx : (x.length : Int) ≤ 8388608) (hy : (y.length : Int) ≤ 8388608) (w : World) :
    (Op.stringOp .add ⟨x.toArray⟩ ⟨y.toArray⟩).run P w = .ok (.string ⟨z.toArray⟩) w := by
  subst hz
  exact run_string_add_lists w x y hx hy

theorem str_at {P : Program} (s : ByteArray) (t : TypeId) (h : P.underlying t = some .string) (k : Nat) (c : UInt8) (hc : s.data.toList[k]? = some c) (w : World) :
    (Instr.index t (.string s) (.int .i64 (k : Nat))).run P w = .ok (.int .u8 ((c.toNat : Nat) : Int)) w := by
  have hk : k < s.size := by
    have := (List.getElem?_eq_some_iff.1 hc).1
    simpa using this
  rw [run_index_string w t s .i64 _ h, dif_pos ⟨by omega, by omega⟩]
  have e : s[k]'hk = c := by
    have := (List.getElem?_eq_some_iff.1 hc).2
    rw [Array.getElem_toList] at this
    exact this
  simp only [Int.toNat_natCast, e]
theorem val_take (l : List UInt8) (k : Nat) (c : UInt8) (h : l[k]? = some c) : valS (l.take (k + 1)) = stepV (valS (l.take k)) c := by
  unfold valS
  rw [List.take_add_one, h]
  simp

end Go.Proofs.YtgococpbhbcpmaaGreatDoor

/-
  Arguments opened: byte slices, slices of int8, as the walks want them.
-/
namespace Go.Proofs.YtgococpbhbcpmaaGreatDoor
open Go.RowKit
open Go.ChangeShapes Go.WideShapes Go.ChangeAt
set_option linter.unusedVariables false
set_option linter.unusedSimpArgs false

theorem Tryz.own : ownKnob Tryz.prog.godebug = none := by kernel_rfl
theorem Tryz.laidOut : laidOutB Tryz.prog = true := by kernel_rfl

section
variable {H : Type} {enc : TypeId × Value → H} {P : Program} {w : World}

theorem ofNat_toNat_u8 (z : Int) (h0 : 0 ≤ z) (h1 : z ≤ 255) : (((UInt8.ofNat z.toNat).toNat : Nat) : Int) = z := by
  simp [UInt8.toNat_ofNat']; omega

/-- A '[]byte' that came in. -/
theorem open_byt {t e : TypeId} {held : Bool} {a : Option Addr} {len cap : Nat} {d : DataW H} {p : List MemPlace} (ht : P.underlying t = some (.slice e)) (he : P.underlying e = some (.int .u8)) (hc : P.cellsOf e = 1)
    (h : DataW.Trod enc P w 0 (fun _ => true) held t (.slice a len cap) d p) : ∃ l, Byt w w.heap.size a len l ∧ (a = none → cap = 0) ∧ len ≤ cap ∧ cap ≤ maxLen := by
  obtain ⟨fuel, hf⟩ := h
  rcases open_ints ht he hc hf with ⟨hcs, _⟩ | ⟨x, l, c, zs, hcs, _, hl, hm, hz, _, hcell, hwz⟩
  · simp [Value.cells] at hcs
    obtain ⟨rfl, rfl, rfl⟩ := hcs
    exact ⟨[], Byt.nil, fun _ => rfl, Nat.le_refl _, Nat.zero_le _⟩
  · simp [Value.cells] at hcs
    obtain ⟨rfl, rfl, rfl⟩ := hcs
    simp only [if_true] at hz
    have hll : ((zs.take len).map fun z => UInt8.ofNat z.toNat).length = len := by rw [List.length_map, List.length_take, hz]; omega
    refine ⟨(zs.take len).map fun z => UInt8.ofNat z.toNat, ⟨hll, fun hn => ?_⟩, (fun h => by cases h), hl, hm⟩
    obtain ⟨b, off, spot⟩ := x
    have h0 := hcell 0 (by omega)
    have hspot : spot = none := by simpa [Addr.add] using World.cell?_spot h0
    subst hspot
    refine ⟨b, off, rfl, ?_, fun j y hy => ?_⟩
    · have := World.block_lt_of_cell? w _ h0
      simpa [Addr.add] using this
    · rw [List.getElem?_map] at hy
      obtain ⟨z, hz1, rfl⟩ := Option.map_eq_some_iff.1 hy
      rw [List.getElem?_take] at hz1
      split at hz1
      · rename_i hj
        have hcj := hcell j (by omega)
        rw [Addr.add_lit] at hcj
        have hzj : zs.getD j 0 = z := by rw [List.getD_eq_getElem?_getD, hz1]; rfl
        rw [hcj, hzj]
        obtain ⟨b0, b1⟩ := bounds_u8 (hwz z (List.mem_of_getElem? hz1))
        rw [ofNat_toNat_u8 z b0 b1]
      · cases hz1

/-- Slices of integers of whatever kind: the cells. -/
def Nums (k : IntKind) (w : World) (B : Nat) (A : Option Addr) (n : Nat) (l : List Int) : Prop :=
  l.length = n ∧ (∀ z ∈ l, (Lit.int k z).wf = true) ∧ (0 < n → ∃ b o, A = some ⟨b, o, none⟩ ∧ b < B ∧ ∀ (j : Nat) (x : Int), l[j]? = some x → w.cell? ⟨b, o + j, none⟩ = some (.int k x))

theorem open_nums {k : IntKind} {t e : TypeId} {held : Bool} {a : Option Addr} {len cap : Nat} {d : DataW H} {p : List MemPlace} (ht : P.underlying t = some (.slice e)) (he : P.underlying e = some (.int k)) (hc : P.cellsOf e = 1)
    (h : DataW.Trod enc P w 0 (fun _ => true) held t (.slice a len cap) d p) : ∃ l, Nums k w w.heap.size a len l ∧ (a = none → cap = 0) ∧ len ≤ cap ∧ cap ≤ maxLen := by
  obtain ⟨fuel, hf⟩ := h
  rcases open_ints ht he hc hf with ⟨hcs, _⟩ | ⟨x, l, c, zs, hcs, _, hl, hm, hz, _, hcell, hwz⟩
  · simp [Value.cells] at hcs
    obtain ⟨rfl, rfl, rfl⟩ := hcs
    exact ⟨[], ⟨rfl, fun _ h => (by cases h), fun h => absurd h (by omega)⟩, fun _ => rfl, Nat.le_refl _, Nat.zero_le _⟩
  · simp [Value.cells] at hcs
    obtain ⟨rfl, rfl, rfl⟩ := hcs
    simp only [if_true] at hz
    refine ⟨zs.take len, ⟨by rw [List.length_take, hz]; omega, fun z h => hwz z (List.mem_of_mem_take h), fun hn => ?_⟩, (fun h => by cases h), hl, hm⟩
    obtain ⟨b, off, spot⟩ := x
    have h0 := hcell 0 (by omega)
    have hspot : spot = none := by simpa [Addr.add] using World.cell?_spot h0
    subst hspot
    refine ⟨b, off, rfl, ?_, fun j y hy => ?_⟩
    · have := World.block_lt_of_cell? w _ h0
      simpa [Addr.add] using this
    · rw [List.getElem?_take] at hy
      split at hy
      · rename_i hj
        have hcj := hcell j (by omega)
        rw [Addr.add_lit] at hcj
        have hzj : zs.getD j 0 = y := by rw [List.getD_eq_getElem?_getD, hy]; rfl
        rw [hcj, hzj]
      · cases hy
theorem Nums.keep {k : IntKind} {w w' : World} {B n : Nat} {A : Option Addr} {l : List Int} (h : Nums k w B A n l) (hk : ∀ p : Addr, p.block < B → w'.cell? p = w.cell? p) : Nums k w' B A n l :=
  ⟨h.1, h.2.1, fun hn => by
    obtain ⟨b, o, e, hb, hc⟩ := h.2.2 hn
    exact ⟨b, o, e, hb, fun j u hu => (hk _ hb).trans (hc j u hu)⟩⟩
theorem Nums.below {k : IntKind} {w w' : World} {B n : Nat} {A : Option Addr} {l : List Int} (h : Nums k w B A n l) (hb : Below B w w') : Nums k w' B A n l := h.keep fun _ hp => hb.cell hp
theorem Nums.at_ {k : IntKind} {w : World} {B n : Nat} {A : Option Addr} {l : List Int} (h : Nums k w B A n l) {i : Nat} (hk : i < n) : ∃ b o x, A = some ⟨b, o, none⟩ ∧ b < B ∧ l[i]? = some x ∧ (Lit.int k x).wf = true ∧ w.cell? ⟨b, o + i, none⟩ = some (.int k x) := by
  obtain ⟨b, o, e, hb, hc⟩ := h.2.2 (by omega)
  have hl : i < l.length := by have := h.1; omega
  exact ⟨b, o, l[i], e, hb, List.getElem?_eq_getElem hl, h.2.1 _ (List.getElem_mem hl), hc i _ (List.getElem?_eq_getElem hl)⟩
end
end Go.Proofs.YtgococpbhbcpmaaGreatDoor

/-
  Arguments that are slices of structs, opened: the general words.
-/
namespace Go.Proofs.YtgococpbhbcpmaaGreatDoor
open Go.RowKit
open Go.ChangeShapes Go.WideShapes Go.ChangeAt
set_option linter.unusedVariables false
set_option linter.unusedSimpArgs false

theorem list_of {α : Type} {Q : Nat → α → Prop} : ∀ (n : Nat), (∀ i, i < n → ∃ x, Q i x) → ∃ l : List α, l.length = n ∧ ∀ (i : Nat) (x : α), l[i]? = some x → Q i x := by
  intro n
  induction n with
  | zero => intro _; exact ⟨[], rfl, fun i x h => by cases h⟩
  | succ n ih =>
    intro h
    obtain ⟨l, h1, h2⟩ := ih (fun i hi => h i (by omega))
    obtain ⟨x, hx⟩ := h n (by omega)
    refine ⟨l ++ [x], by simp [h1], fun i y hy => ?_⟩
    by_cases hi : i < n
    · rw [List.getElem?_append_left (by omega)] at hy
      exact h2 i y hy
    · rw [List.getElem?_append_right (by omega)] at hy
      have hin : i - l.length = 0 := by
        have := (List.getElem?_eq_some_iff.1 hy).1
        simp at this
        omega
      rw [hin] at hy
      have hyx : x = y := by simpa using hy
      subst hyx
      have : i = n := by omega
      subst this
      exact hx

theorem bounds_w64 {z : Int} (h : (Lit.int .u64 z).wf = true) : 0 ≤ z ∧ z < 18446744073709551616 := by
  have h2 := bounds_u64 h
  exact ⟨h2.1, Int.lt_of_le_of_lt h2.2 (by decide)⟩

end Go.Proofs.YtgococpbhbcpmaaGreatDoor

/-
  Arguments that are structs, and slices of structs, opened by their parts. No program stands here.
-/
namespace Go.Proofs.YtgococpbhbcpmaaGreatDoor
open Go.RowKit
open Go.ChangeShapes Go.WideShapes Go.ChangeAt
set_option linter.unusedVariables false
set_option linter.unusedSimpArgs false

/-- What a part is. -/
inductive PK where
  | num (k : IntKind)
  | txt
  | byt
  | flag
def Prt.kind : Prt → PK
  | .num k _ => .num k
  | .txt _ => .txt
  | .byt _ => .byt
  | .flag _ => .flag
def Prt.okay : Prt → Prop
  | .num k z => (Lit.int k z).wf = true
  | .txt l => l.length ≤ maxLen
  | _ => True
/-- The type's own part. -/
def PK.fits (P : Program) (t : TypeId) : PK → Prop
  | .num k => P.underlying t = some (.int k)
  | .txt => P.underlying t = some .string
  | .byt => ∃ e, P.underlying t = some (.slice e) ∧ P.underlying e = some (.int .u8) ∧ P.cellsOf e = 1
  | .flag => P.underlying t = some .bool
/-- The fields of a struct are these parts, a cell each. -/
def Fits (P : Program) (fs : Array Field) (pks : List PK) : Prop :=
  fs.size = pks.length ∧ ∀ (i : Nat) (pk : PK), pks[i]? = some pk → ∃ f, fs[i]? = some f ∧ f.offset = i ∧ P.cellsOf f.type = 1 ∧ pk.fits P f.type

section
variable {H : Type} {enc : TypeId × Value → H} {P : Program} {w : World} {held : Bool}

theorem open_prt {fuel : Nat} {t : TypeId} {pk : PK} {v : Value} {x : DataW H × List MemPlace} (hf : pk.fits P t) (h : DataW.trod enc P w 0 (fun _ => true) held fuel t [v] = some x) :
    ∃ p : Prt, p.kind = pk ∧ PrtV w (fun k => w.heap.size ≤ k) v p ∧ p.okay := by
  cases pk with
  | num k =>
    obtain ⟨z, e, _, hz⟩ := DataW.trod_int hf h
    exact ⟨.num k z, rfl, (by simpa using e : v = .int k z), hz⟩
  | txt =>
    obtain ⟨s, e, _, hs⟩ := DataW.trod_string hf h
    refine ⟨.txt s.data.toList, rfl, ?_, (by simpa using hs : s.data.toList.length ≤ maxLen)⟩
    show v = .string ⟨s.data.toList.toArray⟩
    simpa using e
  | byt =>
    obtain ⟨e, h1, h2, h3⟩ := hf
    obtain ⟨A, m, c, rfl⟩ : ∃ A m c, v = .slice A m c := by
      rcases DataW.trod_slice h1 h with ⟨e, _⟩ | ⟨a, l, c, _, _, _, _, e, _⟩
      · exact ⟨none, 0, 0, by simpa using e⟩
      · exact ⟨some a, l, c, by simpa using e⟩
    obtain ⟨l, hb, hnil, hlc, hmx⟩ := open_byt h1 h2 h3 ⟨fuel, h⟩
    exact ⟨.byt l, rfl, ⟨A, m, c, rfl, hb.off (fun k hk => hk), fun hA => ⟨by have := hnil hA; omega, hnil hA⟩, hlc, hmx⟩, trivial⟩
  | flag =>
    obtain ⟨b, e, _⟩ := DataW.trod_bool hf h
    exact ⟨.flag b, rfl, (by simpa using e : v = .bool b), trivial⟩

theorem open_prts {fuel : Nat} {t : TypeId} {fs : Array Field} {pks : List PK} {cs : List Value} {x : DataW H × List MemPlace} (ht : P.underlying t = some (.struct fs)) (hc : P.cellsOf t = pks.length) (hF : Fits P fs pks)
    (h : DataW.trod enc P w 0 (fun _ => true) held fuel t cs = some x) : ∃ ps : List Prt, ps.map Prt.kind = pks ∧ PrtsV w (fun k => w.heap.size ≤ k) cs ps ∧ ∀ p ∈ ps, p.okay := by
  obtain ⟨xs, n, _, _, hl, hxl, hf⟩ := DataW.trod_struct ht h
  rw [hc] at hl
  have each : ∀ (j : Nat) (rest : List PK) (r : List Value), pks.drop j = rest → cs.drop j = r → ∃ ps : List Prt, ps.map Prt.kind = rest ∧ PrtsV w (fun k => w.heap.size ≤ k) r ps ∧ ∀ p ∈ ps, p.okay := by
    intro j rest
    induction rest generalizing j with
    | nil =>
      intro r h1 h2
      have : pks.length ≤ j := List.drop_eq_nil_iff.1 h1
      refine ⟨[], rfl, ?_, fun p hp => by cases hp⟩
      show r = []
      rw [← h2]
      exact List.drop_eq_nil_of_le (by omega)
    | cons pk rest ih =>
      intro r h1 h2
      have hj : j < pks.length := by
        rcases Nat.lt_or_ge j pks.length with h | h
        · exact h
        · rw [List.drop_eq_nil_of_le h] at h1; cases h1
      have hpk : pks[j]? = some pk := by
        have := congrArg List.head? h1
        simpa [List.head?_drop] using this
      have h1' : pks.drop (j + 1) = rest := by
        have := congrArg (List.drop 1) h1
        simpa [List.drop_drop, Nat.add_comm] using this
      obtain ⟨f, hfj, ho, hc1, hfit⟩ := hF.2 j pk hpk
      have hcj : cs[j]? = some (cs[j]'(by omega)) := List.getElem?_eq_getElem (by omega)
      obtain ⟨v, hv⟩ : ∃ v, cs[j]'(by omega) = v := ⟨_, rfl⟩
      rw [hv] at hcj
      have hr : r = v :: cs.drop (j + 1) := by
        rw [← h2, ← hv]
        exact List.drop_eq_getElem_cons (by omega)
      have htr := hf j f hfj
      rw [ho, hc1, List.drop_eq_getElem_cons (by omega : j < cs.length), hv] at htr
      have hxj : xs[j]? = some (xs[j]'(by have := hF.1; omega)) := List.getElem?_eq_getElem _
      rw [hxj] at htr
      obtain ⟨p, hp1, hp2, hp3⟩ := open_prt hfit (show DataW.trod enc P w 0 (fun _ => true) held n f.type [v] = _ from by simpa using htr)
      obtain ⟨ps, hq1, hq2, hq3⟩ := ih (j + 1) _ h1' rfl
      refine ⟨p :: ps, by rw [List.map_cons, hp1, hq1], ⟨v, _, hr, hp2, hq2⟩, fun q hq => ?_⟩
      rcases List.mem_cons.1 hq with rfl | hq
      · exact hp3
      · exact hq3 q hq
  obtain ⟨ps, h1, h2, h3⟩ := each 0 pks cs rfl rfl
  exact ⟨ps, h1, h2, h3⟩

theorem open_sls {t e : TypeId} {fs : Array Field} {pks : List PK} {a : Option Addr} {len cap : Nat} {d : DataW H} {p : List MemPlace} (ht : P.underlying t = some (.slice e)) (he : P.underlying e = some (.struct fs)) (hc : P.cellsOf e = pks.length) (hk : 0 < pks.length) (hF : Fits P fs pks)
    (h : DataW.Trod enc P w 0 (fun _ => true) held t (.slice a len cap) d p) :
    ∃ ss : List (List Prt), Sls w (fun k => w.heap.size ≤ k) pks.length a len ss ∧ (∀ ps ∈ ss, ps.map Prt.kind = pks ∧ ∀ p ∈ ps, p.okay) ∧ (a = none → cap = 0) ∧ len ≤ cap ∧ cap ≤ maxLen := by
  obtain ⟨fuel, hf⟩ := h
  rcases DataW.trod_slice ht hf with ⟨hcs, _⟩ | ⟨ad, len', cap', elems, rest, m, _, hcs, hx, hb, hl, hm, hlen, hel, _, _⟩
  · simp [Value.cells] at hcs
    obtain ⟨rfl, rfl, rfl⟩ := hcs
    exact ⟨[], Sls.nil, fun _ h => (by cases h), fun _ => rfl, Nat.le_refl _, Nat.zero_le _⟩
  · simp [Value.cells] at hcs
    obtain ⟨rfl, rfl, rfl⟩ := hcs
    have each : ∀ i, i < len → ∃ s : List Prt, ∃ cs : List Value, cs.length = pks.length ∧ (∀ j, j < pks.length → w.cell? (ad.add (i * pks.length + j)) = cs[j]?) ∧ s.map Prt.kind = pks ∧ PrtsV w (fun k => w.heap.size ≤ k) cs s ∧ ∀ p ∈ s, p.okay := by
      intro i hi
      have h1 := hel i hi
      rw [hc] at h1
      rw [List.getElem?_eq_getElem (by omega), Option.bind_eq_some_iff] at h1
      obtain ⟨cs, h2, h3⟩ := h1
      obtain ⟨h4, h5, h6⟩ := World.cells?_some h2
      obtain ⟨s, h7, h8, h9⟩ := open_prts he hc hF h3
      exact ⟨s, cs, h5, fun j hj => by rw [← h6 j hj, Addr.add_add], h7, h8, h9⟩
    obtain ⟨ss, hsl, hss⟩ := list_of len each
    have hmem : ∀ s ∈ ss, s.map Prt.kind = pks ∧ ∀ p ∈ s, p.okay := fun s hs => by
      obtain ⟨i, hi⟩ := List.mem_iff_getElem?.1 hs
      obtain ⟨cs, _, _, h3, _, h5⟩ := hss i s hi
      exact ⟨h3, h5⟩
    refine ⟨ss, ⟨hsl, fun s hs => by rw [← (hmem s hs).1, List.length_map], fun hn => ?_⟩, hmem, (fun h => by cases h), hl, hm⟩
    obtain ⟨g, o, spot⟩ := ad
    obtain ⟨s0, cs0, hl0, hc0, _⟩ := each 0 hn
    have hcell0 : w.cell? ((⟨g, o, spot⟩ : Addr).add 0) = some (cs0[0]'(by omega)) := by
      have := hc0 0 (by omega)
      rw [List.getElem?_eq_getElem (by omega)] at this
      simpa using this
    have hspot : spot = none := by simpa [Addr.add] using World.cell?_spot hcell0
    subst hspot
    have hgl : g < w.heap.size := by
      have := World.block_lt_of_cell? w _ hcell0
      simpa [Addr.add] using this
    refine ⟨g, o, rfl, Nat.not_le.2 hgl, hgl, fun j s hj => ?_⟩
    obtain ⟨cs, h1, h2, _, h3, _⟩ := hss j s hj
    refine ⟨cs, h3, fun i v hv => ?_⟩
    have hi : i < pks.length := by
      have := (List.getElem?_eq_some_iff.1 hv).1
      omega
    have := h2 i hi
    rw [Addr.add_lit, hv] at this
    rw [Nat.add_assoc]
    exact this
end

end Go.Proofs.YtgococpbhbcpmaaGreatDoor
