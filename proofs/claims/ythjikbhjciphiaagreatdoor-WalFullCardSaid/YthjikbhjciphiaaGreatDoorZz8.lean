/-
  Walks over package sha and its reference: turning a number, one turn.
-/
import Derived.Test.YthjikbhjciphiaaGreatDoorZz7
import Derived.Laws.ResultCell
import Derived.Test.YthjikbhjciphiaaGreatDoorZz3
import Derived.IntWalk
import Derived.Laws.Concat
import Derived.Laws.DeepStrings4
import Derived.Test.YthjikbhjciphiaaGreatDoorZz4
import Derived.BigCall
import Derived.BigGuard
import Derived.Test.YthjikbhjciphiaaGreatDoorZz2
import Derived.Lib.OthersKept
import Derived.Laws.RangeString
import Derived.Laws.RangeAny
import Derived.Deep.MidRow
import Derived.Laws.MakeOwn
namespace Go.Proofs.YthjikbhjciphiaaGreatDoor
open Go.RowKit
set_option linter.unusedVariables false
set_option linter.unusedSimpArgs false

theorem rotr_or (x : UInt32) (k : Nat) : (rotr x k).toNat = x.toNat / 2 ^ k ||| x.toNat * 2 ^ (32 - k) % 4294967296 := by
  have hx := x.toNat_lt
  have h1 : x.toNat / 2 ^ k % 4294967296 = x.toNat / 2 ^ k := Nat.mod_eq_of_lt (Nat.lt_of_le_of_lt (Nat.div_le_self _ _) hx)
  unfold rotr
  rw [UInt32.toNat_ofNat', show (2 : Nat) ^ 32 = 4294967296 from rfl, show (4294967296 : Nat) = 2 ^ 32 from rfl, Nat.or_mod_two_pow, show (2 : Nat) ^ 32 = 4294967296 from rfl, h1]

theorem neg_and (k : Nat) (hk : 0 < k ∧ k < 32) : bits .and .u64 (IntKind.u64.wrap (-((k : Nat) : Int))) 31 = ((32 - k : Nat) : Int) := by
  have h1 : IntKind.u64.wrap (-((k : Nat) : Int)) = ((18446744073709551616 - k : Nat) : Int) := by
    simp only [IntKind.wrap, IntKind.bits, IntKind.signed]
    simp
    omega
  rw [h1]
  have h2 := u64_and_nat (18446744073709551616 - k) 31 (by omega) (by decide)
  rw [show (31 : Int) = ((31 : Nat) : Int) from rfl, h2, show (31 : Nat) = 2 ^ 5 - 1 from rfl, Nat.and_two_pow_sub_one_eq_mod]
  congr 1
  omega

theorem rot_bits (x : UInt32) (k : Nat) : bits .or .u32 (((x.toNat : Nat) : Int) / 2 ^ k) (((x.toNat : Nat) : Int) * 2 ^ (32 - k) % 4294967296) = (((rotr x k).toNat : Nat) : Int) := by
  have hx := x.toNat_lt
  have h1 : x.toNat / 2 ^ k < 4294967296 := Nat.lt_of_le_of_lt (Nat.div_le_self _ _) hx
  rw [rotr_or]
  have := u32_or_nat (x.toNat / 2 ^ k) (x.toNat * 2 ^ (32 - k) % 4294967296) h1 (Nat.mod_lt _ (by decide))
  rw [← this]
  simp
theorem rot_bits2 (x : UInt32) (k : Nat) : bits .or .u32 (((x.toNat : Nat) : Int) * 2 ^ (32 - k) % 4294967296) (((x.toNat : Nat) : Int) / 2 ^ k) = (((rotr x k).toNat : Nat) : Int) := by
  have hx := x.toNat_lt
  have h1 : x.toNat / 2 ^ k < 4294967296 := Nat.lt_of_le_of_lt (Nat.div_le_self _ _) hx
  rw [rotr_or, Nat.or_comm]
  have := u32_or_nat (x.toNat * 2 ^ (32 - k) % 4294967296) (x.toNat / 2 ^ k) (Nat.mod_lt _ (by decide)) h1
  rw [← this]
  simp

theorem u_notaux (s : Nat) (hs : s < 4294967296) : (4294967295 : Int) - ((s : Nat) : Int) = bits .xor .u32 IntKind.u32.max ((s : Nat) : Int) := by
  have h := u32_xor_nat 4294967295 s (by decide) hs
  have h2 : (4294967295 : Nat) ^^^ s = 4294967295 - s := by
    have := Nat.xor_comm 4294967295 s
    apply Nat.eq_of_testBit_eq
    intro i
    rw [Nat.testBit_xor, show (4294967295 : Nat) = 2 ^ 32 - 1 from rfl, Nat.testBit_two_pow_sub_one, show 2 ^ 32 - 1 - s = 2 ^ 32 - (s + 1) by omega, Nat.testBit_two_pow_sub_succ (by omega)]
    by_cases hi : i < 32
    · simp [hi]
    · have : s.testBit i = false := Nat.testBit_lt_two_pow (Nat.lt_of_lt_of_le hs (by rw [show (4294967296 : Nat) = 2 ^ 32 from rfl]; exact Nat.pow_le_pow_right (by decide) (by omega)))
      simp [hi, this]
  show _ = bits .xor .u32 ((4294967295 : Nat) : Int) _
  rw [h, h2]
  omega

section
variable (x y : UInt32)
theorem u_addm : (uN x + uN y) % 4294967296 = uN (x + y) := by
  unfold uN; rw [UInt32.toNat_add]; simp
theorem u_addw : IntKind.u32.wrap (uN x + uN y) = uN (x + y) := by
  rw [IntKind.wrap_u32', u_addm]
theorem u_add3 (z : UInt32) : (uN x + uN y + uN z) % 4294967296 = uN (x + y + z) := by
  unfold uN; rw [UInt32.toNat_add, UInt32.toNat_add]; omega
theorem u_add4 (z t : UInt32) : (uN x + uN y + uN z + uN t) % 4294967296 = uN (x + y + z + t) := by
  unfold uN; rw [UInt32.toNat_add, UInt32.toNat_add, UInt32.toNat_add]; omega
theorem u_add5 (z t u : UInt32) : (uN x + uN y + uN z + uN t + uN u) % 4294967296 = uN (x + y + z + t + u) := by
  unfold uN; rw [UInt32.toNat_add, UInt32.toNat_add, UInt32.toNat_add, UInt32.toNat_add]; omega
theorem u_add13 (z t : UInt32) : (uN x + (uN y + uN z + uN t)) % 4294967296 = uN (x + (y + z + t)) := by
  unfold uN; rw [UInt32.toNat_add, UInt32.toNat_add, UInt32.toNat_add]; omega
theorem u_add12 (z : UInt32) : (uN x + (uN y + uN z)) % 4294967296 = uN (x + (y + z)) := by
  unfold uN; rw [UInt32.toNat_add, UInt32.toNat_add]; omega
theorem u_xor : bits .xor .u32 (uN x) (uN y) = uN (x ^^^ y) := by
  unfold uN; rw [UInt32.toNat_xor]; exact u32_xor_nat _ _ x.toNat_lt y.toNat_lt
theorem u_and : bits .and .u32 (uN x) (uN y) = uN (x &&& y) := by
  unfold uN; rw [UInt32.toNat_and]; exact u32_and_nat _ _ x.toNat_lt y.toNat_lt
theorem u_or : bits .or .u32 (uN x) (uN y) = uN (x ||| y) := by
  unfold uN; rw [UInt32.toNat_or]; exact u32_or_nat _ _ x.toNat_lt y.toNat_lt
theorem u_not : bits .xor .u32 IntKind.u32.max (uN y) = uN (4294967295 ^^^ y) := by
  unfold uN; rw [UInt32.toNat_xor]; exact u32_xor_nat 4294967295 _ (by decide) y.toNat_lt
theorem u_not2 : 4294967295 - uN y = uN (4294967295 ^^^ y) := by
  rw [← u_not y]
  exact u_notaux y.toNat y.toNat_lt
theorem u_not3 : (4294967295 - uN y) % 4294967296 = uN (4294967295 ^^^ y) := by
  rw [u_not2]
  exact Int.emod_eq_of_lt (uN_lo _) (uN_hi _)
theorem u_not4 : IntKind.u32.wrap (4294967295 - uN y) = uN (4294967295 ^^^ y) := by
  rw [IntKind.wrap_u32', u_not3]
theorem u_shr (k : Nat) : uN x / 2 ^ k = uN (shr x k) := by
  have hx := x.toNat_lt
  unfold uN shr
  rw [UInt32.toNat_ofNat', Nat.mod_eq_of_lt (Nat.lt_of_le_of_lt (Nat.div_le_self _ _) hx)]
  simp
theorem u_shr3 : uN x / 8 = uN (shr x 3) := u_shr x 3
theorem u_shr10 : uN x / 1024 = uN (shr x 10) := u_shr x 10
end

attribute [local go_sem] u_addm u_addw u_add3 u_add4 u_add5 u_add12 u_add13 u_xor u_and u_or u_not u_not2 u_not3 u_not4 u_shr3 u_shr10

end Go.Proofs.YthjikbhjciphiaaGreatDoor

/-
  Results that lie in a cell, beside one in a slot; a whole struct stored. No program stands here.
-/
namespace Go.Proofs.YthjikbhjciphiaaGreatDoor
open Go.RowKit
set_option linter.unusedVariables false
set_option linter.unusedSimpArgs false

/-- Two results, the first a struct in a cell. -/
theorem ret_cell_tmp {P : Program} {fn : Func} {R : Ending → World → Prop} {a : Act} {w : World} {p q : Tmp} {ty : TypeId} (h : fn.results = #[.cell p ty, .tmp q]) (g : Nat) (t : TypeId) (cs : List Value)
    (hp : a.tmps.getD p undef = .pointer (some ⟨g, 0, none⟩)) (hg : Blk w g t cs) (fs : Array Field)
    (hu : P.underlying ty = some (.struct fs)) (hi : (P.info? ty).map (·.size) = some cs.length) (x : Value) (hx : a.tmps.getD q undef = x) (hd : a.defers = []) (hR : R (.returned (.tuple #[.agg cs.toArray, x])) w) : bodyPost P fn R .ret a w := by
  refine bodyPost_ret (v := .tuple #[.agg cs.toArray, x]) ?_ hd hR
  rw [results_cell_tmp h, hp]
  simp [asAddr, run_loadVar_row w g t ty cs.toArray (0, 0) _ hg hu rfl (by simpa using hi), Result.andThen]
  simpa using hx
/-- One result, a struct in a cell. -/
theorem ret_cell_one {P : Program} {fn : Func} {R : Ending → World → Prop} {a : Act} {w : World} {p : Tmp} {ty : TypeId} (h : fn.results = #[.cell p ty]) (g : Nat) (t : TypeId) (cs : List Value)
    (hp : a.tmps.getD p undef = .pointer (some ⟨g, 0, none⟩)) (hg : Blk w g t cs) (fs : Array Field)
    (hu : P.underlying ty = some (.struct fs)) (hi : (P.info? ty).map (·.size) = some cs.length) (hd : a.defers = []) (hR : R (.returned (.agg cs.toArray)) w) : bodyPost P fn R .ret a w :=
  bodyPost_ret (results_cell_row h _ w g t cs.toArray (0, 0) _ hp hg hu rfl (by simpa using hi)) hd hR

/-- What is owned stays owned where a whole row of another block is stored. -/
theorem own_setRow {w : World} {base : Nat} {e : TypeId} {size : Nat} {v : Value} {n : Nat} {xs : List Value} (h : w.ownsRow base e size v n xs) {g : Nat} (hg : g < base) (C : Array Value) : (w.setRow g C).ownsRow base e size v n xs := by
  refine h.kept (w' := w.setRow g C) (row := some g) ⟨rfl, rfl, rfl, by rw [size_setRow]; exact Nat.le_refl _, fun k hk hne => ?_⟩ ?_
  · unfold World.setRow
    show (w.heap.modify g _)[k]? = _
    rw [Array.getElem?_modify, if_neg (fun e => hne (by rw [e]))]
  · exact Or.inr fun e => by
      have := (h.lt g e).1
      omega

end Go.Proofs.YthjikbhjciphiaaGreatDoor

/-
  What follows n bytes: the program's Pad and the reference's.
-/
namespace Go.Proofs.YthjikbhjciphiaaGreatDoor
open Go.RowKit
set_option linter.unusedVariables false
set_option linter.unusedSimpArgs false

def padZ (n : Nat) : Nat := (119 - n % 64) % 64
/-- Eight bytes, the highest first. -/
def be8 (x : Nat) : List UInt8 := (le 8 x).reverse
def padL (n : Nat) : List UInt8 := (128 :: List.replicate (padZ n) 0) ++ be8 (n * 8)
theorem padZ_lt (n : Nat) : padZ n < 64 := Nat.mod_lt _ (by decide)
theorem be8_len (x : Nat) : (be8 x).length = 8 := by unfold be8; rw [List.length_reverse, le_len]
theorem padL_len (n : Nat) : (padL n).length = 9 + padZ n := by
  unfold padL
  rw [List.length_append, List.length_cons, List.length_replicate, be8_len]; omega
theorem padL_whole (n : Nat) : (n + (padL n).length) % 64 = 0 := by
  rw [padL_len]; unfold padZ; omega
theorem be8_take (x k : Nat) (hk : k < 8) : (be8 x).take (k + 1) = (be8 x).take k ++ [UInt8.ofNat (x / 256 ^ (7 - k))] := by
  rw [List.take_add_one]
  congr 1
  unfold be8
  rw [List.getElem?_reverse (by rw [le_len]; omega), le_len, show 8 - 1 - k = 7 - k by omega]
  generalize hq : 7 - k = q
  have hq8 : q < 8 := by omega
  have h : ∀ (m x q : Nat), q < m → (le m x)[q]? = some (UInt8.ofNat (x / 256 ^ q)) := by
    intro m
    induction m with
    | zero => intro x q h; omega
    | succ m ih =>
      intro x q h
      cases q with
      | zero => simp [le]
      | succ q =>
        rw [le, List.getElem?_cons_succ, ih _ _ (by omega), Nat.pow_succ, Nat.mul_comm, Nat.div_div_eq_div_mul]
  rw [h 8 x q hq8]; rfl

def lenOf : Value → Nat
  | .slice _ n _ => n
  | _ => 0

end Go.Proofs.YthjikbhjciphiaaGreatDoor

/-
  The reference's names of segments.
-/
namespace Go.Proofs.YthjikbhjciphiaaGreatDoor
open Go.RowKit
set_option linter.unusedVariables false
set_option linter.unusedSimpArgs false

theorem hd16_slice {P : Program} (w : World) (t : TypeId) (k k' : IntKind) (d : Nat) (i j : Int) (hi : i = (d : Int)) (hj : j = (d : Int) + 1) (hd : d < 16) (h : P.underlying t = some .string) :
    (Instr.slice t (.string ⟨#[48, 49, 50, 51, 52, 53, 54, 55, 56, 57, 97, 98, 99, 100, 101, 102]⟩) (some (.int k i)) (some (.int k' j)) none).run P w = .ok (.string ⟨[hd16 d].toArray⟩) w := by
  subst hi; subst hj
  rw [run_slice_string_if w t _ k k' _ _ h, if_pos ⟨by omega, by show _ ≤ ((16 : Nat) : Int); omega⟩, if_pos ⟨by omega, by omega⟩]
  congr 1
  have e : ∀ d : Fin 16, (⟨#[48, 49, 50, 51, 52, 53, 54, 55, 56, 57, 97, 98, 99, 100, 101, 102]⟩ : ByteArray).extract d.val (d.val + 1) = ⟨[hd16 d.val].toArray⟩ := by decide +kernel
  have := e ⟨d, hd⟩
  rw [show ((d : Int)).toNat = d by omega, show ((d : Int) + 1).toNat = d + 1 by omega]
  exact congrArg Value.string this
theorem add_txts {P : Program} (x y z : List UInt8) (hz : z = x ++ y) (hx : (x.length : Int) ≤ 8388608) (hy : (y.length : Int) ≤ 8388608) (w : World) :
    (Op.stringOp .add ⟨x.toArray⟩ ⟨y.toArray⟩).run P w = .ok (.string ⟨z.toArray⟩) w := by
  subst hz
  exact run_string_add_lists w x y hx hy

theorem str_at {P : Program} (s : ByteArray) (t : TypeId) (h : P.underlying t = some .string) (k : Nat) (c : UInt8) (hc : s.data.toList[k]? = some c) (w : World) :
    (Instr.index t (.string s) (.int .i64 (k : Nat))).run P w = .ok (.int .u8 ((c.toNat : Nat) : Int)) w := by
  have hk : k < s.size := by
    have := (List.getElem?_eq_some_iff.1 hc).1
    simpa using this
  rw [run_index_string w t s .i64 _ h, dif_pos ⟨by omega, by omega⟩]
  have e : s[k]'hk = c := by
    have := (List.getElem?_eq_some_iff.1 hc).2
    rw [Array.getElem_toList] at this
    exact this
  simp only [Int.toNat_natCast, e]
theorem val_take (l : List UInt8) (k : Nat) (c : UInt8) (h : l[k]? = some c) : valS (l.take (k + 1)) = stepV (valS (l.take k)) c := by
  unfold valS
  rw [List.take_add_one, h]
  simp

end Go.Proofs.YthjikbhjciphiaaGreatDoor

/-
  Lists of texts in memory; the reference's answer: are two lists of texts the same?
-/
namespace Go.Proofs.YthjikbhjciphiaaGreatDoor
open Go.RowKit
set_option linter.unusedVariables false
set_option linter.unusedSimpArgs false

/-- Texts as values. -/
def wsV (L : List (List UInt8)) : List Value := L.map fun w => .string ⟨w.toArray⟩

end Go.Proofs.YthjikbhjciphiaaGreatDoor

/-
  Arithmetic of names: which runes a name, digits and a line have; a rune that is read of bytes. No program stands here.
-/
namespace Go.Proofs.YthjikbhjciphiaaGreatDoor
open Go.RowKit
set_option linter.unusedVariables false
set_option linter.unusedSimpArgs false

def letR (r : Int) : Bool := decide (97 ≤ r) && decide (r ≤ 122)
def digR (r : Int) : Bool := decide (48 ≤ r) && decide (r ≤ 57)
def tenR (r : Int) : Bool := letR r || digR r || decide (r = 45)
def tarR (r : Int) : Bool := tenR r || decide (r = 46) || decide (r = 58)
def hexR (r : Int) : Bool := digR r || (decide (97 ≤ r) && decide (r ≤ 102))
/-- Whether each byte, taken as a rune, is one of p's. -/
def allR (p : Int → Bool) (l : List UInt8) : Bool := l.all fun b => p ((b.toNat : Nat) : Int)
theorem letR_high (r : Int) (h : 128 ≤ r) : letR r = false := by simp [letR]; omega
theorem digR_high (r : Int) (h : 128 ≤ r) : digR r = false := by simp [digR]; omega
theorem tenR_high (r : Int) (h : 128 ≤ r) : tenR r = false := by simp [tenR, letR, digR]; omega
theorem tarR_high (r : Int) (h : 128 ≤ r) : tarR r = false := by simp [tarR, tenR, letR, digR]; omega
theorem hexR_high (r : Int) (h : 128 ≤ r) : hexR r = false := by simp [hexR, digR]; omega

theorem allR_take (p : Int → Bool) (l : List UInt8) (k : Nat) (b : UInt8) (h : l[k]? = some b) : allR p (l.take (k + 1)) = (allR p (l.take k) && p ((b.toNat : Nat) : Int)) := by
  unfold allR
  rw [List.take_add_one, h]
  simp [List.all_append]

theorem allR_out (p : Int → Bool) (l : List UInt8) (k : Nat) (b : UInt8) (h : l[k]? = some b) (hp : p ((b.toNat : Nat) : Int) = false) : allR p l = false := by
  unfold allR
  rw [List.all_eq_false]
  exact ⟨b, List.mem_of_getElem? h, by simp [hp]⟩

theorem byte_at (s : ByteArray) (k : Nat) (h : k < s.size) : s.data.toList[k]? = some (s[k]'h) := by
  have : k < s.data.toList.length := by simpa using h
  rw [List.getElem?_eq_getElem this]
  rfl

/-- A rune that is read is no greater than the greatest one. -/
theorem decode_max (s : ByteArray) (pos : Nat) : (Utf8.decode s pos).1 ≤ 1114111 := by
  have hb : ∀ k, (s.get! (pos + k)).toNat < 256 := fun k => (s.get! (pos + k)).toNat_lt
  have h0 := hb 0; have h1 := hb 1; have h2 := hb 2; have h3 := hb 3
  simp only [Utf8.decode]
  repeat' split
  all_goals simp_all [Utf8.runeError, Utf8.valid]
  all_goals omega

end Go.Proofs.YthjikbhjciphiaaGreatDoor

/-
  Cells in the midst of a block: what keeps them; a slice of structs made. No program stands here.
-/
namespace Go.Proofs.YthjikbhjciphiaaGreatDoor
open Go.RowKit
set_option linter.unusedVariables false
set_option linter.unusedSimpArgs false

/-- Each cell that is there stays as it is. -/
def Keeps (w w' : World) : Prop := w.heap.size ≤ w'.heap.size ∧ ∀ (a : Addr) (v : Value), w.cell? a = some v → w'.cell? a = some v
theorem Keeps.refl (w : World) : Keeps w w := ⟨Nat.le_refl _, fun _ _ h => h⟩
theorem Keeps.trans {a b c : World} (h : Keeps a b) (k : Keeps b c) : Keeps a c := ⟨Nat.le_trans h.1 k.1, fun p v e => k.2 p v (h.2 p v e)⟩
theorem keeps_below {w w' : World} (h : Below w.heap.size w w') : Keeps w w' := ⟨h.size, fun p v e => by rw [h.cell (block_lt_of_cell e)]; exact e⟩
theorem keeps_iterAt {w : World} {I : Nat} {s t : ByteArray} {p q : Nat} (hit : w.heap[I]? = some (.stringIter s p)) : Keeps w (w.iterAt I t q) := by
  refine ⟨by rw [Lib.iterAt_size]; exact Nat.le_refl _, fun a v h => ?_⟩
  by_cases ha : a.block = I
  · simp [World.cell?, ha, hit] at h
  · rw [World.cell?_of_block (w := w) (Lib.iterAt_other w I a.block t q ha)]
    exact h
theorem Byt.keeps {w w' : World} {B n : Nat} {A : Option Addr} {l : List UInt8} (h : Byt w B A n l) (hk : Keeps w w') : Byt w' B A n l :=
  ⟨h.1, fun hn => by
    obtain ⟨b, o, e, hb, hc⟩ := h.2 hn
    exact ⟨b, o, e, hb, fun j x hx => hk.2 _ _ (hc j x hx)⟩⟩
theorem rangeAt_keeps {w w' : World} {b o : Nat} {cs : List Value} (h : w.rangeAt b o cs) (hk : Keeps w w') : w'.rangeAt b o cs := fun j v hv => hk.2 _ _ (h j v hv)
theorem rangeAt_below {w w' : World} {B b o : Nat} {cs : List Value} (h : w.rangeAt b o cs) (hb : Below B w w') (hlt : b < B) : w'.rangeAt b o cs := fun j v hv => by
  rw [hb.cell (p := ⟨b, o + j, none⟩) hlt]
  exact h j v hv
theorem there_below {w w' : World} {B b o n : Nat} (h : w.there b o n) (hb : Below B w w') (hlt : b < B) : w'.there b o n := fun j hj => by
  rw [hb.cell (p := ⟨b, o + j, none⟩) hlt, hb.frozen (p := ⟨b, o + j, none⟩) hlt]
  exact h j hj
theorem there_iterAt {w : World} {I b o n : Nat} (h : w.there b o n) (hne : b ≠ I) (s : ByteArray) (q : Nat) : (w.iterAt I s q).there b o n := fun j hj => by
  rw [World.cell?_of_block (w := w) (a := ⟨b, o + j, none⟩) (Lib.iterAt_other w I b s q hne), World.frozen?_of_block (w := w) (a := ⟨b, o + j, none⟩) (Lib.iterAt_other w I b s q hne)]
  exact h j hj
theorem there_part {w : World} {b o n : Nat} (h : w.there b o n) (i m : Nat) (him : i + m ≤ n) : w.there b (o + i) m := fun j hj => by
  rw [Nat.add_assoc]
  exact h (i + j) (by omega)
theorem setCells_size (b : Nat) : ∀ (vs : List Value) (o : Nat) (w : World), (w.setCells b o vs).heap.size = w.heap.size
  | [], _, _ => rfl
  | v :: r, o, w => by
    rw [World.setCells, setCells_size b r (o + 1)]
    simp [World.setCell]
theorem below_setCells {B : Nat} {a : World} (b : Nat) (hb : B ≤ b) : ∀ (vs : List Value) (o : Nat) (w : World), Below B a w → Below B a (w.setCells b o vs)
  | [], _, _, h => h
  | v :: r, o, w, h => by
    rw [World.setCells]
    exact below_setCells b hb r (o + 1) _ (h.setCell (p := ⟨b, o, none⟩) hb v)
theorem heap_setCells_other (b j : Nat) (hj : j ≠ b) : ∀ (vs : List Value) (o : Nat) (w : World), (w.setCells b o vs).heap[j]? = w.heap[j]?
  | [], _, _ => rfl
  | v :: r, o, w => by
    rw [World.setCells, heap_setCells_other b j hj r (o + 1)]
    exact heap_setCell_other w ⟨b, o, none⟩ j v hj

/-- 'make([]T, n)' of any elements: all its cells are there. -/
theorem wpList_make_there {P : Program} (w : World) {ops : Array Oper} {rest : List Oper} {o : Oper} {a : Act} {Q : Exit → Act → World → Prop}
    (hg : o.guard = none) (l c : Operand) (t : TypeId) (hop : o.op = Op.makeSlice t l c)
    (e : TypeId) (i : TypeInfo) (z : Value) (size bytes : Nat) (h1 : P.underlying t = some (.slice e)) (h2 : P.info? e = some i) (h3 : i.zero = some z) (h4 : i.size = size) (h5 : i.bytes = bytes)
    (kl kc : IntKind) (N C : Int) (n : Nat) (hl : a.eval l = .int kl N) (hc : a.eval c = .int kc C) (hN : N = (n : Int)) (hC : C = (n : Int)) (b2 : bytes * n ≤ 140737488355328) (b3 : n ≤ 140737488355328)
    (hK : ∀ w', w'.there w.heap.size 0 (n * size) → Below w.heap.size w w' → w'.heap.size = w.heap.size + 1 → wpList P ops Q rest (a.put o.dst (.slice (some ⟨w.heap.size, 0, none⟩) n n)) w') :
    wpList P ops Q (o :: rest) a w := by
  refine wpList_plain hg fun K hK' => ?_
  have hb : ((i.bytes : Int) * C) ≤ 281474976710656 := by
    rw [h5, hC, ← Int.natCast_mul]
    omega
  have hr := run_make (P := P) w t e i _ h1 h2 h3 kl kc N C (by omega) (by omega) hb (by omega)
  subst hN; subst hC
  unfold Oper.wp
  simp only [execOp, hop, hl, hc, Sem.run_bind, hr, Result.andThen, Int.toNat_natCast, h4]
  refine hK' _ _ (hK _ (fun j hj => ?_) ((Below.refl _ w).alloc (Nat.le_refl _) _) (by simp))
  have hlt : 0 + j < (madeCells z.cells (n * size)).size := by rw [size_madeCells]; omega
  exact ⟨by rw [World.cell?_alloc_new, Array.getElem?_eq_getElem hlt]; rfl, World.frozen?_alloc_new w _ e _⟩

/-- Cells given as a list, stored in the midst of a block; loaded. -/
theorem wpList_store_list {P : Program} {ops : Array Oper} {rest : List Oper} {op : Oper} {a : Act} {w : World} {Q : Exit → Act → World → Prop} (hgd : op.guard = none) (ty : TypeId) (x y : Operand) (ho : op.op = .store ty x y)
    (b o : Nat) (cs : List Value) (hx : a.eval x = .pointer (some ⟨b, o, none⟩)) (hy : a.eval y = .agg cs.toArray)
    (ht : w.there b o cs.length) (hi : (P.info? ty).map (·.size) = some cs.length) (h1 : ∀ v ∈ cs, v.oneCell' = true)
    (h : wpList P ops Q rest (a.put op.dst undef) (w.setCells b o cs)) : wpList P ops Q (op :: rest) a w :=
  wpList_store_mid hgd ty x y ho b o cs.toArray hx hy (by simpa using ht) (by simpa using hi) (all_oneCell_toArray h1) h

end Go.Proofs.YthjikbhjciphiaaGreatDoor

/-
  What turns at all: only blocks of a set, and new ones; bytes that lie off such a set. No program stands here.
-/
namespace Go.Proofs.YthjikbhjciphiaaGreatDoor
open Go.RowKit
set_option linter.unusedVariables false
set_option linter.unusedSimpArgs false

/-- Of the blocks that are there only those of S turn. -/
structure Turn (S : Nat → Prop) (w w' : World) : Prop where
  os : w'.os = w.os
  tape : w'.tape = w.tape
  output : w'.output = w.output
  size : w.heap.size ≤ w'.heap.size
  block : ∀ k, k < w.heap.size → ¬ S k → w'.heap[k]? = w.heap[k]?
section
variable {S S' : Nat → Prop} {w w' w'' : World}
theorem Turn.refl (S : Nat → Prop) (w : World) : Turn S w w := ⟨rfl, rfl, rfl, Nat.le_refl _, fun _ _ _ => rfl⟩
theorem Turn.trans (h : Turn S w w') (k : Turn S w' w'') : Turn S w w'' :=
  ⟨k.os.trans h.os, k.tape.trans h.tape, k.output.trans h.output, Nat.le_trans h.size k.size, fun i hi hs => (k.block i (Nat.lt_of_lt_of_le hi h.size) hs).trans (h.block i hi hs)⟩
theorem Turn.of_below (h : Below w.heap.size w w') : Turn S w w' := ⟨h.os, h.tape, h.output, h.size, fun k hk _ => h.block k hk⟩
theorem Turn.mono (h : Turn S w w') (hs : ∀ k, S k → S' k) : Turn S' w w' := ⟨h.os, h.tape, h.output, h.size, fun k hk hn => h.block k hk fun e => hn (hs k e)⟩
theorem Turn.alloc (h : Turn S w w') (o : Obj) : Turn S w (w'.alloc o) := h.trans (Turn.of_below ((Below.refl _ w').alloc (Nat.le_refl _) o))
theorem Turn.drewN (h : Turn S w w') (q : Nat) : Turn S w (w'.drewN q) := ⟨h.os, h.tape, h.output, h.size, h.block⟩
theorem Turn.setCell (h : Turn S w w') {p : Addr} (hp : S p.block) (u : Value) : Turn S w (w'.setCell p u) := by
  refine ⟨h.os, h.tape, h.output, ?_, fun k hk hn => ?_⟩
  · have : (w'.setCell p u).heap.size = w'.heap.size := by simp [World.setCell]
    rw [this]; exact h.size
  · rw [heap_setCell_other w' p k u (fun e => hn (by rw [e]; exact hp))]
    exact h.block k hk hn
theorem Turn.cell (h : Turn S w w') {p : Addr} (hp : p.block < w.heap.size) (hs : ¬ S p.block) : w'.cell? p = w.cell? p := World.cell?_of_block (h.block p.block hp hs)
theorem Turn.at_ (h : Turn S w w') {p : Addr} {v : Value} (hc : w.cell? p = some v) (hs : ¬ S p.block) : w'.cell? p = some v := (h.cell (block_lt_of_cell hc) hs).trans hc
/-- Where only new blocks are of S, nothing that was there turns. -/
theorem Turn.below (h : Turn S w w') {B : Nat} (hB : B ≤ w.heap.size) (hs : ∀ k, S k → B ≤ k) : Below B w w' :=
  ⟨h.os, h.tape, h.output, h.size, fun k hk => h.block k (Nat.lt_of_lt_of_le hk hB) fun e => by have := hs k e; omega⟩
theorem Turn.blk {g : Nat} {t : TypeId} {cs : List Value} (h : Turn S w w') (hb : Blk w g t cs) (hs : ¬ S g) : Blk w' g t cs := (h.block g hb.lt hs).trans hb

/-- The slice value '.slice A n c' reads as the bytes l, off S. -/
def BytS (w : World) (S : Nat → Prop) (A : Option Addr) (n : Nat) (l : List UInt8) : Prop :=
  l.length = n ∧ (0 < n → ∃ b o, A = some ⟨b, o, none⟩ ∧ ¬ S b ∧ ∀ (j : Nat) (x : UInt8), l[j]? = some x → w.cell? ⟨b, o + j, none⟩ = some (.int .u8 ((x.toNat : Nat) : Int)))
theorem BytS.turn {A : Option Addr} {n : Nat} {l : List UInt8} (h : BytS w S A n l) (ht : Turn S w w') : BytS w' S A n l :=
  ⟨h.1, fun hn => by
    obtain ⟨b, o, e, hs, hc⟩ := h.2 hn
    exact ⟨b, o, e, hs, fun j x hx => ht.at_ (hc j x hx) hs⟩⟩
theorem BytS.less {A : Option Addr} {n : Nat} {l : List UInt8} (h : BytS w S A n l) (hs : ∀ k, S' k → S k) : BytS w S' A n l :=
  ⟨h.1, fun hn => by
    obtain ⟨b, o, e, hb, hc⟩ := h.2 hn
    exact ⟨b, o, e, fun x => hb (hs b x), hc⟩⟩
/-- More blocks to be off, none of which is there yet. -/
theorem BytS.more {A : Option Addr} {n : Nat} {l : List UInt8} (h : BytS w S A n l) (hs : ∀ k, S' k → k < w.heap.size → S k) : BytS w S' A n l :=
  ⟨h.1, fun hn => by
    obtain ⟨b, o, e, hb, hc⟩ := h.2 hn
    refine ⟨b, o, e, fun x => hb (hs b x ?_), hc⟩
    have hl : 0 < l.length := by have := h.1; omega
    exact block_lt_of_cell (hc 0 _ (List.getElem?_eq_getElem hl))⟩
theorem BytS.byt {A : Option Addr} {n : Nat} {l : List UInt8} (h : BytS w S A n l) : Byt w w.heap.size A n l :=
  ⟨h.1, fun hn => by
    obtain ⟨b, o, e, hb, hc⟩ := h.2 hn
    have hl : 0 < l.length := by have := h.1; omega
    exact ⟨b, o, e, block_lt_of_cell (hc 0 _ (List.getElem?_eq_getElem hl)), hc⟩⟩
theorem Byt.off {A : Option Addr} {n B : Nat} {l : List UInt8} (h : Byt w B A n l) (hs : ∀ k, S k → B ≤ k) : BytS w S A n l :=
  ⟨h.1, fun hn => by
    obtain ⟨b, o, e, hb, hc⟩ := h.2 hn
    exact ⟨b, o, e, fun x => by have := hs b x; omega, hc⟩⟩
theorem BytS.take {A : Option Addr} {n m : Nat} {l : List UInt8} (h : BytS w S A n l) (hm : m ≤ n) : BytS w S A m (l.take m) := by
  refine ⟨by rw [List.length_take, h.1]; omega, fun h0 => ?_⟩
  obtain ⟨b, o, e, hb, hc⟩ := h.2 (by omega)
  refine ⟨b, o, e, hb, fun j x hx => hc j x ?_⟩
  rw [List.getElem?_take] at hx
  split at hx
  · exact hx
  · cases hx
theorem BytS.nil {A : Option Addr} : BytS w S A 0 [] := ⟨rfl, fun h => absurd h (by omega)⟩
end

end Go.Proofs.YthjikbhjciphiaaGreatDoor
