/-
  SHA-256 over UInt32: turning, one turn, a block's 64 numbers, a block, a digest. No program stands here.
-/
import Derived.Test.YtgococpbhbcpmaaGreatDoorZz4
import Derived.Test.YtgococpbhbcpmaaGreatDoorZz1
import Derived.IntWalk
import Derived.RegionTactic
import Derived.BigRegion
import Derived.StillTailTactics
import Derived.Lib.AppendZeros
namespace Go.Proofs.YtgococpbhbcpmaaGreatDoor
open Go.RowKit
set_option linter.unusedVariables false
set_option linter.unusedSimpArgs false

/-- A number of 32 bits as the model's number: a word of its own, so that no rule on 'toNat' strikes within. -/
def uN (x : UInt32) : Int := ((x.toNat : Nat) : Int)
theorem uN_lo (x : UInt32) : 0 ≤ uN x := Int.natCast_nonneg _
theorem uN_hi (x : UInt32) : uN x < 4294967296 := by have := x.toNat_lt; unfold uN; omega
/-- A number of 32 bits as a cell. -/
def uv (x : UInt32) : Value := .int .u32 (uN x)

theorem uvs_one (l : List UInt32) : ∀ u ∈ l.map uv, u.oneCell' = true := by
  intro u hu
  obtain ⟨b, _, rfl⟩ := List.mem_map.1 hu
  rfl

theorem uv_at (l : List UInt32) {k : Nat} (h : k < l.length) : (l.map uv)[k]? = some (.int .u32 (uN (l.getD k 0))) := by
  rw [List.getElem?_map, List.getElem?_eq_getElem h, List.getD_eq_getElem?_getD, List.getElem?_eq_getElem h]
  rfl

/-- x turned right by k bits. -/
def rotr (x : UInt32) (k : Nat) : UInt32 := UInt32.ofNat (x.toNat / 2 ^ k ||| x.toNat * 2 ^ (32 - k))
def shr (x : UInt32) (k : Nat) : UInt32 := UInt32.ofNat (x.toNat / 2 ^ k)

def kList : List Nat := [
  0x428a2f98, 0x71374491, 0xb5c0fbcf, 0xe9b5dba5, 0x3956c25b, 0x59f111f1, 0x923f82a4, 0xab1c5ed5,
  0xd807aa98, 0x12835b01, 0x243185be, 0x550c7dc3, 0x72be5d74, 0x80deb1fe, 0x9bdc06a7, 0xc19bf174,
  0xe49b69c1, 0xefbe4786, 0x0fc19dc6, 0x240ca1cc, 0x2de92c6f, 0x4a7484aa, 0x5cb0a9dc, 0x76f988da,
  0x983e5152, 0xa831c66d, 0xb00327c8, 0xbf597fc7, 0xc6e00bf3, 0xd5a79147, 0x06ca6351, 0x14292967,
  0x27b70a85, 0x2e1b2138, 0x4d2c6dfc, 0x53380d13, 0x650a7354, 0x766a0abb, 0x81c2c92e, 0x92722c85,
  0xa2bfe8a1, 0xa81a664b, 0xc24b8b70, 0xc76c51a3, 0xd192e819, 0xd6990624, 0xf40e3585, 0x106aa070,
  0x19a4c116, 0x1e376c08, 0x2748774c, 0x34b0bcb5, 0x391c0cb3, 0x4ed8aa4a, 0x5b9cca4f, 0x682e6ff3,
  0x748f82ee, 0x78a5636f, 0x84c87814, 0x8cc70208, 0x90befffa, 0xa4506ceb, 0xbef9a3f7, 0xc67178f2]
/-- The constant of turn i. -/
def kc (i : Nat) : UInt32 := UInt32.ofNat (kList.getD i 0)

/-- All of them. -/
def kcL : List UInt32 := kList.map UInt32.ofNat
theorem kcL_len : kcL.length = 64 := rfl
theorem kcL_at (k : Nat) : kcL.getD k 0 = kc k := by
  unfold kcL kc
  rw [List.getD_eq_getElem?_getD, List.getD_eq_getElem?_getD, List.getElem?_map]
  cases kList[k]? <;> rfl

/-- A state. -/
structure St where
  a : UInt32
  b : UInt32
  c : UInt32
  d : UInt32
  e : UInt32
  f : UInt32
  g : UInt32
  h : UInt32

def St.v (s : St) : Value := .agg #[uv s.a, uv s.b, uv s.c, uv s.d, uv s.e, uv s.f, uv s.g, uv s.h]
/-- Its eight numbers. -/
def St.l (s : St) : List UInt32 := [s.a, s.b, s.c, s.d, s.e, s.f, s.g, s.h]
theorem St.v_l (s : St) : s.v = .agg (s.l.map uv).toArray := rfl
/-- The first list where the first k numbers of the second have been added. -/
def addK (sl tl : List UInt32) : Nat → List UInt32
  | 0 => sl
  | k + 1 => (addK sl tl k).set k ((addK sl tl k).getD k 0 + tl.getD k 0)
theorem addK_len (sl tl : List UInt32) (k : Nat) : (addK sl tl k).length = sl.length := by
  induction k with
  | zero => rfl
  | succ k ih => rw [addK, List.length_set, ih]
def st0 : St := ⟨0x6a09e667, 0xbb67ae85, 0x3c6ef372, 0xa54ff53a, 0x510e527f, 0x9b05688c, 0x1f83d9ab, 0x5be0cd19⟩

def st00 : St := ⟨0, 0, 0, 0, 0, 0, 0, 0⟩

def bs1 (e : UInt32) : UInt32 := rotr e 6 ^^^ rotr e 11 ^^^ rotr e 25
def bs0 (a : UInt32) : UInt32 := rotr a 2 ^^^ rotr a 13 ^^^ rotr a 22
def ss0 (x : UInt32) : UInt32 := rotr x 7 ^^^ rotr x 18 ^^^ shr x 3
def ss1 (y : UInt32) : UInt32 := rotr y 17 ^^^ rotr y 19 ^^^ shr y 10
def chF (e f g : UInt32) : UInt32 := (e &&& f) ^^^ ((4294967295 ^^^ e) &&& g)
def majF (a b c : UInt32) : UInt32 := (a &&& b) ^^^ (a &&& c) ^^^ (b &&& c)
/-- One turn, n the constant and the block's number together. -/
def turnT (s : St) (n : UInt32) : UInt32 := s.h + bs1 s.e + chF s.e s.f s.g + n
def turnS (s : St) (n : UInt32) : St :=
  ⟨turnT s n + (bs0 s.a + majF s.a s.b s.c), s.a, s.b, s.c, s.d + turnT s n, s.e, s.f, s.g⟩
def addS (s t : St) : St := ⟨s.a + t.a, s.b + t.b, s.c + t.c, s.d + t.d, s.e + t.e, s.f + t.f, s.g + t.g, s.h + t.h⟩

theorem addK_8 (s t : St) : addK s.l t.l 8 = (addS s t).l := rfl

theorem addS_comm (s t : St) : addS s t = addS t s := by
  unfold addS
  rw [UInt32.add_comm s.a, UInt32.add_comm s.b, UInt32.add_comm s.c, UInt32.add_comm s.d, UInt32.add_comm s.e, UInt32.add_comm s.f, UInt32.add_comm s.g, UInt32.add_comm s.h]

/-- The number of four bytes, the highest first. -/
def be4 (b : List UInt8) (i : Nat) : UInt32 :=
  UInt32.ofNat ((b.getD (4 * i) 0).toNat * 16777216 + (b.getD (4 * i + 1) 0).toNat * 65536 + (b.getD (4 * i + 2) 0).toNat * 256 + (b.getD (4 * i + 3) 0).toNat)
/-- The block's number i, from those ahead of it. -/
def wNext (w : List UInt32) (i : Nat) : UInt32 := w.getD (i - 16) 0 + ss0 (w.getD (i - 15) 0) + w.getD (i - 7) 0 + ss1 (w.getD (i - 2) 0)
/-- The table of 64 when the first i numbers stand. -/
def tab (b : List UInt8) : Nat → List UInt32
  | 0 => List.replicate 64 0
  | i + 1 => (tab b i).set i (if i < 16 then be4 b i else wNext (tab b i) i)
theorem tab_len (b : List UInt8) (i : Nat) : (tab b i).length = 64 := by
  induction i with
  | zero => rfl
  | succ i ih => rw [tab, List.length_set, ih]

/-- The state behind k turns. -/
def turns (w : List UInt32) (s : St) : Nat → St
  | 0 => s
  | k + 1 => turnS (turns w s k) (kc k + w.getD k 0)
/-- The state behind a block. -/
def blockS (s : St) (b : List UInt8) : St := addS s (turns (tab b 64) s 64)

/-- The constants lie in the first block. -/
def CK (W : World) : Prop := ∀ k, k < 64 → W.cell? ⟨0, k, none⟩ = some (.int .u32 (uN (kc k)))
theorem CK.pos {W : World} (h : CK W) : 0 < W.heap.size := World.block_lt_of_cell? W _ (h 0 (by decide))
theorem CK.below {B : Nat} {W W' : World} (h : CK W) (hb : Below B W W') (hB : 0 < B) : CK W' := fun k hk => (hb.cell (p := ⟨0, k, none⟩) hB).trans (h k hk)
theorem CK.alloc {W : World} (h : CK W) (o : Obj) : CK (W.alloc o) := fun k hk => (World.cell?_alloc_lt W o ⟨0, k, none⟩ h.pos).trans (h k hk)
theorem CK.drewN {W : World} (h : CK W) (k : Nat) : CK (W.drewN k) := h

end Go.Proofs.YtgococpbhbcpmaaGreatDoor

/-
  'make' of bytes. No program stands here.
-/
namespace Go.Proofs.YtgococpbhbcpmaaGreatDoor
open Go.RowKit
set_option linter.unusedVariables false
set_option linter.unusedSimpArgs false

/-- 'make([]byte, n, c)'. -/
theorem wpList_make_byt {P : Program} (w : World) {ops : Array Oper} {rest : List Oper} {o : Oper} {a : Act} {Q : Exit → Act → World → Prop}
    (hg : o.guard = none) (l c : Operand) (t : TypeId) (hop : o.op = Op.makeSlice t l c)
    (base : Nat) (e : TypeId) (i : TypeInfo) (h1 : P.underlying t = some (.slice e)) (h2 : P.info? e = some i) (h3 : i.zero = some (.int .u8 0)) (h4 : i.size = 1) (h5 : i.bytes = 1)
    (kl kc : IntKind) (N C : Int) (n m : Nat) (hl : a.eval l = .int kl N) (hc : a.eval c = .int kc C) (hN : N = (n : Int)) (hC : C = (m : Int)) (hnm : n ≤ m) (b2 : m ≤ 140737488355328) (b4 : base ≤ w.heap.size)
    (hK : ∀ w', w'.ownsRow base e 1 (.slice (some ⟨w.heap.size, 0, none⟩) n m) n ((List.replicate n (0 : UInt8)).map bv) → w.grownBy w' none → wpList P ops Q rest (a.put o.dst (.slice (some ⟨w.heap.size, 0, none⟩) n m)) w') :
    wpList P ops Q (o :: rest) a w := by
  refine wpList_plain hg fun K hK' => ?_
  have hr := run_make (P := P) w t e i _ h1 h2 h3 kl kc N C (by omega) (by omega) (by rw [h5]; omega) (by omega)
  subst hN; subst hC
  unfold Oper.wp
  simp only [execOp, hop, hl, hc, Sem.run_bind, hr, Result.andThen, Int.toNat_natCast, h4, Nat.mul_one]
  refine hK' _ _ (hK _ ?_ (World.grownBy_alloc w _ none))
  refine ⟨by simp, .inr ⟨w.heap.size, m, _, rfl, b4, heap_alloc_new w _, hnm, by unfold maxLen; omega, ?_, ?_⟩⟩
  · have := size_madeCells #[Value.int .u8 0] m
    simpa [Value.cells] using this
  · rw [show (Value.int IntKind.u8 0).cells = #[.int .u8 0] from rfl, toList_madeCells_one, List.take_replicate]
    simp [bv, Nat.min_eq_left hnm]

end Go.Proofs.YtgococpbhbcpmaaGreatDoor

/-
  What follows n bytes: the program's Pad and the reference's.
-/
namespace Go.Proofs.YtgococpbhbcpmaaGreatDoor
open Go.RowKit
set_option linter.unusedVariables false
set_option linter.unusedSimpArgs false

def padZ (n : Nat) : Nat := (119 - n % 64) % 64
/-- Eight bytes, the highest first. -/
def be8 (x : Nat) : List UInt8 := (le 8 x).reverse
def padL (n : Nat) : List UInt8 := (128 :: List.replicate (padZ n) 0) ++ be8 (n * 8)
theorem padZ_lt (n : Nat) : padZ n < 64 := Nat.mod_lt _ (by decide)
theorem be8_len (x : Nat) : (be8 x).length = 8 := by unfold be8; rw [List.length_reverse, le_len]
theorem padL_len (n : Nat) : (padL n).length = 9 + padZ n := by
  unfold padL
  rw [List.length_append, List.length_cons, List.length_replicate, be8_len]; omega
theorem padL_whole (n : Nat) : (n + (padL n).length) % 64 = 0 := by
  rw [padL_len]; unfold padZ; omega
theorem be8_take (x k : Nat) (hk : k < 8) : (be8 x).take (k + 1) = (be8 x).take k ++ [UInt8.ofNat (x / 256 ^ (7 - k))] := by
  rw [List.take_add_one]
  congr 1
  unfold be8
  rw [List.getElem?_reverse (by rw [le_len]; omega), le_len, show 8 - 1 - k = 7 - k by omega]
  generalize hq : 7 - k = q
  have hq8 : q < 8 := by omega
  have h : ∀ (m x q : Nat), q < m → (le m x)[q]? = some (UInt8.ofNat (x / 256 ^ q)) := by
    intro m
    induction m with
    | zero => intro x q h; omega
    | succ m ih =>
      intro x q h
      cases q with
      | zero => simp [le]
      | succ q =>
        rw [le, List.getElem?_cons_succ, ih _ _ (by omega), Nat.pow_succ, Nat.mul_comm, Nat.div_div_eq_div_mul]
  rw [h 8 x q hq8]; rfl

def lenOf : Value → Nat
  | .slice _ n _ => n
  | _ => 0

end Go.Proofs.YtgococpbhbcpmaaGreatDoor

/-
  Walks over package sha and its reference: turning a number, one turn.
-/
namespace Go.Proofs.YtgococpbhbcpmaaGreatDoor
open Go.RowKit
set_option linter.unusedVariables false
set_option linter.unusedSimpArgs false

theorem rotr_or (x : UInt32) (k : Nat) : (rotr x k).toNat = x.toNat / 2 ^ k ||| x.toNat * 2 ^ (32 - k) % 4294967296 := by
  have hx := x.toNat_lt
  have h1 : x.toNat / 2 ^ k % 4294967296 = x.toNat / 2 ^ k := Nat.mod_eq_of_lt (Nat.lt_of_le_of_lt (Nat.div_le_self _ _) hx)
  unfold rotr
  rw [UInt32.toNat_ofNat', show (2 : Nat) ^ 32 = 4294967296 from rfl, show (4294967296 : Nat) = 2 ^ 32 from rfl, Nat.or_mod_two_pow, show (2 : Nat) ^ 32 = 4294967296 from rfl, h1]

theorem neg_and (k : Nat) (hk : 0 < k ∧ k < 32) : bits .and .u64 (IntKind.u64.wrap (-((k : Nat) : Int))) 31 = ((32 - k : Nat) : Int) := by
  have h1 : IntKind.u64.wrap (-((k : Nat) : Int)) = ((18446744073709551616 - k : Nat) : Int) := by
    simp only [IntKind.wrap, IntKind.bits, IntKind.signed]
    simp
    omega
  rw [h1]
  have h2 := u64_and_nat (18446744073709551616 - k) 31 (by omega) (by decide)
  rw [show (31 : Int) = ((31 : Nat) : Int) from rfl, h2, show (31 : Nat) = 2 ^ 5 - 1 from rfl, Nat.and_two_pow_sub_one_eq_mod]
  congr 1
  omega

theorem rot_bits (x : UInt32) (k : Nat) : bits .or .u32 (((x.toNat : Nat) : Int) / 2 ^ k) (((x.toNat : Nat) : Int) * 2 ^ (32 - k) % 4294967296) = (((rotr x k).toNat : Nat) : Int) := by
  have hx := x.toNat_lt
  have h1 : x.toNat / 2 ^ k < 4294967296 := Nat.lt_of_le_of_lt (Nat.div_le_self _ _) hx
  rw [rotr_or]
  have := u32_or_nat (x.toNat / 2 ^ k) (x.toNat * 2 ^ (32 - k) % 4294967296) h1 (Nat.mod_lt _ (by decide))
  rw [← this]
  simp
theorem rot_bits2 (x : UInt32) (k : Nat) : bits .or .u32 (((x.toNat : Nat) : Int) * 2 ^ (32 - k) % 4294967296) (((x.toNat : Nat) : Int) / 2 ^ k) = (((rotr x k).toNat : Nat) : Int) := by
  have hx := x.toNat_lt
  have h1 : x.toNat / 2 ^ k < 4294967296 := Nat.lt_of_le_of_lt (Nat.div_le_self _ _) hx
  rw [rotr_or, Nat.or_comm]
  have := u32_or_nat (x.toNat * 2 ^ (32 - k) % 4294967296) (x.toNat / 2 ^ k) (Nat.mod_lt _ (by decide)) h1
  rw [← this]
  simp

theorem u_notaux (s : Nat) (hs : s < 4294967296) : (4294967295 : Int) - ((s : Nat) : Int) = bits .xor .u32 IntKind.u32.max ((s : Nat) : Int) := by
  have h := u32_xor_nat 4294967295 s (by decide) hs
  have h2 : (4294967295 : Nat) ^^^ s = 4294967295 - s := by
    have := Nat.xor_comm 4294967295 s
    apply Nat.eq_of_testBit_eq
    intro i
    rw [Nat.testBit_xor, show (4294967295 : Nat) = 2 ^ 32 - 1 from rfl, Nat.testBit_two_pow_sub_one, show 2 ^ 32 - 1 - s = 2 ^ 32 - (s + 1) by omega, Nat.testBit_two_pow_sub_succ (by omega)]
    by_cases hi : i < 32
    · simp [hi]
    · have : s.testBit i = false := Nat.testBit_lt_two_pow (Nat.lt_of_lt_of_le hs (by rw [show (4294967296 : Nat) = 2 ^ 32 from rfl]; exact Nat.pow_le_pow_right (by decide) (by omega)))
      simp [hi, this]
  show _ = bits .xor .u32 ((4294967295 : Nat) : Int) _
  rw [h, h2]
  omega

section
variable (x y : UInt32)
theorem u_addm : (uN x + uN y) % 4294967296 = uN (x + y) := by
  unfold uN; rw [UInt32.toNat_add]; simp
theorem u_addw : IntKind.u32.wrap (uN x + uN y) = uN (x + y) := by
  rw [IntKind.wrap_u32', u_addm]
theorem u_add3 (z : UInt32) : (uN x + uN y + uN z) % 4294967296 = uN (x + y + z) := by
  unfold uN; rw [UInt32.toNat_add, UInt32.toNat_add]; omega
theorem u_add4 (z t : UInt32) : (uN x + uN y + uN z + uN t) % 4294967296 = uN (x + y + z + t) := by
  unfold uN; rw [UInt32.toNat_add, UInt32.toNat_add, UInt32.toNat_add]; omega
theorem u_add5 (z t u : UInt32) : (uN x + uN y + uN z + uN t + uN u) % 4294967296 = uN (x + y + z + t + u) := by
  unfold uN; rw [UInt32.toNat_add, UInt32.toNat_add, UInt32.toNat_add, UInt32.toNat_add]; omega
theorem u_add13 (z t : UInt32) : (uN x + (uN y + uN z + uN t)) % 4294967296 = uN (x + (y + z + t)) := by
  unfold uN; rw [UInt32.toNat_add, UInt32.toNat_add, UInt32.toNat_add]; omega
theorem u_add12 (z : UInt32) : (uN x + (uN y + uN z)) % 4294967296 = uN (x + (y + z)) := by
  unfold uN; rw [UInt32.toNat_add, UInt32.toNat_add]; omega
theorem u_xor : bits .xor .u32 (uN x) (uN y) = uN (x ^^^ y) := by
  unfold uN; rw [UInt32.toNat_xor]; exact u32_xor_nat _ _ x.toNat_lt y.toNat_lt
theorem u_and : bits .and .u32 (uN x) (uN y) = uN (x &&& y) := by
  unfold uN; rw [UInt32.toNat_and]; exact u32_and_nat _ _ x.toNat_lt y.toNat_lt
theorem u_or : bits .or .u32 (uN x) (uN y) = uN (x ||| y) := by
  unfold uN; rw [UInt32.toNat_or]; exact u32_or_nat _ _ x.toNat_lt y.toNat_lt
theorem u_not : bits .xor .u32 IntKind.u32.max (uN y) = uN (4294967295 ^^^ y) := by
  unfold uN; rw [UInt32.toNat_xor]; exact u32_xor_nat 4294967295 _ (by decide) y.toNat_lt
theorem u_not2 : 4294967295 - uN y = uN (4294967295 ^^^ y) := by
  rw [← u_not y]
  exact u_notaux y.toNat y.toNat_lt
theorem u_not3 : (4294967295 - uN y) % 4294967296 = uN (4294967295 ^^^ y) := by
  rw [u_not2]
  exact Int.emod_eq_of_lt (uN_lo _) (uN_hi _)
theorem u_not4 : IntKind.u32.wrap (4294967295 - uN y) = uN (4294967295 ^^^ y) := by
  rw [IntKind.wrap_u32', u_not3]
theorem u_shr (k : Nat) : uN x / 2 ^ k = uN (shr x k) := by
  have hx := x.toNat_lt
  unfold uN shr
  rw [UInt32.toNat_ofNat', Nat.mod_eq_of_lt (Nat.lt_of_le_of_lt (Nat.div_le_self _ _) hx)]
  simp
theorem u_shr3 : uN x / 8 = uN (shr x 3) := u_shr x 3
theorem u_shr10 : uN x / 1024 = uN (shr x 10) := u_shr x 10
end

attribute [local go_sem] u_addm u_addw u_add3 u_add4 u_add5 u_add12 u_add13 u_xor u_and u_or u_not u_not2 u_not3 u_not4 u_shr3 u_shr10

end Go.Proofs.YtgococpbhbcpmaaGreatDoor

/-
  Walks over package sha: a block's 64 numbers.
-/
namespace Go.Proofs.YtgococpbhbcpmaaGreatDoor
open Go.RowKit
set_option linter.unusedVariables false
set_option linter.unusedSimpArgs false

attribute [local go_sem] u_addm u_addw u_add3 u_add4 u_add5 u_add12 u_add13 u_xor u_and u_or u_not u_not2 u_not3 u_not4 u_shr3 u_shr10

theorem word_at {w : World} {g : Nat} {t : TypeId} {l : List UInt32} (h : Blk w g t (l.map uv)) {i : Nat} (hi : i < l.length) : w.cell? ⟨g, i, none⟩ = some (.int .u32 (uN (l.getD i 0))) := by
  rw [h.cell, List.getElem?_map, List.getElem?_eq_getElem hi, List.getD_eq_getElem?_getD, List.getElem?_eq_getElem hi]
  rfl
theorem slice_block (g k m : Nat) (hm : 4 * k + m = 64) (h4 : 4 ≤ m) (w : World) :
    (Instr.sliceAt 161 (.pointer (some ⟨g, 0, none⟩)) (some (.int .i64 (4 * ((k : Nat) : Int)))) none none).run Tryz.prog w = .ok (.slice (some ⟨g, 4 * k, none⟩) m m) w := by
  have hl : Tryz.prog.arrayLen 161 = 64 := by kernel_rfl
  have he : Tryz.prog.elem 161 = 5 := by kernel_rfl
  rw [run_sliceAt_array_l w 161 ⟨g, 0, none⟩ (by rw [hl, he]; exact Tryz.underlying161) .i64 _ (by omega) (by rw [hl]; omega)]
  rw [hl, he]
  have hs : (sizeOf 5).run Tryz.prog w = .ok 1 w := by kernel_rfl
  rw [hs]
  show Result.ok _ w = _
  unfold slicedAt
  rw [show (4 * ((k : Nat) : Int)).toNat = 4 * k by omega, if_neg (by omega), show 64 - 4 * k = m by omega, Nat.mul_one, Addr.add_lit, Nat.zero_add]

/-- A region that draws, whose first n operations read: the tail behind it in the world that has drawn. -/
theorem still_tail {P : Program} {id : Nat} {Q : Exit → Act → World → Prop} {a : Act} {w : World} {l : List Oper} (n : Nat) (hm : P.follows .mixedOrders = true) (hB : Region.lexTailB .any l.toArray n = true)
    (h : wpStill P l.toArray w.drew (fun a' => wpList P l.toArray Q (l.drop n) a' w.drew) (l.take n) a) : (Code.region id l.toArray true).wp P Q a w :=
  wp_region_still_tail n hm hB h

theorem be_bits (x0 x1 x2 x3 : UInt8) :
    bits .or .u32 (bits .or .u32 (bits .or .u32 (((x0.toNat : Nat) : Int) * 16777216) (((x1.toNat : Nat) : Int) * 65536)) (((x2.toNat : Nat) : Int) * 256)) ((x3.toNat : Nat) : Int) =
    uN (UInt32.ofNat (x0.toNat * 16777216 + x1.toNat * 65536 + x2.toNat * 256 + x3.toNat)) := by
  have h0 := x0.toNat_lt
  have h1 := x1.toNat_lt
  have h2 := x2.toNat_lt
  have h3 := x3.toNat_lt
  generalize x0.toNat = a at *
  generalize x1.toNat = b at *
  generalize x2.toNat = c at *
  generalize x3.toNat = d at *
  have e1 : bits .or .u32 ((a : Int) * 16777216) ((b : Int) * 65536) = ((a * 16777216 + b * 65536 : Nat) : Int) := by
    have := u32_or_nat (a * 16777216) (b * 65536) (by omega) (by omega)
    rw [show a * 16777216 = 2 ^ 24 * a by omega, ← Nat.two_pow_add_eq_or_of_lt (by omega), show 2 ^ 24 * a = a * 16777216 by omega] at this
    rw [← this]; rfl
  rw [e1]
  have e2 : bits .or .u32 ((a * 16777216 + b * 65536 : Nat) : Int) ((c : Int) * 256) = ((a * 16777216 + b * 65536 + c * 256 : Nat) : Int) := by
    have := u32_or_nat (a * 16777216 + b * 65536) (c * 256) (by omega) (by omega)
    rw [show a * 16777216 + b * 65536 = 2 ^ 16 * (a * 256 + b) by omega, ← Nat.two_pow_add_eq_or_of_lt (by omega), show 2 ^ 16 * (a * 256 + b) = a * 16777216 + b * 65536 by omega] at this
    rw [← this]; rfl
  rw [e2]
  have e3 : bits .or .u32 ((a * 16777216 + b * 65536 + c * 256 : Nat) : Int) (d : Int) = ((a * 16777216 + b * 65536 + c * 256 + d : Nat) : Int) := by
    have := u32_or_nat (a * 16777216 + b * 65536 + c * 256) d (by omega) (by omega)
    rw [show a * 16777216 + b * 65536 + c * 256 = 2 ^ 8 * (a * 65536 + b * 256 + c) by omega, ← Nat.two_pow_add_eq_or_of_lt (by omega), show 2 ^ 8 * (a * 65536 + b * 256 + c) = a * 16777216 + b * 65536 + c * 256 by omega] at this
    rw [← this]
  rw [e3]
  unfold uN
  rw [UInt32.toNat_ofNat', Nat.mod_eq_of_lt (by omega)]

end Go.Proofs.YtgococpbhbcpmaaGreatDoor

/-
  A digest's bytes; slices.Grow and slices.Concat, where Sum calls them.
-/
namespace Go.Proofs.YtgococpbhbcpmaaGreatDoor
open Go.RowKit
set_option linter.unusedVariables false
set_option linter.unusedSimpArgs false

/-- A number's four bytes, the highest first. -/
def wb (x : UInt32) : List UInt8 := [UInt8.ofNat (x.toNat / 16777216), UInt8.ofNat (x.toNat / 65536), UInt8.ofNat (x.toNat / 256), UInt8.ofNat x.toNat]
/-- The digest of a state. -/
def digL (l : List UInt32) : List UInt8 := l.flatMap wb
def digK (l : List UInt32) : Nat → List UInt8
  | 0 => List.replicate 32 0
  | k + 1 => ((((digK l k).set (4 * k) (UInt8.ofNat ((l.getD k 0).toNat / 16777216))).set (4 * k + 1) (UInt8.ofNat ((l.getD k 0).toNat / 65536))).set (4 * k + 2) (UInt8.ofNat ((l.getD k 0).toNat / 256))).set (4 * k + 3) (UInt8.ofNat (l.getD k 0).toNat)
theorem digK_len (l : List UInt32) (k : Nat) : (digK l k).length = 32 := by
  induction k with
  | zero => rfl
  | succ k ih => rw [digK, List.length_set, List.length_set, List.length_set, List.length_set, ih]
theorem digK_8 (s : St) : digK s.l 8 = digL s.l := by
  obtain ⟨a, b, c, d, e, f, g, h⟩ := s
  unfold digL
  simp only [digK, St.l, List.getD_cons_zero, List.getD_cons_succ, List.flatMap_cons, List.flatMap_nil, wb, List.replicate, List.set_cons_succ, List.set_cons_zero, Nat.reduceMul, Nat.reduceAdd, Nat.mul_zero, Nat.zero_add, List.cons_append, List.nil_append]
theorem digL_len (s : St) : (digL s.l).length = 32 := rfl

theorem by_3 (x : UInt32) : uN x / 16777216 % 256 = (((UInt8.ofNat (x.toNat / 16777216)).toNat : Nat) : Int) := by unfold uN; rw [ofNat_mod]; simp
theorem by_2 (x : UInt32) : uN x / 65536 % 256 = (((UInt8.ofNat (x.toNat / 65536)).toNat : Nat) : Int) := by unfold uN; rw [ofNat_mod]; simp
theorem by_1 (x : UInt32) : uN x / 256 % 256 = (((UInt8.ofNat (x.toNat / 256)).toNat : Nat) : Int) := by unfold uN; rw [ofNat_mod]; simp
theorem by_0 (x : UInt32) : uN x % 256 = (((UInt8.ofNat x.toNat).toNat : Nat) : Int) := by unfold uN; rw [ofNat_mod]; simp

set_option maxRecDepth 10000 in
set_option maxHeartbeats 1000000 in
/-- Grow of the nil slice by n > 0. -/
theorem grow_any (n : Nat) (h0 : 0 < n) (hn : n ≤ 140737488355328) (W : World) :
    Calls Tryz.prog 66 #[.slice none 0 0, .int .i64 ((n : Nat) : Int)] W fun e W' => ∃ v, e = .returned v ∧
      W'.ownsRow W.heap.size 5 1 v 0 [] ∧ Below W.heap.size W W' := by
  obtain ⟨i0, hi, hz0, hz1, hz2⟩ := info_parts Tryz.info5
  go_enter Tryz.func66, Tryz.ntmps66
  go_wp2_with (at_builtin; refine Lib.wpList_append_run _ rfl _ _ 26 3 rfl (.slice none 0 0) (.int .i64 n) rfl rfl _ _ (Lib.run_append_nil_zeros _ 26 3 _ 5 i0 (.int .u8 0) .i64 .i64 Tryz.underlying26 Tryz.underlying3 hi hz0 n h0 (by rw [hz1]; decide) (by omega) (by rw [hz2]; omega)) ?_)
  go_ret
  refine ⟨_, rfl, ⟨rfl, .inr ⟨W.heap.size, grownCap W n 0 5, _, rfl, Nat.le_refl _, heap_alloc_new W _, Nat.zero_le _, grownCap_le_maxLen _ _ _ _ (by unfold maxLen; omega), ?_, by simp⟩⟩, ?_⟩
  · have := grownCap_ge W n 0 5
    rw [Array.size_append, size_zeroCells, size_zeroCells]
    simp
    omega
  · exact below_drew ((Below.refl _ _).alloc (Nat.le_refl _) _)

/-- The bytes of the first k of two. -/
def twoL (l1 l2 : List UInt8) (k : Nat) : List UInt8 := if k = 0 then [] else if k = 1 then l1 else l1 ++ l2
def twoN (n1 n2 k : Nat) : Nat := if k = 0 then 0 else if k = 1 then n1 else n1 + n2

set_option maxRecDepth 10000 in
set_option maxHeartbeats 2000000 in
/-- Concat of two slices of bytes that lie in a slice of two. -/
theorem concat_any (A1 : Option Addr) (n1 c1 : Nat) (l1 : List UInt8) (A2 : Option Addr) (n2 c2 : Nat) (l2 : List UInt8) (g B : Nat) (W : World)
    (h1 : Byt W B A1 n1 l1) (hn1 : A1 = none → c1 = 0) (h2 : Byt W B A2 n2 l2) (hn2 : A2 = none → c2 = 0) (hB : B ≤ W.heap.size) (hb1 : n1 ≤ 70368744177664) (hb2 : n2 ≤ 70368744177664) (h0 : 0 < n1 + n2)
    (hc0 : W.cell? ⟨g, 0, none⟩ = some (.slice A1 n1 c1)) (hc1 : W.cell? ⟨g, 1, none⟩ = some (.slice A2 n2 c2)) :
    Calls Tryz.prog 36 #[.slice (some ⟨g, 0, none⟩) 2 2] W fun e W' => ∃ v, e = .returned v ∧
      W'.ownsRow W.heap.size 5 1 v (n1 + n2) ((l1 ++ l2).map bv) ∧ Below W.heap.size W W' := by
  obtain ⟨i0, hi, hz0, hz1, hz2⟩ := info_parts Tryz.info5
  have hgl := World.block_lt_of_cell? W _ hc0
  go_enter Tryz.func36, Tryz.ntmps36
  go_wp2_with fail
  go_loopw [3, 5, 11] (fun sz _ i wr => wr = W ∧ ∃ k m : Nat, k ≤ 2 ∧ i = .int .i64 k ∧ sz = .int .i64 m ∧ m = twoN n1 n2 k)
    (fun _ _ i _ => 2 - (intOf i).toNat)
  case atStart => exact ⟨rfl, 0, 0, by omega, rfl, rfl, rfl⟩
  case round =>
    obtain ⟨rfl, k, m, hk, rfl, rfl, hm⟩ := hrel
    by_cases hk0 : k = 0
    · subst hk0
      obtain rfl : m = 0 := hm
      go_wp2
      go_roundw
      case rel => exact ⟨trivial, 1, n1, by omega, by go_num, by go_num, rfl⟩
      case measure => simp [intOf]
    · by_cases hk1 : k = 1
      · subst hk1
        obtain rfl : m = n1 := hm
        go_wp2
        go_roundw
        case rel => exact ⟨trivial, 2, m + n2, by omega, by go_num, by go_num, rfl⟩
        case measure => simp [intOf]
      · have hk2 : ¬ ((k : Int) < 2) := by omega
        have hmm : m = n1 + n2 := by rw [hm]; unfold twoN; rw [if_neg hk0, if_neg hk1]
        have hm0 : 0 < m := by omega
        have hm47 : m ≤ 140737488355328 := by omega
        have HM := Lib.hid hmm
        clear hk hk0 hk1 hm hmm
        go_wp2_with (go_at_call 66; refine (grow_any m hm0 hm47 _).mono ?_; rintro e w1 ⟨v, rfl, hown, hbel⟩)
        obtain ⟨w0, rfl⟩ : ∃ w0, w0 = wr := ⟨_, rfl⟩
        clear hk2
        go_loopw [6, 8, 27] (fun v _ i wx => ∃ j : Nat, j ≤ 2 ∧ i = .int .i64 j ∧ wx.ownsRow w0.heap.size 5 1 v (twoN n1 n2 j) ((twoL l1 l2 j).map bv) ∧ Below w0.heap.size w0 wx)
          (fun _ _ i _ => 2 - (intOf i).toNat)
        case atStart => exact ⟨0, by omega, rfl, hown, hbel⟩
        case round =>
          obtain ⟨j, hj, rfl, hown2, hb2⟩ := hrel
          have hs2 := hb2.size
          have d0 := (hb2.cell (p := ⟨g, 0, none⟩) hgl).trans hc0
          have d1 := (hb2.cell (p := ⟨g, 1, none⟩) hgl).trans hc1
          have e1 := h1.below (hb2.mono hB)
          have e2 := h2.below (hb2.mono hB)
          clear hown hbel
          by_cases hj0 : j = 0
          · subst hj0
            go_wp2_with (at_builtin; refine wpList_append_byt _ rfl _ _ 26 rfl w0.heap.size 5 i0 (.int .u8 0) Tryz.underlying26 hi hz0 hz1 hz2 rfl _ _ _ rfl hown2 B A1 n1 c1 l1 rfl e1 hn1 ?x3 ?x4 ?_)
            case x3 => show 0 + n1 ≤ _; omega
            case x4 => omega
            intro v' w3 hown' hgrow
            have hb' := hb2.grown hgrow hs2 (fun j hj => (hown2.lt j hj).1)
            have HO := Lib.hid hown'
            clear hown' hown2 hgrow
            go_wp2
            go_roundw
            case rel => exact ⟨1, by omega, by go_num, by have := HO.out; simpa [twoN, twoL] using this, hb'⟩
            case measure => simp [intOf]
          · by_cases hj1 : j = 1
            · subst hj1
              go_wp2_with (at_builtin; refine wpList_append_byt _ rfl _ _ 26 rfl w0.heap.size 5 i0 (.int .u8 0) Tryz.underlying26 hi hz0 hz1 hz2 rfl _ _ _ rfl hown2 B A2 n2 c2 l2 rfl e2 hn2 ?y3 ?y4 ?_)
              case y3 => unfold twoN; simp; omega
              case y4 => omega
              intro v' w3 hown' hgrow
              have hb' := hb2.grown hgrow hs2 (fun j hj => (hown2.lt j hj).1)
              have HO := Lib.hid hown'
              clear hown' hown2 hgrow
              go_wp2
              go_roundw
              case rel => exact ⟨2, by omega, by go_num, by have := HO.out; simpa [twoN, twoL] using this, hb'⟩
              case measure => simp [intOf]
            · have hj2 : ¬ ((j : Int) < 2) := by omega
              have HJ := Lib.hid (show j = 2 by omega)
              have HO := Lib.hid hown2
              clear hj hj0 hj1 hown2
              go_wp2_with fail
              go_ret
              refine ⟨_, rfl, ?_, hb2⟩
              have := HO.out
              rw [HJ.out] at this
              simpa [twoN, twoL] using this

end Go.Proofs.YtgococpbhbcpmaaGreatDoor
