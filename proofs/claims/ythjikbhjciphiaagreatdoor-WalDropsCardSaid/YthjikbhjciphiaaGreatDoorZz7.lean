/-
  A block known whole: its cells, loads and stores of whole arrays, results that lie in a cell. No program stands here.
-/
import Derived.Test.YthjikbhjciphiaaGreatDoorZz2
import Derived.Laws.Rows
import Derived.Laws.Tables
import Derived.Laws.ResultCell
import Derived.Test.YthjikbhjciphiaaGreatDoorZz3
import Derived.IntWalk
import Derived.Laws.Concat
import Derived.Laws.DeepStrings4
import Derived.BigCall
import Derived.BigGuard
import Derived.Lib.OthersKept
import Derived.Laws.RangeString
import Derived.Laws.RangeAny
import Derived.Deep.MidRow
import Derived.Laws.MakeOwn
namespace Go.Proofs.YthjikbhjciphiaaGreatDoor
open Go.RowKit
set_option linter.unusedVariables false
set_option linter.unusedSimpArgs false

/-- Block g holds exactly these cells, and may be written. -/
def Blk (w : World) (g : Nat) (t : TypeId) (cs : List Value) : Prop := w.heap[g]? = some (.cells cs.toArray t (0, 0))

section
variable {w w' : World} {g : Nat} {t : TypeId} {cs : List Value}
theorem Blk.cell (h : Blk w g t cs) (i : Nat) : w.cell? ⟨g, i, none⟩ = cs[i]? := by
  rw [cell_of_row w g i _ t (0, 0) h]; simp
theorem Blk.frozen (h : Blk w g t cs) (i : Nat) : w.frozen? ⟨g, i, none⟩ = false := frozen_of_row w g i _ t h
theorem Blk.lt (h : Blk w g t cs) : g < w.heap.size := (Array.getElem?_eq_some_iff.1 h).1
theorem Blk.below {B : Nat} (h : Blk w g t cs) (hb : Below B w w') (hg : g < B) : Blk w' g t cs := (hb.block g hg).trans h
theorem Blk.drew (h : Blk w g t cs) : Blk w.drew g t cs := h
theorem Blk.drewN (h : Blk w g t cs) (k : Nat) : Blk (w.drewN k) g t cs := h
theorem Blk.alloc (h : Blk w g t cs) (o : Obj) : Blk (w.alloc o) g t cs := (heap_alloc_old w o h.lt).trans h
theorem Blk.new (w : World) (t : TypeId) (C : Array Value) (hC : C = cs.toArray) : Blk (w.alloc (.cells C t)) w.heap.size t cs := by
  subst hC; exact heap_alloc_new w _
theorem Blk.set (h : Blk w g t cs) (i : Nat) (v : Value) : Blk (w.setCell ⟨g, i, none⟩ v) g t (cs.set i v) := by
  have := heap_setCell_same w g i _ t v h
  unfold Blk
  rw [this]; simp
theorem Blk.other (h : Blk w g t cs) (a : Addr) (v : Value) (hg : g ≠ a.block) : Blk (w.setCell a v) g t cs := (heap_setCell_other w a g v hg).trans h
theorem setCell_row (h : Blk w g t cs) (i : Nat) (v : Value) : w.setCell ⟨g, i, none⟩ v = w.setRow g (cs.set i v).toArray := by
  rw [setCell_eq_setRow w g i _ t (0, 0) v h]; simp
theorem Blk.row (h : Blk w g t cs) (ds : List Value) : Blk (w.setRow g ds.toArray) g t ds := setRow_heap w g cs.toArray ds.toArray t _ h
theorem Blk.row_other (h : Blk w g t cs) (k : Nat) (C : Array Value) (hk : g ≠ k) : Blk (w.setRow k C) g t cs := by
  unfold Blk World.setRow
  show (w.heap.modify k _)[g]? = _
  rw [Array.getElem?_modify, if_neg (fun e => hk e.symm)]
  exact h
end

theorem below_row {B : Nat} {a w : World} (h : Below B a w) {g : Nat} (hg : B ≤ g) (C : Array Value) : Below B a (w.setRow g C) :=
  h.trans ⟨rfl, rfl, rfl, by simp [World.setRow], fun k hk => by
    show (w.heap.modify g _)[k]? = _
    rw [Array.getElem?_modify, if_neg (by omega)]⟩

theorem Blk.byte {w : World} {g : Nat} {t : TypeId} {b : List UInt8} (h : Blk w g t (b.map bv)) {i : Nat} (hi : i < b.length) : w.cell? ⟨g, i, none⟩ = some (.int .u8 (((b.getD i 0).toNat : Nat) : Int)) := by
  rw [h.cell, List.getElem?_map, List.getElem?_eq_getElem hi, List.getD_eq_getElem?_getD, List.getElem?_eq_getElem hi]
  rfl

/-- A result that is an array in a cell. -/
theorem ret_cell {P : Program} {fn : Func} {R : Ending → World → Prop} {a : Act} {w : World} {p : Tmp} {ty : TypeId} (h : fn.results = #[.cell p ty]) (g : Nat) (t : TypeId) (cs : List Value)
    (hp : a.tmps.getD p undef = .pointer (some ⟨g, 0, none⟩)) (hg : Blk w g t cs) (n : Nat) (e : TypeId)
    (hu : P.underlying ty = some (.array n e)) (hi : (P.info? ty).map (·.size) = some cs.length) (hd : a.defers = []) (hR : R (.returned (.agg cs.toArray)) w) : bodyPost P fn R .ret a w :=
  bodyPost_ret (results_cell_row h _ w g t cs.toArray (0, 0) _ hp hg hu rfl (by simpa using hi)) hd hR

/-- A whole array out of its block; into its block. -/
theorem ld_blk {P : Program} {ops : Array Oper} {rest : List Oper} {o : Oper} {a : Act} {w : World} {Q : Exit → Act → World → Prop} (hgd : o.guard = none) (ty : TypeId) (x : Operand) (ho : o.op = .load ty x)
    (g : Nat) (hx : a.eval x = .pointer (some ⟨g, 0, none⟩)) (t : TypeId) (cs : List Value) (hb : Blk w g t cs) (n : Nat) (e : TypeId)
    (hu : P.underlying ty = some (.array n e)) (hi : (P.info? ty).map (·.size) = some cs.length)
    (h : wpList P ops Q rest (a.put o.dst (.agg cs.toArray)) w) : wpList P ops Q (o :: rest) a w :=
  wpList_load_row hgd ty x ho g hx t cs.toArray (0, 0) _ hb hu rfl (by simpa using hi) h
theorem st_blk {P : Program} {ops : Array Oper} {rest : List Oper} {o : Oper} {a : Act} {w : World} {Q : Exit → Act → World → Prop} (hgd : o.guard = none) (ty : TypeId) (x y : Operand) (ho : o.op = .store ty x y)
    (g : Nat) (ds : List Value) (hx : a.eval x = .pointer (some ⟨g, 0, none⟩)) (hy : a.eval y = .agg ds.toArray)
    (t : TypeId) (cs : List Value) (hb : Blk w g t cs) (hi : (P.info? ty).map (·.size) = some ds.length) (hl : cs.length = ds.length) (h1 : ∀ v ∈ ds, v.oneCell' = true)
    (h : wpList P ops Q rest (a.put o.dst undef) (w.setRow g ds.toArray)) : wpList P ops Q (o :: rest) a w :=
  wpList_store_row hgd ty x y ho g ds.toArray hx hy t cs.toArray hb (by simpa using hi) (by simpa using hl) (Array.all_eq_true_iff_forall_mem.2 fun v hv => h1 v (by simpa using hv)) h

/-- An element of an array value whose elements take one cell. -/
theorem index_agg {P : Program} (w : World) (t e : TypeId) (n : Nat) (cs : List Value) (hu : P.underlying t = some (.array n e)) (ha : (isAgg e).run P w = .ok false w) (hz : (sizeOf e).run P w = .ok 1 w)
    (k : Nat) (kk : IntKind) (hk : k < n) (v : Value) (hv : cs[k]? = some v) :
    (Instr.index t (.agg cs.toArray) (.int kk ((k : Nat) : Int))).run P w = .ok v w := by
  unfold Instr.index
  simp only [asIntOf, Sem.run_bind, Sem.run_pure, Result.andThen_ok, run_underlying hu]
  rw [if_pos ⟨by omega, by omega⟩]
  simp only [Sem.run_bind, hz, Result.andThen_ok, part, ha, Int.toNat_natCast, Nat.mul_one]
  simp [hv]

/-- Eight stores in a row. -/
theorem blk8 {w : World} {g : Nat} {t : TypeId} {B : Nat} {w0 : World} {cs : List Value} (h : Blk w g t cs) (hl : cs.length = 8) (hb : Below B w0 w) (hg : B ≤ g) (v0 v1 v2 v3 v4 v5 v6 v7 : Value) :
    Blk ((((((((w.setCell ⟨g, 0, none⟩ v0).setCell ⟨g, 1, none⟩ v1).setCell ⟨g, 2, none⟩ v2).setCell ⟨g, 3, none⟩ v3).setCell ⟨g, 4, none⟩ v4).setCell ⟨g, 5, none⟩ v5).setCell ⟨g, 6, none⟩ v6).setCell ⟨g, 7, none⟩ v7) g t [v0, v1, v2, v3, v4, v5, v6, v7] ∧
    Below B w0 ((((((((w.setCell ⟨g, 0, none⟩ v0).setCell ⟨g, 1, none⟩ v1).setCell ⟨g, 2, none⟩ v2).setCell ⟨g, 3, none⟩ v3).setCell ⟨g, 4, none⟩ v4).setCell ⟨g, 5, none⟩ v5).setCell ⟨g, 6, none⟩ v6).setCell ⟨g, 7, none⟩ v7) := by
  refine ⟨?_, ?_⟩
  · have := (((((((h.set 0 v0).set 1 v1).set 2 v2).set 3 v3).set 4 v4).set 5 v5).set 6 v6).set 7 v7
    match cs, hl with
    | [c0, c1, c2, c3, c4, c5, c6, c7], _ => exact this
  · exact (((((((hb.setCell (p := ⟨g, 0, none⟩) hg _).setCell (p := ⟨g, 1, none⟩) hg _).setCell (p := ⟨g, 2, none⟩) hg _).setCell (p := ⟨g, 3, none⟩) hg _).setCell (p := ⟨g, 4, none⟩) hg _).setCell (p := ⟨g, 5, none⟩) hg _).setCell (p := ⟨g, 6, none⟩) hg _).setCell (p := ⟨g, 7, none⟩) hg _

/-- Eight stores into another block. -/
theorem keep8 {w : World} {g k : Nat} {t : TypeId} {cs : List Value} (h : Blk w k t cs) (hk : k ≠ g) (v0 v1 v2 v3 v4 v5 v6 v7 : Value) :
    Blk ((((((((w.setCell ⟨g, 0, none⟩ v0).setCell ⟨g, 1, none⟩ v1).setCell ⟨g, 2, none⟩ v2).setCell ⟨g, 3, none⟩ v3).setCell ⟨g, 4, none⟩ v4).setCell ⟨g, 5, none⟩ v5).setCell ⟨g, 6, none⟩ v6).setCell ⟨g, 7, none⟩ v7) k t cs :=
  (((((((h.other ⟨g, 0, none⟩ v0 hk).other ⟨g, 1, none⟩ v1 hk).other ⟨g, 2, none⟩ v2 hk).other ⟨g, 3, none⟩ v3 hk).other ⟨g, 4, none⟩ v4 hk).other ⟨g, 5, none⟩ v5 hk).other ⟨g, 6, none⟩ v6 hk).other ⟨g, 7, none⟩ v7 hk

end Go.Proofs.YthjikbhjciphiaaGreatDoor

/-
  SHA-256 over UInt32: turning, one turn, a block's 64 numbers, a block, a digest. No program stands here.
-/
namespace Go.Proofs.YthjikbhjciphiaaGreatDoor
open Go.RowKit
set_option linter.unusedVariables false
set_option linter.unusedSimpArgs false

/-- A number of 32 bits as the model's number: a word of its own, so that no rule on 'toNat' strikes within. -/
def uN (x : UInt32) : Int := ((x.toNat : Nat) : Int)
theorem uN_lo (x : UInt32) : 0 ≤ uN x := Int.natCast_nonneg _
theorem uN_hi (x : UInt32) : uN x < 4294967296 := by have := x.toNat_lt; unfold uN; omega
/-- A number of 32 bits as a cell. -/
def uv (x : UInt32) : Value := .int .u32 (uN x)

theorem uvs_one (l : List UInt32) : ∀ u ∈ l.map uv, u.oneCell' = true := by
  intro u hu
  obtain ⟨b, _, rfl⟩ := List.mem_map.1 hu
  rfl

theorem uv_at (l : List UInt32) {k : Nat} (h : k < l.length) : (l.map uv)[k]? = some (.int .u32 (uN (l.getD k 0))) := by
  rw [List.getElem?_map, List.getElem?_eq_getElem h, List.getD_eq_getElem?_getD, List.getElem?_eq_getElem h]
  rfl

/-- x turned right by k bits. -/
def rotr (x : UInt32) (k : Nat) : UInt32 := UInt32.ofNat (x.toNat / 2 ^ k ||| x.toNat * 2 ^ (32 - k))
def shr (x : UInt32) (k : Nat) : UInt32 := UInt32.ofNat (x.toNat / 2 ^ k)

def kList : List Nat := [
  0x428a2f98, 0x71374491, 0xb5c0fbcf, 0xe9b5dba5, 0x3956c25b, 0x59f111f1, 0x923f82a4, 0xab1c5ed5,
  0xd807aa98, 0x12835b01, 0x243185be, 0x550c7dc3, 0x72be5d74, 0x80deb1fe, 0x9bdc06a7, 0xc19bf174,
  0xe49b69c1, 0xefbe4786, 0x0fc19dc6, 0x240ca1cc, 0x2de92c6f, 0x4a7484aa, 0x5cb0a9dc, 0x76f988da,
  0x983e5152, 0xa831c66d, 0xb00327c8, 0xbf597fc7, 0xc6e00bf3, 0xd5a79147, 0x06ca6351, 0x14292967,
  0x27b70a85, 0x2e1b2138, 0x4d2c6dfc, 0x53380d13, 0x650a7354, 0x766a0abb, 0x81c2c92e, 0x92722c85,
  0xa2bfe8a1, 0xa81a664b, 0xc24b8b70, 0xc76c51a3, 0xd192e819, 0xd6990624, 0xf40e3585, 0x106aa070,
  0x19a4c116, 0x1e376c08, 0x2748774c, 0x34b0bcb5, 0x391c0cb3, 0x4ed8aa4a, 0x5b9cca4f, 0x682e6ff3,
  0x748f82ee, 0x78a5636f, 0x84c87814, 0x8cc70208, 0x90befffa, 0xa4506ceb, 0xbef9a3f7, 0xc67178f2]
/-- The constant of turn i. -/
def kc (i : Nat) : UInt32 := UInt32.ofNat (kList.getD i 0)

/-- All of them. -/
def kcL : List UInt32 := kList.map UInt32.ofNat
theorem kcL_len : kcL.length = 64 := rfl
theorem kcL_at (k : Nat) : kcL.getD k 0 = kc k := by
  unfold kcL kc
  rw [List.getD_eq_getElem?_getD, List.getD_eq_getElem?_getD, List.getElem?_map]
  cases kList[k]? <;> rfl

/-- A state. -/
structure St where
  a : UInt32
  b : UInt32
  c : UInt32
  d : UInt32
  e : UInt32
  f : UInt32
  g : UInt32
  h : UInt32

def St.v (s : St) : Value := .agg #[uv s.a, uv s.b, uv s.c, uv s.d, uv s.e, uv s.f, uv s.g, uv s.h]
/-- Its eight numbers. -/
def St.l (s : St) : List UInt32 := [s.a, s.b, s.c, s.d, s.e, s.f, s.g, s.h]
theorem St.v_l (s : St) : s.v = .agg (s.l.map uv).toArray := rfl
/-- The first list where the first k numbers of the second have been added. -/
def addK (sl tl : List UInt32) : Nat → List UInt32
  | 0 => sl
  | k + 1 => (addK sl tl k).set k ((addK sl tl k).getD k 0 + tl.getD k 0)
theorem addK_len (sl tl : List UInt32) (k : Nat) : (addK sl tl k).length = sl.length := by
  induction k with
  | zero => rfl
  | succ k ih => rw [addK, List.length_set, ih]
def st0 : St := ⟨0x6a09e667, 0xbb67ae85, 0x3c6ef372, 0xa54ff53a, 0x510e527f, 0x9b05688c, 0x1f83d9ab, 0x5be0cd19⟩

def st00 : St := ⟨0, 0, 0, 0, 0, 0, 0, 0⟩

def bs1 (e : UInt32) : UInt32 := rotr e 6 ^^^ rotr e 11 ^^^ rotr e 25
def bs0 (a : UInt32) : UInt32 := rotr a 2 ^^^ rotr a 13 ^^^ rotr a 22
def ss0 (x : UInt32) : UInt32 := rotr x 7 ^^^ rotr x 18 ^^^ shr x 3
def ss1 (y : UInt32) : UInt32 := rotr y 17 ^^^ rotr y 19 ^^^ shr y 10
def chF (e f g : UInt32) : UInt32 := (e &&& f) ^^^ ((4294967295 ^^^ e) &&& g)
def majF (a b c : UInt32) : UInt32 := (a &&& b) ^^^ (a &&& c) ^^^ (b &&& c)
/-- One turn, n the constant and the block's number together. -/
def turnT (s : St) (n : UInt32) : UInt32 := s.h + bs1 s.e + chF s.e s.f s.g + n
def turnS (s : St) (n : UInt32) : St :=
  ⟨turnT s n + (bs0 s.a + majF s.a s.b s.c), s.a, s.b, s.c, s.d + turnT s n, s.e, s.f, s.g⟩
def addS (s t : St) : St := ⟨s.a + t.a, s.b + t.b, s.c + t.c, s.d + t.d, s.e + t.e, s.f + t.f, s.g + t.g, s.h + t.h⟩

theorem addK_8 (s t : St) : addK s.l t.l 8 = (addS s t).l := rfl

theorem addS_comm (s t : St) : addS s t = addS t s := by
  unfold addS
  rw [UInt32.add_comm s.a, UInt32.add_comm s.b, UInt32.add_comm s.c, UInt32.add_comm s.d, UInt32.add_comm s.e, UInt32.add_comm s.f, UInt32.add_comm s.g, UInt32.add_comm s.h]

/-- The number of four bytes, the highest first. -/
def be4 (b : List UInt8) (i : Nat) : UInt32 :=
  UInt32.ofNat ((b.getD (4 * i) 0).toNat * 16777216 + (b.getD (4 * i + 1) 0).toNat * 65536 + (b.getD (4 * i + 2) 0).toNat * 256 + (b.getD (4 * i + 3) 0).toNat)
/-- The block's number i, from those ahead of it. -/
def wNext (w : List UInt32) (i : Nat) : UInt32 := w.getD (i - 16) 0 + ss0 (w.getD (i - 15) 0) + w.getD (i - 7) 0 + ss1 (w.getD (i - 2) 0)
/-- The table of 64 when the first i numbers stand. -/
def tab (b : List UInt8) : Nat → List UInt32
  | 0 => List.replicate 64 0
  | i + 1 => (tab b i).set i (if i < 16 then be4 b i else wNext (tab b i) i)
theorem tab_len (b : List UInt8) (i : Nat) : (tab b i).length = 64 := by
  induction i with
  | zero => rfl
  | succ i ih => rw [tab, List.length_set, ih]

/-- The state behind k turns. -/
def turns (w : List UInt32) (s : St) : Nat → St
  | 0 => s
  | k + 1 => turnS (turns w s k) (kc k + w.getD k 0)
/-- The state behind a block. -/
def blockS (s : St) (b : List UInt8) : St := addS s (turns (tab b 64) s 64)

/-- The constants lie in the first block. -/
def CK (W : World) : Prop := ∀ k, k < 64 → W.cell? ⟨0, k, none⟩ = some (.int .u32 (uN (kc k)))
theorem CK.pos {W : World} (h : CK W) : 0 < W.heap.size := World.block_lt_of_cell? W _ (h 0 (by decide))
theorem CK.below {B : Nat} {W W' : World} (h : CK W) (hb : Below B W W') (hB : 0 < B) : CK W' := fun k hk => (hb.cell (p := ⟨0, k, none⟩) hB).trans (h k hk)
theorem CK.alloc {W : World} (h : CK W) (o : Obj) : CK (W.alloc o) := fun k hk => (World.cell?_alloc_lt W o ⟨0, k, none⟩ h.pos).trans (h k hk)
theorem CK.drewN {W : World} (h : CK W) (k : Nat) : CK (W.drewN k) := h

end Go.Proofs.YthjikbhjciphiaaGreatDoor

/-
  Walks over package sha and its reference: turning a number, one turn.
-/
namespace Go.Proofs.YthjikbhjciphiaaGreatDoor
open Go.RowKit
set_option linter.unusedVariables false
set_option linter.unusedSimpArgs false

theorem rotr_or (x : UInt32) (k : Nat) : (rotr x k).toNat = x.toNat / 2 ^ k ||| x.toNat * 2 ^ (32 - k) % 4294967296 := by
  have hx := x.toNat_lt
  have h1 : x.toNat / 2 ^ k % 4294967296 = x.toNat / 2 ^ k := Nat.mod_eq_of_lt (Nat.lt_of_le_of_lt (Nat.div_le_self _ _) hx)
  unfold rotr
  rw [UInt32.toNat_ofNat', show (2 : Nat) ^ 32 = 4294967296 from rfl, show (4294967296 : Nat) = 2 ^ 32 from rfl, Nat.or_mod_two_pow, show (2 : Nat) ^ 32 = 4294967296 from rfl, h1]

theorem neg_and (k : Nat) (hk : 0 < k ∧ k < 32) : bits .and .u64 (IntKind.u64.wrap (-((k : Nat) : Int))) 31 = ((32 - k : Nat) : Int) := by
  have h1 : IntKind.u64.wrap (-((k : Nat) : Int)) = ((18446744073709551616 - k : Nat) : Int) := by
    simp only [IntKind.wrap, IntKind.bits, IntKind.signed]
    simp
    omega
  rw [h1]
  have h2 := u64_and_nat (18446744073709551616 - k) 31 (by omega) (by decide)
  rw [show (31 : Int) = ((31 : Nat) : Int) from rfl, h2, show (31 : Nat) = 2 ^ 5 - 1 from rfl, Nat.and_two_pow_sub_one_eq_mod]
  congr 1
  omega

theorem rot_bits (x : UInt32) (k : Nat) : bits .or .u32 (((x.toNat : Nat) : Int) / 2 ^ k) (((x.toNat : Nat) : Int) * 2 ^ (32 - k) % 4294967296) = (((rotr x k).toNat : Nat) : Int) := by
  have hx := x.toNat_lt
  have h1 : x.toNat / 2 ^ k < 4294967296 := Nat.lt_of_le_of_lt (Nat.div_le_self _ _) hx
  rw [rotr_or]
  have := u32_or_nat (x.toNat / 2 ^ k) (x.toNat * 2 ^ (32 - k) % 4294967296) h1 (Nat.mod_lt _ (by decide))
  rw [← this]
  simp
theorem rot_bits2 (x : UInt32) (k : Nat) : bits .or .u32 (((x.toNat : Nat) : Int) * 2 ^ (32 - k) % 4294967296) (((x.toNat : Nat) : Int) / 2 ^ k) = (((rotr x k).toNat : Nat) : Int) := by
  have hx := x.toNat_lt
  have h1 : x.toNat / 2 ^ k < 4294967296 := Nat.lt_of_le_of_lt (Nat.div_le_self _ _) hx
  rw [rotr_or, Nat.or_comm]
  have := u32_or_nat (x.toNat * 2 ^ (32 - k) % 4294967296) (x.toNat / 2 ^ k) (Nat.mod_lt _ (by decide)) h1
  rw [← this]
  simp

theorem u_notaux (s : Nat) (hs : s < 4294967296) : (4294967295 : Int) - ((s : Nat) : Int) = bits .xor .u32 IntKind.u32.max ((s : Nat) : Int) := by
  have h := u32_xor_nat 4294967295 s (by decide) hs
  have h2 : (4294967295 : Nat) ^^^ s = 4294967295 - s := by
    have := Nat.xor_comm 4294967295 s
    apply Nat.eq_of_testBit_eq
    intro i
    rw [Nat.testBit_xor, show (4294967295 : Nat) = 2 ^ 32 - 1 from rfl, Nat.testBit_two_pow_sub_one, show 2 ^ 32 - 1 - s = 2 ^ 32 - (s + 1) by omega, Nat.testBit_two_pow_sub_succ (by omega)]
    by_cases hi : i < 32
    · simp [hi]
    · have : s.testBit i = false := Nat.testBit_lt_two_pow (Nat.lt_of_lt_of_le hs (by rw [show (4294967296 : Nat) = 2 ^ 32 from rfl]; exact Nat.pow_le_pow_right (by decide) (by omega)))
      simp [hi, this]
  show _ = bits .xor .u32 ((4294967295 : Nat) : Int) _
  rw [h, h2]
  omega

section
variable (x y : UInt32)
theorem u_addm : (uN x + uN y) % 4294967296 = uN (x + y) := by
  unfold uN; rw [UInt32.toNat_add]; simp
theorem u_addw : IntKind.u32.wrap (uN x + uN y) = uN (x + y) := by
  rw [IntKind.wrap_u32', u_addm]
theorem u_add3 (z : UInt32) : (uN x + uN y + uN z) % 4294967296 = uN (x + y + z) := by
  unfold uN; rw [UInt32.toNat_add, UInt32.toNat_add]; omega
theorem u_add4 (z t : UInt32) : (uN x + uN y + uN z + uN t) % 4294967296 = uN (x + y + z + t) := by
  unfold uN; rw [UInt32.toNat_add, UInt32.toNat_add, UInt32.toNat_add]; omega
theorem u_add5 (z t u : UInt32) : (uN x + uN y + uN z + uN t + uN u) % 4294967296 = uN (x + y + z + t + u) := by
  unfold uN; rw [UInt32.toNat_add, UInt32.toNat_add, UInt32.toNat_add, UInt32.toNat_add]; omega
theorem u_add13 (z t : UInt32) : (uN x + (uN y + uN z + uN t)) % 4294967296 = uN (x + (y + z + t)) := by
  unfold uN; rw [UInt32.toNat_add, UInt32.toNat_add, UInt32.toNat_add]; omega
theorem u_add12 (z : UInt32) : (uN x + (uN y + uN z)) % 4294967296 = uN (x + (y + z)) := by
  unfold uN; rw [UInt32.toNat_add, UInt32.toNat_add]; omega
theorem u_xor : bits .xor .u32 (uN x) (uN y) = uN (x ^^^ y) := by
  unfold uN; rw [UInt32.toNat_xor]; exact u32_xor_nat _ _ x.toNat_lt y.toNat_lt
theorem u_and : bits .and .u32 (uN x) (uN y) = uN (x &&& y) := by
  unfold uN; rw [UInt32.toNat_and]; exact u32_and_nat _ _ x.toNat_lt y.toNat_lt
theorem u_or : bits .or .u32 (uN x) (uN y) = uN (x ||| y) := by
  unfold uN; rw [UInt32.toNat_or]; exact u32_or_nat _ _ x.toNat_lt y.toNat_lt
theorem u_not : bits .xor .u32 IntKind.u32.max (uN y) = uN (4294967295 ^^^ y) := by
  unfold uN; rw [UInt32.toNat_xor]; exact u32_xor_nat 4294967295 _ (by decide) y.toNat_lt
theorem u_not2 : 4294967295 - uN y = uN (4294967295 ^^^ y) := by
  rw [← u_not y]
  exact u_notaux y.toNat y.toNat_lt
theorem u_not3 : (4294967295 - uN y) % 4294967296 = uN (4294967295 ^^^ y) := by
  rw [u_not2]
  exact Int.emod_eq_of_lt (uN_lo _) (uN_hi _)
theorem u_not4 : IntKind.u32.wrap (4294967295 - uN y) = uN (4294967295 ^^^ y) := by
  rw [IntKind.wrap_u32', u_not3]
theorem u_shr (k : Nat) : uN x / 2 ^ k = uN (shr x k) := by
  have hx := x.toNat_lt
  unfold uN shr
  rw [UInt32.toNat_ofNat', Nat.mod_eq_of_lt (Nat.lt_of_le_of_lt (Nat.div_le_self _ _) hx)]
  simp
theorem u_shr3 : uN x / 8 = uN (shr x 3) := u_shr x 3
theorem u_shr10 : uN x / 1024 = uN (shr x 10) := u_shr x 10
end

attribute [local go_sem] u_addm u_addw u_add3 u_add4 u_add5 u_add12 u_add13 u_xor u_and u_or u_not u_not2 u_not3 u_not4 u_shr3 u_shr10

end Go.Proofs.YthjikbhjciphiaaGreatDoor

/-
  Results that lie in a cell, beside one in a slot; a whole struct stored. No program stands here.
-/
namespace Go.Proofs.YthjikbhjciphiaaGreatDoor
open Go.RowKit
set_option linter.unusedVariables false
set_option linter.unusedSimpArgs false

/-- Two results, the first a struct in a cell. -/
theorem ret_cell_tmp {P : Program} {fn : Func} {R : Ending → World → Prop} {a : Act} {w : World} {p q : Tmp} {ty : TypeId} (h : fn.results = #[.cell p ty, .tmp q]) (g : Nat) (t : TypeId) (cs : List Value)
    (hp : a.tmps.getD p undef = .pointer (some ⟨g, 0, none⟩)) (hg : Blk w g t cs) (fs : Array Field)
    (hu : P.underlying ty = some (.struct fs)) (hi : (P.info? ty).map (·.size) = some cs.length) (x : Value) (hx : a.tmps.getD q undef = x) (hd : a.defers = []) (hR : R (.returned (.tuple #[.agg cs.toArray, x])) w) : bodyPost P fn R .ret a w := by
  refine bodyPost_ret (v := .tuple #[.agg cs.toArray, x]) ?_ hd hR
  rw [results_cell_tmp h, hp]
  simp [asAddr, run_loadVar_row w g t ty cs.toArray (0, 0) _ hg hu rfl (by simpa using hi), Result.andThen]
  simpa using hx
/-- One result, a struct in a cell. -/
theorem ret_cell_one {P : Program} {fn : Func} {R : Ending → World → Prop} {a : Act} {w : World} {p : Tmp} {ty : TypeId} (h : fn.results = #[.cell p ty]) (g : Nat) (t : TypeId) (cs : List Value)
    (hp : a.tmps.getD p undef = .pointer (some ⟨g, 0, none⟩)) (hg : Blk w g t cs) (fs : Array Field)
    (hu : P.underlying ty = some (.struct fs)) (hi : (P.info? ty).map (·.size) = some cs.length) (hd : a.defers = []) (hR : R (.returned (.agg cs.toArray)) w) : bodyPost P fn R .ret a w :=
  bodyPost_ret (results_cell_row h _ w g t cs.toArray (0, 0) _ hp hg hu rfl (by simpa using hi)) hd hR

/-- What is owned stays owned where a whole row of another block is stored. -/
theorem own_setRow {w : World} {base : Nat} {e : TypeId} {size : Nat} {v : Value} {n : Nat} {xs : List Value} (h : w.ownsRow base e size v n xs) {g : Nat} (hg : g < base) (C : Array Value) : (w.setRow g C).ownsRow base e size v n xs := by
  refine h.kept (w' := w.setRow g C) (row := some g) ⟨rfl, rfl, rfl, by rw [size_setRow]; exact Nat.le_refl _, fun k hk hne => ?_⟩ ?_
  · unfold World.setRow
    show (w.heap.modify g _)[k]? = _
    rw [Array.getElem?_modify, if_neg (fun e => hne (by rw [e]))]
  · exact Or.inr fun e => by
      have := (h.lt g e).1
      omega

end Go.Proofs.YthjikbhjciphiaaGreatDoor

/-
  What follows n bytes: the program's Pad and the reference's.
-/
namespace Go.Proofs.YthjikbhjciphiaaGreatDoor
open Go.RowKit
set_option linter.unusedVariables false
set_option linter.unusedSimpArgs false

def padZ (n : Nat) : Nat := (119 - n % 64) % 64
/-- Eight bytes, the highest first. -/
def be8 (x : Nat) : List UInt8 := (le 8 x).reverse
def padL (n : Nat) : List UInt8 := (128 :: List.replicate (padZ n) 0) ++ be8 (n * 8)
theorem padZ_lt (n : Nat) : padZ n < 64 := Nat.mod_lt _ (by decide)
theorem be8_len (x : Nat) : (be8 x).length = 8 := by unfold be8; rw [List.length_reverse, le_len]
theorem padL_len (n : Nat) : (padL n).length = 9 + padZ n := by
  unfold padL
  rw [List.length_append, List.length_cons, List.length_replicate, be8_len]; omega
theorem padL_whole (n : Nat) : (n + (padL n).length) % 64 = 0 := by
  rw [padL_len]; unfold padZ; omega
theorem be8_take (x k : Nat) (hk : k < 8) : (be8 x).take (k + 1) = (be8 x).take k ++ [UInt8.ofNat (x / 256 ^ (7 - k))] := by
  rw [List.take_add_one]
  congr 1
  unfold be8
  rw [List.getElem?_reverse (by rw [le_len]; omega), le_len, show 8 - 1 - k = 7 - k by omega]
  generalize hq : 7 - k = q
  have hq8 : q < 8 := by omega
  have h : ∀ (m x q : Nat), q < m → (le m x)[q]? = some (UInt8.ofNat (x / 256 ^ q)) := by
    intro m
    induction m with
    | zero => intro x q h; omega
    | succ m ih =>
      intro x q h
      cases q with
      | zero => simp [le]
      | succ q =>
        rw [le, List.getElem?_cons_succ, ih _ _ (by omega), Nat.pow_succ, Nat.mul_comm, Nat.div_div_eq_div_mul]
  rw [h 8 x q hq8]; rfl

def lenOf : Value → Nat
  | .slice _ n _ => n
  | _ => 0

end Go.Proofs.YthjikbhjciphiaaGreatDoor

/-
  The reference's names of segments.
-/
namespace Go.Proofs.YthjikbhjciphiaaGreatDoor
open Go.RowKit
set_option linter.unusedVariables false
set_option linter.unusedSimpArgs false

theorem hd16_slice {P : Program} (w : World) (t : TypeId) (k k' : IntKind) (d : Nat) (i j : Int) (hi : i = (d : Int)) (hj : j = (d : Int) + 1) (hd : d < 16) (h : P.underlying t = some .string) :
    (Instr.slice t (.string ⟨#[48, 49, 50, 51, 52, 53, 54, 55, 56, 57, 97, 98, 99, 100, 101, 102]⟩) (some (.int k i)) (some (.int k' j)) none).run P w = .ok (.string ⟨[hd16 d].toArray⟩) w := by
  subst hi; subst hj
  rw [run_slice_string_if w t _ k k' _ _ h, if_pos ⟨by omega, by show _ ≤ ((16 : Nat) : Int); omega⟩, if_pos ⟨by omega, by omega⟩]
  congr 1
  have e : ∀ d : Fin 16, (⟨#[48, 49, 50, 51, 52, 53, 54, 55, 56, 57, 97, 98, 99, 100, 101, 102]⟩ : ByteArray).extract d.val (d.val + 1) = ⟨[hd16 d.val].toArray⟩ := by decide +kernel
  have := e ⟨d, hd⟩
  rw [show ((d : Int)).toNat = d by omega, show ((d : Int) + 1).toNat = d + 1 by omega]
  exact congrArg Value.string this
theorem add_txts {P : Program} (x y z : List UInt8) (hz : z = x ++ y) (hx : (x.length : Int) ≤ 8388608) (hy : (y.length : Int) ≤ 8388608) (w : World) :
    (Op.stringOp .add ⟨x.toArray⟩ ⟨y.toArray⟩).run P w = .ok (.string ⟨z.toArray⟩) w := by
  subst hz
  exact run_string_add_lists w x y hx hy

theorem str_at {P : Program} (s : ByteArray) (t : TypeId) (h : P.underlying t = some .string) (k : Nat) (c : UInt8) (hc : s.data.toList[k]? = some c) (w : World) :
    (Instr.index t (.string s) (.int .i64 (k : Nat))).run P w = .ok (.int .u8 ((c.toNat : Nat) : Int)) w := by
  have hk : k < s.size := by
    have := (List.getElem?_eq_some_iff.1 hc).1
    simpa using this
  rw [run_index_string w t s .i64 _ h, dif_pos ⟨by omega, by omega⟩]
  have e : s[k]'hk = c := by
    have := (List.getElem?_eq_some_iff.1 hc).2
    rw [Array.getElem_toList] at this
    exact this
  simp only [Int.toNat_natCast, e]
theorem val_take (l : List UInt8) (k : Nat) (c : UInt8) (h : l[k]? = some c) : valS (l.take (k + 1)) = stepV (valS (l.take k)) c := by
  unfold valS
  rw [List.take_add_one, h]
  simp

end Go.Proofs.YthjikbhjciphiaaGreatDoor

/-
  Lists of texts in memory; the reference's answer: are two lists of texts the same?
-/
namespace Go.Proofs.YthjikbhjciphiaaGreatDoor
open Go.RowKit
set_option linter.unusedVariables false
set_option linter.unusedSimpArgs false

/-- Texts as values. -/
def wsV (L : List (List UInt8)) : List Value := L.map fun w => .string ⟨w.toArray⟩

end Go.Proofs.YthjikbhjciphiaaGreatDoor

/-
  Arithmetic of names: which runes a name, digits and a line have; a rune that is read of bytes. No program stands here.
-/
namespace Go.Proofs.YthjikbhjciphiaaGreatDoor
open Go.RowKit
set_option linter.unusedVariables false
set_option linter.unusedSimpArgs false

def letR (r : Int) : Bool := decide (97 ≤ r) && decide (r ≤ 122)
def digR (r : Int) : Bool := decide (48 ≤ r) && decide (r ≤ 57)
def tenR (r : Int) : Bool := letR r || digR r || decide (r = 45)
def tarR (r : Int) : Bool := tenR r || decide (r = 46) || decide (r = 58)
def hexR (r : Int) : Bool := digR r || (decide (97 ≤ r) && decide (r ≤ 102))
/-- Whether each byte, taken as a rune, is one of p's. -/
def allR (p : Int → Bool) (l : List UInt8) : Bool := l.all fun b => p ((b.toNat : Nat) : Int)
theorem letR_high (r : Int) (h : 128 ≤ r) : letR r = false := by simp [letR]; omega
theorem digR_high (r : Int) (h : 128 ≤ r) : digR r = false := by simp [digR]; omega
theorem tenR_high (r : Int) (h : 128 ≤ r) : tenR r = false := by simp [tenR, letR, digR]; omega
theorem tarR_high (r : Int) (h : 128 ≤ r) : tarR r = false := by simp [tarR, tenR, letR, digR]; omega
theorem hexR_high (r : Int) (h : 128 ≤ r) : hexR r = false := by simp [hexR, digR]; omega

theorem allR_take (p : Int → Bool) (l : List UInt8) (k : Nat) (b : UInt8) (h : l[k]? = some b) : allR p (l.take (k + 1)) = (allR p (l.take k) && p ((b.toNat : Nat) : Int)) := by
  unfold allR
  rw [List.take_add_one, h]
  simp [List.all_append]

theorem allR_out (p : Int → Bool) (l : List UInt8) (k : Nat) (b : UInt8) (h : l[k]? = some b) (hp : p ((b.toNat : Nat) : Int) = false) : allR p l = false := by
  unfold allR
  rw [List.all_eq_false]
  exact ⟨b, List.mem_of_getElem? h, by simp [hp]⟩

theorem byte_at (s : ByteArray) (k : Nat) (h : k < s.size) : s.data.toList[k]? = some (s[k]'h) := by
  have : k < s.data.toList.length := by simpa using h
  rw [List.getElem?_eq_getElem this]
  rfl

/-- A rune that is read is no greater than the greatest one. -/
theorem decode_max (s : ByteArray) (pos : Nat) : (Utf8.decode s pos).1 ≤ 1114111 := by
  have hb : ∀ k, (s.get! (pos + k)).toNat < 256 := fun k => (s.get! (pos + k)).toNat_lt
  have h0 := hb 0; have h1 := hb 1; have h2 := hb 2; have h3 := hb 3
  simp only [Utf8.decode]
  repeat' split
  all_goals simp_all [Utf8.runeError, Utf8.valid]
  all_goals omega

end Go.Proofs.YthjikbhjciphiaaGreatDoor

/-
  Cells in the midst of a block: what keeps them; a slice of structs made. No program stands here.
-/
namespace Go.Proofs.YthjikbhjciphiaaGreatDoor
open Go.RowKit
set_option linter.unusedVariables false
set_option linter.unusedSimpArgs false

/-- Each cell that is there stays as it is. -/
def Keeps (w w' : World) : Prop := w.heap.size ≤ w'.heap.size ∧ ∀ (a : Addr) (v : Value), w.cell? a = some v → w'.cell? a = some v
theorem Keeps.refl (w : World) : Keeps w w := ⟨Nat.le_refl _, fun _ _ h => h⟩
theorem Keeps.trans {a b c : World} (h : Keeps a b) (k : Keeps b c) : Keeps a c := ⟨Nat.le_trans h.1 k.1, fun p v e => k.2 p v (h.2 p v e)⟩
theorem keeps_below {w w' : World} (h : Below w.heap.size w w') : Keeps w w' := ⟨h.size, fun p v e => by rw [h.cell (block_lt_of_cell e)]; exact e⟩
theorem keeps_iterAt {w : World} {I : Nat} {s t : ByteArray} {p q : Nat} (hit : w.heap[I]? = some (.stringIter s p)) : Keeps w (w.iterAt I t q) := by
  refine ⟨by rw [Lib.iterAt_size]; exact Nat.le_refl _, fun a v h => ?_⟩
  by_cases ha : a.block = I
  · simp [World.cell?, ha, hit] at h
  · rw [World.cell?_of_block (w := w) (Lib.iterAt_other w I a.block t q ha)]
    exact h
theorem Byt.keeps {w w' : World} {B n : Nat} {A : Option Addr} {l : List UInt8} (h : Byt w B A n l) (hk : Keeps w w') : Byt w' B A n l :=
  ⟨h.1, fun hn => by
    obtain ⟨b, o, e, hb, hc⟩ := h.2 hn
    exact ⟨b, o, e, hb, fun j x hx => hk.2 _ _ (hc j x hx)⟩⟩
theorem rangeAt_keeps {w w' : World} {b o : Nat} {cs : List Value} (h : w.rangeAt b o cs) (hk : Keeps w w') : w'.rangeAt b o cs := fun j v hv => hk.2 _ _ (h j v hv)
theorem rangeAt_below {w w' : World} {B b o : Nat} {cs : List Value} (h : w.rangeAt b o cs) (hb : Below B w w') (hlt : b < B) : w'.rangeAt b o cs := fun j v hv => by
  rw [hb.cell (p := ⟨b, o + j, none⟩) hlt]
  exact h j v hv
theorem there_below {w w' : World} {B b o n : Nat} (h : w.there b o n) (hb : Below B w w') (hlt : b < B) : w'.there b o n := fun j hj => by
  rw [hb.cell (p := ⟨b, o + j, none⟩) hlt, hb.frozen (p := ⟨b, o + j, none⟩) hlt]
  exact h j hj
theorem there_iterAt {w : World} {I b o n : Nat} (h : w.there b o n) (hne : b ≠ I) (s : ByteArray) (q : Nat) : (w.iterAt I s q).there b o n := fun j hj => by
  rw [World.cell?_of_block (w := w) (a := ⟨b, o + j, none⟩) (Lib.iterAt_other w I b s q hne), World.frozen?_of_block (w := w) (a := ⟨b, o + j, none⟩) (Lib.iterAt_other w I b s q hne)]
  exact h j hj
theorem there_part {w : World} {b o n : Nat} (h : w.there b o n) (i m : Nat) (him : i + m ≤ n) : w.there b (o + i) m := fun j hj => by
  rw [Nat.add_assoc]
  exact h (i + j) (by omega)
theorem setCells_size (b : Nat) : ∀ (vs : List Value) (o : Nat) (w : World), (w.setCells b o vs).heap.size = w.heap.size
  | [], _, _ => rfl
  | v :: r, o, w => by
    rw [World.setCells, setCells_size b r (o + 1)]
    simp [World.setCell]
theorem below_setCells {B : Nat} {a : World} (b : Nat) (hb : B ≤ b) : ∀ (vs : List Value) (o : Nat) (w : World), Below B a w → Below B a (w.setCells b o vs)
  | [], _, _, h => h
  | v :: r, o, w, h => by
    rw [World.setCells]
    exact below_setCells b hb r (o + 1) _ (h.setCell (p := ⟨b, o, none⟩) hb v)
theorem heap_setCells_other (b j : Nat) (hj : j ≠ b) : ∀ (vs : List Value) (o : Nat) (w : World), (w.setCells b o vs).heap[j]? = w.heap[j]?
  | [], _, _ => rfl
  | v :: r, o, w => by
    rw [World.setCells, heap_setCells_other b j hj r (o + 1)]
    exact heap_setCell_other w ⟨b, o, none⟩ j v hj

/-- 'make([]T, n)' of any elements: all its cells are there. -/
theorem wpList_make_there {P : Program} (w : World) {ops : Array Oper} {rest : List Oper} {o : Oper} {a : Act} {Q : Exit → Act → World → Prop}
    (hg : o.guard = none) (l c : Operand) (t : TypeId) (hop : o.op = Op.makeSlice t l c)
    (e : TypeId) (i : TypeInfo) (z : Value) (size bytes : Nat) (h1 : P.underlying t = some (.slice e)) (h2 : P.info? e = some i) (h3 : i.zero = some z) (h4 : i.size = size) (h5 : i.bytes = bytes)
    (kl kc : IntKind) (N C : Int) (n : Nat) (hl : a.eval l = .int kl N) (hc : a.eval c = .int kc C) (hN : N = (n : Int)) (hC : C = (n : Int)) (b2 : bytes * n ≤ 140737488355328) (b3 : n ≤ 140737488355328)
    (hK : ∀ w', w'.there w.heap.size 0 (n * size) → Below w.heap.size w w' → w'.heap.size = w.heap.size + 1 → wpList P ops Q rest (a.put o.dst (.slice (some ⟨w.heap.size, 0, none⟩) n n)) w') :
    wpList P ops Q (o :: rest) a w := by
  refine wpList_plain hg fun K hK' => ?_
  have hb : ((i.bytes : Int) * C) ≤ 281474976710656 := by
    rw [h5, hC, ← Int.natCast_mul]
    omega
  have hr := run_make (P := P) w t e i _ h1 h2 h3 kl kc N C (by omega) (by omega) hb (by omega)
  subst hN; subst hC
  unfold Oper.wp
  simp only [execOp, hop, hl, hc, Sem.run_bind, hr, Result.andThen, Int.toNat_natCast, h4]
  refine hK' _ _ (hK _ (fun j hj => ?_) ((Below.refl _ w).alloc (Nat.le_refl _) _) (by simp))
  have hlt : 0 + j < (madeCells z.cells (n * size)).size := by rw [size_madeCells]; omega
  exact ⟨by rw [World.cell?_alloc_new, Array.getElem?_eq_getElem hlt]; rfl, World.frozen?_alloc_new w _ e _⟩

/-- Cells given as a list, stored in the midst of a block; loaded. -/
theorem wpList_store_list {P : Program} {ops : Array Oper} {rest : List Oper} {op : Oper} {a : Act} {w : World} {Q : Exit → Act → World → Prop} (hgd : op.guard = none) (ty : TypeId) (x y : Operand) (ho : op.op = .store ty x y)
    (b o : Nat) (cs : List Value) (hx : a.eval x = .pointer (some ⟨b, o, none⟩)) (hy : a.eval y = .agg cs.toArray)
    (ht : w.there b o cs.length) (hi : (P.info? ty).map (·.size) = some cs.length) (h1 : ∀ v ∈ cs, v.oneCell' = true)
    (h : wpList P ops Q rest (a.put op.dst undef) (w.setCells b o cs)) : wpList P ops Q (op :: rest) a w :=
  wpList_store_mid hgd ty x y ho b o cs.toArray hx hy (by simpa using ht) (by simpa using hi) (all_oneCell_toArray h1) h

end Go.Proofs.YthjikbhjciphiaaGreatDoor
