/-
  SHA-256 over UInt32: turning, one turn, a block's 64 numbers, a block, a digest. No program stands here.
-/
import Derived.Test.YtnmibfncgoemfaaBlk
namespace Go.Proofs.Ytnmibfncgoemfaa
open Go.RowKit
set_option linter.unusedVariables false
set_option linter.unusedSimpArgs false

/-- A number of 32 bits as the model's number: a word of its own, so that no rule on 'toNat' strikes within. -/
def uN (x : UInt32) : Int := ((x.toNat : Nat) : Int)
theorem uN_lo (x : UInt32) : 0 ≤ uN x := Int.natCast_nonneg _
theorem uN_hi (x : UInt32) : uN x < 4294967296 := by have := x.toNat_lt; unfold uN; omega
/-- A number of 32 bits as a cell. -/
def uv (x : UInt32) : Value := .int .u32 (uN x)

theorem uvs_one (l : List UInt32) : ∀ u ∈ l.map uv, u.oneCell' = true := by
  intro u hu
  obtain ⟨b, _, rfl⟩ := List.mem_map.1 hu
  rfl

theorem uv_at (l : List UInt32) {k : Nat} (h : k < l.length) : (l.map uv)[k]? = some (.int .u32 (uN (l.getD k 0))) := by
  rw [List.getElem?_map, List.getElem?_eq_getElem h, List.getD_eq_getElem?_getD, List.getElem?_eq_getElem h]
  rfl

/-- x turned right by k bits. -/
def rotr (x : UInt32) (k : Nat) : UInt32 := UInt32.ofNat (x.toNat / 2 ^ k ||| x.toNat * 2 ^ (32 - k))
def shr (x : UInt32) (k : Nat) : UInt32 := UInt32.ofNat (x.toNat / 2 ^ k)

def kList : List Nat := [
  0x428a2f98, 0x71374491, 0xb5c0fbcf, 0xe9b5dba5, 0x3956c25b, 0x59f111f1, 0x923f82a4, 0xab1c5ed5,
  0xd807aa98, 0x12835b01, 0x243185be, 0x550c7dc3, 0x72be5d74, 0x80deb1fe, 0x9bdc06a7, 0xc19bf174,
  0xe49b69c1, 0xefbe4786, 0x0fc19dc6, 0x240ca1cc, 0x2de92c6f, 0x4a7484aa, 0x5cb0a9dc, 0x76f988da,
  0x983e5152, 0xa831c66d, 0xb00327c8, 0xbf597fc7, 0xc6e00bf3, 0xd5a79147, 0x06ca6351, 0x14292967,
  0x27b70a85, 0x2e1b2138, 0x4d2c6dfc, 0x53380d13, 0x650a7354, 0x766a0abb, 0x81c2c92e, 0x92722c85,
  0xa2bfe8a1, 0xa81a664b, 0xc24b8b70, 0xc76c51a3, 0xd192e819, 0xd6990624, 0xf40e3585, 0x106aa070,
  0x19a4c116, 0x1e376c08, 0x2748774c, 0x34b0bcb5, 0x391c0cb3, 0x4ed8aa4a, 0x5b9cca4f, 0x682e6ff3,
  0x748f82ee, 0x78a5636f, 0x84c87814, 0x8cc70208, 0x90befffa, 0xa4506ceb, 0xbef9a3f7, 0xc67178f2]
/-- The constant of turn i. -/
def kc (i : Nat) : UInt32 := UInt32.ofNat (kList.getD i 0)

/-- All of them. -/
def kcL : List UInt32 := kList.map UInt32.ofNat
theorem kcL_len : kcL.length = 64 := rfl
theorem kcL_at (k : Nat) : kcL.getD k 0 = kc k := by
  unfold kcL kc
  rw [List.getD_eq_getElem?_getD, List.getD_eq_getElem?_getD, List.getElem?_map]
  cases kList[k]? <;> rfl

/-- A state. -/
structure St where
  a : UInt32
  b : UInt32
  c : UInt32
  d : UInt32
  e : UInt32
  f : UInt32
  g : UInt32
  h : UInt32

def St.v (s : St) : Value := .agg #[uv s.a, uv s.b, uv s.c, uv s.d, uv s.e, uv s.f, uv s.g, uv s.h]
/-- Its eight numbers. -/
def St.l (s : St) : List UInt32 := [s.a, s.b, s.c, s.d, s.e, s.f, s.g, s.h]
theorem St.v_l (s : St) : s.v = .agg (s.l.map uv).toArray := rfl
/-- The first list where the first k numbers of the second have been added. -/
def addK (sl tl : List UInt32) : Nat → List UInt32
  | 0 => sl
  | k + 1 => (addK sl tl k).set k ((addK sl tl k).getD k 0 + tl.getD k 0)
theorem addK_len (sl tl : List UInt32) (k : Nat) : (addK sl tl k).length = sl.length := by
  induction k with
  | zero => rfl
  | succ k ih => rw [addK, List.length_set, ih]
def st0 : St := ⟨0x6a09e667, 0xbb67ae85, 0x3c6ef372, 0xa54ff53a, 0x510e527f, 0x9b05688c, 0x1f83d9ab, 0x5be0cd19⟩

def st00 : St := ⟨0, 0, 0, 0, 0, 0, 0, 0⟩

def bs1 (e : UInt32) : UInt32 := rotr e 6 ^^^ rotr e 11 ^^^ rotr e 25
def bs0 (a : UInt32) : UInt32 := rotr a 2 ^^^ rotr a 13 ^^^ rotr a 22
def ss0 (x : UInt32) : UInt32 := rotr x 7 ^^^ rotr x 18 ^^^ shr x 3
def ss1 (y : UInt32) : UInt32 := rotr y 17 ^^^ rotr y 19 ^^^ shr y 10
def chF (e f g : UInt32) : UInt32 := (e &&& f) ^^^ ((4294967295 ^^^ e) &&& g)
def majF (a b c : UInt32) : UInt32 := (a &&& b) ^^^ (a &&& c) ^^^ (b &&& c)
/-- One turn, n the constant and the block's number together. -/
def turnT (s : St) (n : UInt32) : UInt32 := s.h + bs1 s.e + chF s.e s.f s.g + n
def turnS (s : St) (n : UInt32) : St :=
  ⟨turnT s n + (bs0 s.a + majF s.a s.b s.c), s.a, s.b, s.c, s.d + turnT s n, s.e, s.f, s.g⟩
def addS (s t : St) : St := ⟨s.a + t.a, s.b + t.b, s.c + t.c, s.d + t.d, s.e + t.e, s.f + t.f, s.g + t.g, s.h + t.h⟩

theorem addK_8 (s t : St) : addK s.l t.l 8 = (addS s t).l := rfl

theorem addS_comm (s t : St) : addS s t = addS t s := by
  unfold addS
  rw [UInt32.add_comm s.a, UInt32.add_comm s.b, UInt32.add_comm s.c, UInt32.add_comm s.d, UInt32.add_comm s.e, UInt32.add_comm s.f, UInt32.add_comm s.g, UInt32.add_comm s.h]

/-- The number of four bytes, the highest first. -/
def be4 (b : List UInt8) (i : Nat) : UInt32 :=
  UInt32.ofNat ((b.getD (4 * i) 0).toNat * 16777216 + (b.getD (4 * i + 1) 0).toNat * 65536 + (b.getD (4 * i + 2) 0).toNat * 256 + (b.getD (4 * i + 3) 0).toNat)
/-- The block's number i, from those ahead of it. -/
def wNext (w : List UInt32) (i : Nat) : UInt32 := w.getD (i - 16) 0 + ss0 (w.getD (i - 15) 0) + w.getD (i - 7) 0 + ss1 (w.getD (i - 2) 0)
/-- The table of 64 when the first i numbers stand. -/
def tab (b : List UInt8) : Nat → List UInt32
  | 0 => List.replicate 64 0
  | i + 1 => (tab b i).set i (if i < 16 then be4 b i else wNext (tab b i) i)
theorem tab_len (b : List UInt8) (i : Nat) : (tab b i).length = 64 := by
  induction i with
  | zero => rfl
  | succ i ih => rw [tab, List.length_set, ih]

/-- The state behind k turns. -/
def turns (w : List UInt32) (s : St) : Nat → St
  | 0 => s
  | k + 1 => turnS (turns w s k) (kc k + w.getD k 0)
/-- The state behind a block. -/
def blockS (s : St) (b : List UInt8) : St := addS s (turns (tab b 64) s 64)

/-- The constants lie in the first block. -/
def CK (W : World) : Prop := ∀ k, k < 64 → W.cell? ⟨0, k, none⟩ = some (.int .u32 (uN (kc k)))
theorem CK.pos {W : World} (h : CK W) : 0 < W.heap.size := World.block_lt_of_cell? W _ (h 0 (by decide))
theorem CK.below {B : Nat} {W W' : World} (h : CK W) (hb : Below B W W') (hB : 0 < B) : CK W' := fun k hk => (hb.cell (p := ⟨0, k, none⟩) hB).trans (h k hk)
theorem CK.alloc {W : World} (h : CK W) (o : Obj) : CK (W.alloc o) := fun k hk => (World.cell?_alloc_lt W o ⟨0, k, none⟩ h.pos).trans (h k hk)
theorem CK.drewN {W : World} (h : CK W) (k : Nat) : CK (W.drewN k) := h

end Go.Proofs.Ytnmibfncgoemfaa
