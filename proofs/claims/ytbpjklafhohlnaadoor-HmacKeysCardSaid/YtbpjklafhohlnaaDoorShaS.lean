/-
  The digest of any bytes: package sha's Sum.
-/
import Derived.Test.YtbpjklafhohlnaaDoorShaG
import Derived.Test.YtbpjklafhohlnaaDoorShaH
import Derived.Test.YtbpjklafhohlnaaDoorShaD
import Derived.Test.YtbpjklafhohlnaaDoorOctB
import Derived.Deep.RegionHeld3
import Derived.Deep.DeepCutAuto
namespace Go.Proofs.YtbpjklafhohlnaaDoor
open Go.RowKit
set_option linter.unusedVariables false
set_option linter.unusedSimpArgs false

theorem blocksS_append (l1 l2 : List UInt8) (N1 : Nat) (h1 : l1.length = 64 * N1) (s : St) (N2 : Nat) (h2 : 64 * N2 ≤ l2.length) : blocksS s (l1 ++ l2) (N1 + N2) = blocksS (blocksS s l1 N1) l2 N2 := by
  induction N2 with
  | zero =>
    show blocksS s (l1 ++ l2) N1 = blocksS s l1 N1
    have : ∀ k, k ≤ N1 → blocksS s (l1 ++ l2) k = blocksS s l1 k := by
      intro k
      induction k with
      | zero => intro _; rfl
      | succ k ih =>
        intro hk
        show blockS _ (chunkL _ k) = blockS _ (chunkL _ k)
        rw [ih (by omega)]
        congr 1
        unfold chunkL
        rw [List.drop_append_of_le_length (by omega), List.take_append_of_le_length (by rw [List.length_drop]; omega)]
    exact this N1 (Nat.le_refl _)
  | succ k ih =>
    show blockS (blocksS s (l1 ++ l2) (N1 + k)) (chunkL _ (N1 + k)) = blockS _ (chunkL _ k)
    rw [ih (by omega)]
    congr 1
    unfold chunkL
    rw [List.drop_append, List.drop_eq_nil_of_le (by omega), h1, show 64 * (N1 + k) - 64 * N1 = 64 * k by omega]
    rfl

theorem blocksS_take (l : List UInt8) (s : St) (N m : Nat) (h : 64 * N ≤ m) : blocksS s (l.take m) N = blocksS s l N := by
  induction N with
  | zero => rfl
  | succ k ih =>
    show blockS _ (chunkL _ k) = blockS _ (chunkL _ k)
    rw [ih (by omega)]
    congr 1
    unfold chunkL
    rw [List.drop_take, List.take_take, Nat.min_eq_left (by omega)]

/-- All that is digested; how many blocks it is. -/
def allL (l : List UInt8) : List UInt8 := l ++ padL l.length
def nBlk (n : Nat) : Nat := (n + 9 + padZ n) / 64
/-- The digest of bytes. -/
def shaD (l : List UInt8) : List UInt8 := digL (blocksS st0 (allL l) (nBlk l.length)).l
theorem shaD_len (l : List UInt8) : (shaD l).length = 32 := digL_len _
theorem nBlk_eq (n : Nat) : n + 9 + padZ n = 64 * nBlk n := by
  have := padL_whole n
  rw [padL_len] at this
  unfold nBlk
  omega
theorem shaD_split (l : List UInt8) (N : Nat) (hN : N = l.length / 64) : shaD l = digL (blocksS (blocksS st0 l N) (l.drop (64 * N) ++ padL l.length) (nBlk l.length - N)).l := by
  have hB := nBlk_eq l.length
  have hp := padL_len l.length
  have e : allL l = l.take (64 * N) ++ (l.drop (64 * N) ++ padL l.length) := by
    unfold allL
    rw [← List.append_assoc, List.take_append_drop]
  unfold shaD
  rw [e, show nBlk l.length = N + (nBlk l.length - N) by omega, blocksS_append _ _ N (by rw [List.length_take]; omega) st0 _ (by rw [List.length_append, List.length_drop, hp]; omega), blocksS_take _ _ _ _ (Nat.le_refl _),
    show N + (nBlk l.length - N) - N = nBlk l.length - N by omega]

/-- 32 zeros. -/
def zL : List UInt8 := List.replicate 32 0

/-- Between Sum's two statements. -/
def SumR (W : World) (st : St) (s4 : Value) (wx : World) : Prop :=
  ∃ g, s4 = .pointer (some ⟨g, 0, none⟩) ∧ Blk wx g 39 (st.l.map uv) ∧ W.heap.size < g ∧ Blk wx W.heap.size 24 (zL.map bv) ∧ Below W.heap.size W wx

theorem below_setCells {B : Nat} {w0 : World} (g : Nat) (hg : B ≤ g) : ∀ (vs : List Value) (o : Nat) (w : World), Below B w0 w → Below B w0 (w.setCells g o vs)
  | [], _, _, h => h
  | v :: r, o, w, h => below_setCells g hg r (o + 1) _ (h.setCell (p := ⟨g, o, none⟩) hg v)

theorem Blk.cells_other {g k : Nat} {t : TypeId} {cs : List Value} (hk : g ≠ k) : ∀ (vs : List Value) (o : Nat) (w : World), Blk w g t cs → Blk (w.setCells k o vs) g t cs
  | [], _, _, h => h
  | v :: r, o, w, h => Blk.cells_other hk r (o + 1) _ (h.other ⟨k, o, none⟩ v hk)

/-- A result that is an array in a cell, its cells known. -/
theorem ret_mid {P : Program} {fn : Func} {R : Ending → World → Prop} {a : Act} {w : World} {p : Tmp} {ty : TypeId} (h : fn.results = #[.cell p ty]) (g : Nat) (cs : List Value)
    (hp : a.tmps.getD p undef = .pointer (some ⟨g, 0, none⟩)) (hg : w.rangeAt g 0 cs) (n : Nat) (e : TypeId)
    (hu : P.underlying ty = some (.array n e)) (hi : (P.info? ty).map (·.size) = some cs.length) (hd : a.defers = []) (hR : R (.returned (.agg cs.toArray)) w) : bodyPost P fn R .ret a w := by
  refine bodyPost_ret ?_ hd hR
  have hp' : a.tmps[p]?.getD undef = .pointer (some ⟨g, 0, none⟩) := by simpa using hp
  simp [results, h, hp', asAddr, run_loadVar_mid w g 0 ty cs _ hg hu rfl hi]

theorem cells8 {w : World} {g : Nat} {t : TypeId} {y0 y1 y2 y3 y4 y5 y6 y7 : UInt32} (h : Blk w g t ((⟨y0, y1, y2, y3, y4, y5, y6, y7⟩ : St).l.map uv)) :
    w.cell? ⟨g, 0, none⟩ = some (.int .u32 (uN y0)) ∧ w.cell? ⟨g, 1, none⟩ = some (.int .u32 (uN y1)) ∧ w.cell? ⟨g, 2, none⟩ = some (.int .u32 (uN y2)) ∧ w.cell? ⟨g, 3, none⟩ = some (.int .u32 (uN y3)) ∧
    w.cell? ⟨g, 4, none⟩ = some (.int .u32 (uN y4)) ∧ w.cell? ⟨g, 5, none⟩ = some (.int .u32 (uN y5)) ∧ w.cell? ⟨g, 6, none⟩ = some (.int .u32 (uN y6)) ∧ w.cell? ⟨g, 7, none⟩ = some (.int .u32 (uN y7)) :=
  ⟨h.cell 0, h.cell 1, h.cell 2, h.cell 3, h.cell 4, h.cell 5, h.cell 6, h.cell 7⟩
theorem there32 {w : World} {g : Nat} {t : TypeId} {cs : List Value} (h : Blk w g t cs) (hl : cs.length = 32) : w.there g 0 32 := by
  intro j hj
  refine ⟨?_, h.frozen _⟩
  rw [h.cell, Nat.zero_add, List.getElem?_eq_getElem (by omega)]
  rfl

/-- What Sum's first statement keeps at each of its steps. -/
def SumQ (W : World) (A : Option Addr) (n : Nat) (l : List UInt8) (w : World) : Prop :=
  Byt w W.heap.size A n l ∧ CK w ∧ Blk w W.heap.size 24 (zL.map bv) ∧ Below W.heap.size W w ∧ W.heap.size < w.heap.size
section
variable {W w w' : World} {A : Option Addr} {n : Nat} {l : List UInt8}
theorem SumQ.alloc (h : SumQ W A n l w) (o : Obj) : SumQ W A n l (w.alloc o) := by
  obtain ⟨h1, h2, h3, h4, h5⟩ := h
  exact ⟨h1.alloc (by omega) o, h2.alloc o, h3.alloc o, h4.alloc (by omega) o, by rw [World.size_alloc]; omega⟩
theorem SumQ.drew (h : SumQ W A n l w) : SumQ W A n l w.drew := ⟨h.1, h.2.1, h.2.2.1, below_drew h.2.2.2.1, h.2.2.2.2⟩
theorem SumQ.below (h : SumQ W A n l w) (hb : Below w.heap.size w w') : SumQ W A n l w' := by
  obtain ⟨h1, h2, h3, h4, h5⟩ := h
  exact ⟨h1.below (hb.mono (by omega)), h2.below hb (by omega), h3.below hb h3.lt, bthen h4 hb, Nat.lt_of_lt_of_le h5 hb.size⟩
end

theorem behind_Q (A : Option Addr) (n m c : Nat) (l : List UInt8) (W X : World) (y0 y1 y2 y3 y4 y5 y6 y7 : UInt32) (HY : Hid (blocksS st0 l (n / 64) = ⟨y0, y1, y2, y3, y4, y5, y6, y7⟩)) (HM : Hid (m = 64 * (n / 64))) (hnc : n ≤ c) (hn : n ≤ 35184372088832) (hQ : SumQ W A n l X) :
    Calls Tryd.prog 21 #[st0.v, .slice A m c] X fun e w' => e = .returned (.agg #[.int .u32 (uN y0), .int .u32 (uN y1), .int .u32 (uN y2), .int .u32 (uN y3), .int .u32 (uN y4), .int .u32 (uN y5), .int .u32 (uN y6), .int .u32 (uN y7)]) ∧ SumQ W A n l w' ∧ Below X.heap.size X w' := by
  have hm := HM.out
  have hQ2 := hQ
  obtain ⟨h1, h2, h3, h4, h5⟩ := hQ
  refine (behind_any st0 A m c (n / 64) (l.take m) X ((h1.take (by omega)).more (by omega)) hm (by omega) (by omega) h2).mono ?_
  rintro e w' ⟨rfl, hb⟩
  rw [blocksS_take _ _ _ _ (by omega), HY.out]
  exact ⟨rfl, hQ2.below hb, hb⟩

set_option maxRecDepth 100000 in
set_option maxHeartbeats 2000000 in
theorem shaSum_any (A : Option Addr) (n c : Nat) (l : List UInt8) (W : World) (hl : Byt W W.heap.size A n l) (hnil : A = none → c = 0) (hnc : n ≤ c) (hcm : c ≤ maxLen) (hn : n ≤ 35184372088832) (hC : CK W) :
    Calls Tryd.prog 15 #[.slice A n c] W fun e W' => e = .returned (.agg ((shaD l).map bv).toArray) ∧ Below W.heap.size W W' := by
  obtain ⟨V, hV⟩ : ∃ V, V = (Value.agg ((shaD l).map bv).toArray) := ⟨_, rfl⟩
  rw [← hV]
  have HV := Lib.hid hV
  clear hV
  obtain ⟨m, hm, rm⟩ : ∃ m : Nat, m = 64 * (n / 64) ∧ (n : Int) - (n : Int) % 64 = (m : Int) := ⟨64 * (n / 64), rfl, by omega⟩
  have hmn : m ≤ n := by omega
  have HM := Lib.hid hm
  clear hm
  obtain ⟨⟨y0, y1, y2, y3, y4, y5, y6, y7⟩, hy⟩ : ∃ st, blocksS st0 l (n / 64) = st := ⟨_, rfl⟩
  have HY := Lib.hid hy
  clear hy
  have z32 : (#[.int .u8 0, .int .u8 0, .int .u8 0, .int .u8 0, .int .u8 0, .int .u8 0, .int .u8 0, .int .u8 0, .int .u8 0, .int .u8 0, .int .u8 0, .int .u8 0, .int .u8 0, .int .u8 0, .int .u8 0, .int .u8 0, .int .u8 0, .int .u8 0, .int .u8 0, .int .u8 0, .int .u8 0, .int .u8 0, .int .u8 0, .int .u8 0, .int .u8 0, .int .u8 0, .int .u8 0, .int .u8 0, .int .u8 0, .int .u8 0, .int .u8 0, .int .u8 0] : Array Value) = (zL.map bv).toArray := rfl
  go_enter Tryd.func15, Tryd.ntmps15
  go_upto_region 2 with fail
  have hz := Blk.new (cs := zL.map bv) W 24 _ rfl
  have hQ1 : SumQ W A n l (W.alloc (.cells (zL.map bv).toArray 24)) :=
    ⟨hl.alloc (Nat.le_refl _) _, hC.alloc _, hz, (Below.refl _ _).alloc (Nat.le_refl _) _, by rw [World.size_alloc]; omega⟩
  have HLC := Lib.hid (And.intro hl hC)
  clear hz hl hC
  generalize W.alloc (.cells (zL.map bv).toArray 24) = W1 at hQ1 ⊢
  go_cut [4] from 11 to 15 (fun s4 wx => SumR W (⟨y0, y1, y2, y3, y4, y5, y6, y7⟩ : St) s4 wx)
  case first =>
    go_region_with (first
      | (go_at_call 22; refine (start_any _).mono ?_; rintro e w2 ⟨rfl, hb2⟩;
         (have hQ2 : SumQ W A n l w2 := by first | exact SumQ.below hQ1.drew hb2 | exact SumQ.below (hQ1.alloc _).drew hb2 | exact SumQ.below (hQ1.drew.alloc _) hb2);
         (try have hBa : Blk w2 W1.heap.size 39 (st00.l.map uv) := Blk.below (Blk.drew (Blk.new (cs := st00.l.map uv) W1 39 _ rfl)) hb2 (Blk.lt (Blk.drew (Blk.new (cs := st00.l.map uv) W1 39 _ rfl)))))
      | (go_at_call 21; refine (behind_Q A n m c l W _ y0 y1 y2 y3 y4 y5 y6 y7 HY HM hnc hn ?_).mono ?_; (first | exact hQ2 | exact hQ2.alloc _); rintro e w3 ⟨rfl, hQ3, hb3⟩;
         (first
           | (have hB3 : Blk w3 W1.heap.size 39 (st00.l.map uv) := hBa.below hb3 hBa.lt; have g0 : w3.cell? ⟨W1.heap.size, 0, none⟩ = some (.int .u32 0) := hB3.cell 0; have f0 : w3.frozen? ⟨W1.heap.size, 0, none⟩ = false := hB3.frozen 0; have g1 : w3.cell? ⟨W1.heap.size, 1, none⟩ = some (.int .u32 0) := hB3.cell 1; have f1 : w3.frozen? ⟨W1.heap.size, 1, none⟩ = false := hB3.frozen 1; have g2 : w3.cell? ⟨W1.heap.size, 2, none⟩ = some (.int .u32 0) := hB3.cell 2; have f2 : w3.frozen? ⟨W1.heap.size, 2, none⟩ = false := hB3.frozen 2; have g3 : w3.cell? ⟨W1.heap.size, 3, none⟩ = some (.int .u32 0) := hB3.cell 3; have f3 : w3.frozen? ⟨W1.heap.size, 3, none⟩ = false := hB3.frozen 3; have g4 : w3.cell? ⟨W1.heap.size, 4, none⟩ = some (.int .u32 0) := hB3.cell 4; have f4 : w3.frozen? ⟨W1.heap.size, 4, none⟩ = false := hB3.frozen 4; have g5 : w3.cell? ⟨W1.heap.size, 5, none⟩ = some (.int .u32 0) := hB3.cell 5; have f5 : w3.frozen? ⟨W1.heap.size, 5, none⟩ = false := hB3.frozen 5; have g6 : w3.cell? ⟨W1.heap.size, 6, none⟩ = some (.int .u32 0) := hB3.cell 6; have f6 : w3.frozen? ⟨W1.heap.size, 6, none⟩ = false := hB3.frozen 6; have g7 : w3.cell? ⟨W1.heap.size, 7, none⟩ = some (.int .u32 0) := hB3.cell 7; have f7 : w3.frozen? ⟨W1.heap.size, 7, none⟩ = false := hB3.frozen 7)
           | (have hB3 : Blk w3 w2.heap.size 39 (st00.l.map uv) := Blk.below (Blk.new (cs := st00.l.map uv) w2 39 _ rfl) hb3 (Blk.lt (Blk.new (cs := st00.l.map uv) w2 39 _ rfl)); have g0 : w3.cell? ⟨w2.heap.size, 0, none⟩ = some (.int .u32 0) := hB3.cell 0; have f0 : w3.frozen? ⟨w2.heap.size, 0, none⟩ = false := hB3.frozen 0; have g1 : w3.cell? ⟨w2.heap.size, 1, none⟩ = some (.int .u32 0) := hB3.cell 1; have f1 : w3.frozen? ⟨w2.heap.size, 1, none⟩ = false := hB3.frozen 1; have g2 : w3.cell? ⟨w2.heap.size, 2, none⟩ = some (.int .u32 0) := hB3.cell 2; have f2 : w3.frozen? ⟨w2.heap.size, 2, none⟩ = false := hB3.frozen 2; have g3 : w3.cell? ⟨w2.heap.size, 3, none⟩ = some (.int .u32 0) := hB3.cell 3; have f3 : w3.frozen? ⟨w2.heap.size, 3, none⟩ = false := hB3.frozen 3; have g4 : w3.cell? ⟨w2.heap.size, 4, none⟩ = some (.int .u32 0) := hB3.cell 4; have f4 : w3.frozen? ⟨w2.heap.size, 4, none⟩ = false := hB3.frozen 4; have g5 : w3.cell? ⟨w2.heap.size, 5, none⟩ = some (.int .u32 0) := hB3.cell 5; have f5 : w3.frozen? ⟨w2.heap.size, 5, none⟩ = false := hB3.frozen 5; have g6 : w3.cell? ⟨w2.heap.size, 6, none⟩ = some (.int .u32 0) := hB3.cell 6; have f6 : w3.frozen? ⟨w2.heap.size, 6, none⟩ = false := hB3.frozen 6; have g7 : w3.cell? ⟨w2.heap.size, 7, none⟩ = some (.int .u32 0) := hB3.cell 7; have f7 : w3.frozen? ⟨w2.heap.size, 7, none⟩ = false := hB3.frozen 7)
           | skip)))
    all_goals
      go_wp2_with fail
      go_meet
      first
        | (refine ⟨w3.heap.size, rfl, ?_⟩
           exact ⟨Blk.new (cs := (⟨y0, y1, y2, y3, y4, y5, y6, y7⟩ : St).l.map uv) w3 _ _ rfl, hQ3.2.2.2.2, hQ3.2.2.1.alloc _, (hQ3.alloc _).2.2.2.1⟩)
        | (have hlt := hQ2.2.2.2.2
           refine ⟨w2.heap.size, rfl, ?_⟩
           exact ⟨(blk8 hB3 (St.len _) hQ3.2.2.2.1 (Nat.le_of_lt hlt) _ _ _ _ _ _ _ _).1, hlt, keep8 hQ3.2.2.1 (Nat.ne_of_lt hlt) _ _ _ _ _ _ _ _, (blk8 hB3 (St.len _) hQ3.2.2.2.1 (Nat.le_of_lt hlt) _ _ _ _ _ _ _ _).2⟩)
        | (have hlt := hQ1.2.2.2.2
           refine ⟨W1.heap.size, rfl, ?_⟩
           exact ⟨(blk8 hB3 (St.len _) hQ3.2.2.2.1 (Nat.le_of_lt hlt) _ _ _ _ _ _ _ _).1, hlt, keep8 hQ3.2.2.1 (Nat.ne_of_lt hlt) _ _ _ _ _ _ _ _, (blk8 hB3 (St.len _) hQ3.2.2.2.1 (Nat.le_of_lt hlt) _ _ _ _ _ _ _ _).2⟩)
  case rest =>
    obtain ⟨g, rfl, hB0, hlt, hz0, hb0⟩ := hcut
    obtain ⟨hl0, hC0⟩ := HLC.out
    have hl1 := hl0.below hb0
    have hC1 := hC0.below hb0 hC0.pos
    have hw := hB0.lt
    have hZl : (zL.map bv).length = 32 := by rw [List.length_map]; rfl
    obtain ⟨D, hD⟩ : ∃ D, D = (shaD l).map bv := ⟨_, rfl⟩
    have hDl : D.length = 32 := by rw [hD, List.length_map]; exact shaD_len l
    have hD1 : ∀ v ∈ D, v.oneCell' = true := by rw [hD]; exact bvs_one _
    have hi : (Tryd.prog.info? 24).map (·.size) = some D.length := by rw [hDl]; kernel_rfl
    have hu := Tryd.underlying24
    have HD := Lib.hid hD
    clear hD z32
    have hmn2 : (m : Int) ≤ (n : Int) := by omega
    have hll := hl0.1
    obtain ⟨NB, hNB⟩ : ∃ NB, NB = nBlk n - n / 64 := ⟨_, rfl⟩
    have hn3 : (n - m) + (9 + padZ n) = 64 * NB := by have := nBlk_eq n; have := HM.out; omega
    have hn3b : (n - m) + (9 + padZ n) ≤ 140737488355328 := by have := padZ_lt n; omega
    have HDD := Lib.hid (show ((digL (blocksS (⟨y0, y1, y2, y3, y4, y5, y6, y7⟩ : St) (l.drop m ++ padL n) NB).l).map bv) = D by
      rw [HD.out, shaD_split l (n / 64) (by rw [hll]), HY.out, HM.out, hNB, hll])
    have hp64 := padZ_lt n
    have e1 := hl1.cut hmn hnc
    have hnA : (if c = m then A else A.map (·.add m)) = none → c - m = 0 := by
      intro h
      by_cases hcm' : c = m
      · omega
      · rw [if_neg hcm'] at h
        have : A = none := by cases A with
          | none => rfl
          | some x => cases h
        have := hnil this
        omega
    obtain ⟨A', hA'⟩ : ∃ A', (if c = m then A else A.map (·.add m)) = A' := ⟨_, rfl⟩
    rw [hA'] at e1 hnA
    have hWc : W.heap.size ≤ wc.heap.size := hb0.size
    have HN := Lib.hid hn3
    have HN2 := Lib.hid hp64
    clear hNB hn3 hll hp64 hl0 hC0 hcm
    go_upto_region 3 with fail
    go_region_held3 (fun w' => (w'.cell? ⟨g, 0, none⟩ = some (.int .u32 (uN y0)) ∧ w'.cell? ⟨g, 1, none⟩ = some (.int .u32 (uN y1)) ∧ w'.cell? ⟨g, 2, none⟩ = some (.int .u32 (uN y2)) ∧ w'.cell? ⟨g, 3, none⟩ = some (.int .u32 (uN y3)) ∧
        w'.cell? ⟨g, 4, none⟩ = some (.int .u32 (uN y4)) ∧ w'.cell? ⟨g, 5, none⟩ = some (.int .u32 (uN y5)) ∧ w'.cell? ⟨g, 6, none⟩ = some (.int .u32 (uN y6)) ∧ w'.cell? ⟨g, 7, none⟩ = some (.int .u32 (uN y7))) ∧ w'.there W.heap.size 0 32)
      (first
        | exact ⟨cells8 hB5, there32 hz5 hZl⟩
        | exact ⟨cells8 (Blk.cells_other (Nat.ne_of_gt hlt) _ _ _ hB5), World.there_setCells (there32 hz5 hZl) _ _ _⟩
        | exact ⟨cells8 hB4, there32 hz4 hZl⟩
        | exact ⟨cells8 hB3, there32 hz3 hZl⟩
        | exact ⟨cells8 (hB2.alloc _), there32 (hz2.alloc _) hZl⟩
        | exact ⟨cells8 hB2, there32 hz2 hZl⟩
        | exact ⟨cells8 hB0, there32 hz0 hZl⟩)
      (first
        | (go_at_call 24; refine (pad_any n (by omega) _).mono ?_; rintro e w2 ⟨v2, rfl, hown2, hb2⟩;
           obtain ⟨g2, c2, rfl, hg2, _⟩ := hown2.form (by omega);
           have hbb2 : Below wc.heap.size wc w2 := bthen (below_drew (Below.refl _ _)) hb2;
           have hB2 := hB0.below hbb2 hB0.lt; have hz2 := hz0.below hbb2 hz0.lt; have hl2 := e1.below (hbb2.mono hWc); have hC2 := hC1.below hbb2 hC1.pos; have hW2 := Nat.le_trans hWc hbb2.size)
        | (go_at_call 16;
           refine (concat_any _ (n - m) (c - m) (l.drop m) _ (9 + padZ n) c2 (padL n) w2.heap.size w2.heap.size _ ((hl2.more hW2).alloc (Nat.le_refl _) _) hnA ((Byt.of_own hown2).alloc (Nat.le_refl _) _) (fun h => by cases h) (by rw [World.size_alloc]; omega) (by omega) (by have := HN2.out; omega) (by omega) (by simp [World.cell?_alloc_at]) (by simp [World.cell?_alloc_at])).mono ?_;
           rintro e w3 ⟨v3, rfl, hown3, hb3⟩;
           obtain ⟨A3, c3, rfl, hn3, hl3, hm3⟩ := own_form hown3;
           have hbb3 : Below w2.heap.size w2 w3 := bthen ((Below.refl _ _).alloc (Nat.le_refl _) _) hb3;
           have hB3 := hB2.below hbb3 hB2.lt; have hz3 := hz2.below hbb3 hz2.lt; have hC3 := hC2.below hbb3 hC2.pos)
        | (go_at_call 21;
           refine (behind_any (⟨y0, y1, y2, y3, y4, y5, y6, y7⟩ : St) A3 ((n - m) + (9 + padZ n)) c3 NB (l.drop m ++ padL n) _ (Byt.of_own hown3) HN.out hl3 hn3b hC3).mono ?_;
           rintro e w4 ⟨rfl, hb4⟩;
           have hB4 := hB3.below hb4 hB3.lt; have hz4 := hz3.below hb4 hz3.lt)
        | (go_at_call 23;
           refine (digest_any (blocksS (⟨y0, y1, y2, y3, y4, y5, y6, y7⟩ : St) (l.drop m ++ padL n) NB) _).mono ?_;
           rintro e w5 ⟨rfl, hb5⟩;
           rw [HDD.out];
           have hB5 := hB4.below hb5 hB4.lt; have hz5 := hz4.below hb5 hz4.lt))
    have hall : Below W.heap.size W w5 := (((hb0.trans (hbb2.mono hWc)).trans (hbb3.mono hW2)).trans (hb4.mono (Nat.le_trans hW2 hbb3.size))).trans (hb5.mono (Nat.le_trans (Nat.le_trans hW2 hbb3.size) hb4.size))
    have hret := World.rangeAt_setCells_same w5 W.heap.size 0 D (by rw [hDl]; exact there32 hz5 hZl)
    have hend := below_setCells W.heap.size (Nat.le_refl _) D 0 w5 hall
    generalize w5.setCells W.heap.size 0 D = w6 at hret hend ⊢
    go_wp2_with fail
    try simp only [Exit.inBlock, Exit.then]
    refine ret_mid rfl W.heap.size D rfl hret 32 5 hu hi rfl ⟨?_, hend⟩
    rw [HV.out, HD.out]

end Go.Proofs.YtbpjklafhohlnaaDoor
