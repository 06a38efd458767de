/-
  The state behind whole blocks: package sha's behind.
-/
import Derived.Test.YtbpjklafhohlnaaDoorShaF
import Derived.Test.YtbpjklafhohlnaaDoorRound
namespace Go.Proofs.YtbpjklafhohlnaaDoor
open Go.RowKit Go.Shelf
set_option linter.unusedVariables false
set_option linter.unusedSimpArgs false

attribute [local go_sem] Oper.semAt_some

/-- The block number x of the bytes l. -/
def chunkL (l : List UInt8) (x : Nat) : List UInt8 := (l.drop (64 * x)).take 64
/-- The state behind the first k blocks. -/
def blocksS (s : St) (l : List UInt8) : Nat → St
  | 0 => s
  | k + 1 => blockS (blocksS s l k) (chunkL l k)
def foldB (s : St) (l : List UInt8) {N : Nat} (xs : List (Fin N)) : St := xs.foldl (fun s x => blockS s (chunkL l x.val)) s
theorem foldB_snoc (s : St) (l : List UInt8) {N : Nat} (xs : List (Fin N)) (x : Fin N) : foldB s l (xs ++ [x]) = blockS (foldB s l xs) (chunkL l x.val) := by
  unfold foldB; rw [List.foldl_append]; rfl
theorem foldB_upto (s : St) (l : List UInt8) {N k : Nat} (h : k ≤ N) : foldB s l (upto N k) = blocksS s l k := by
  induction k with
  | zero => unfold upto; rw [List.take_zero]; rfl
  | succ k ih => rw [upto_succ (by omega), foldB_snoc, ih (by omega)]; rfl
theorem foldB_all (s : St) (l : List UInt8) (N : Nat) : foldB s l (List.finRange N) = blocksS s l N := by
  rw [← foldB_upto s l (Nat.le_refl N)]
  unfold upto
  rw [List.take_of_length_le (by simp)]

theorem St.len (s : St) : (s.l.map uv).length = 8 := rfl
theorem keptBlk {W W' : World} {row : Option Nat} {g : Nat} {t : TypeId} {cs : List Value} (h : Blk W g t cs) (hg : W.grownBy W' row) (hr : ∀ r, row = some r → ∃ o : Obj, W.heap[r]? = some o ∧ o.isCells = false) : Blk W' g t cs := by
  refine (hg.block g h.lt ?_).trans h
  intro e
  obtain ⟨o, ho, hc⟩ := hr g e.symm
  rw [h] at ho
  cases ho
  cases hc

/-- What lies between two rounds. -/
def BehI (s : St) (l : List UInt8) (W0 : World) {N : Nat} (pre : List (Fin N)) (W : World) : Prop :=
  (Blk W W0.heap.size 39 ((foldB s l pre).l.map uv) ∧ Blk W (W0.heap.size + 1) 39 (st00.l.map uv)) ∧ Below W0.heap.size W0 W ∧ W0.heap.size + 4 ≤ W.heap.size
theorem BehI.own (s : St) (l : List UInt8) (W0 : World) {N B : Nat} (hB : W0.heap.size ≤ B) : OwnFrom B (fun (pre : List (Fin N)) W => BehI s l W0 pre W) :=
  OwnFrom.and (Own.from (fun s A B row hs hg hr => ⟨keptBlk hs.1 hg hr, keptBlk hs.2 hg hr⟩) _) (OwnFrom.and (ownFrom_below (Nat.le_refl _) hB) (fun _ _ _ _ hs hg _ => Nat.le_trans hs hg.size))

theorem keeps_step {W w2 : World} {g : Nat} {t : TypeId} {cs ds : List Value} (hb : Below W.heap.size W w2) (h : Blk W g t cs) : KeepsOthers W (w2.setRow g ds.toArray) := by
  refine ⟨by rw [size_setRow]; exact hb.size, fun k o hk ho => ?_⟩
  have hlt := (Array.getElem?_eq_some_iff.1 hk).1
  by_cases e : k = g
  · subst e
    rw [h] at hk
    cases hk
    cases ho
  · unfold World.setRow
    show (w2.heap.modify g _)[k]? = _
    rw [Array.getElem?_modify, if_neg (fun h => e h.symm), hb.block k hlt]
    exact hk
theorem keep2_step {W w2 : World} {g Bs Bn : Nat} {ds : List Value} (hb : Below W.heap.size W w2) (h1 : Bs < W.heap.size) (h2 : Bn < W.heap.size) (e1 : Bs ≠ g) (e2 : Bn ≠ g) : Keep2 Bs Bn W (w2.setRow g ds.toArray) := by
  unfold Keep2 World.setRow
  refine ⟨?_, ?_⟩
  · show (w2.heap.modify g _)[Bs]? = _
    rw [Array.getElem?_modify, if_neg (fun h => e1 h.symm), hb.block _ h1]
  · show (w2.heap.modify g _)[Bn]? = _
    rw [Array.getElem?_modify, if_neg (fun h => e2 h.symm), hb.block _ h2]

/-- '[64]byte(s)' of 64 bytes: the array's place. -/
theorem array_at (A : Option Addr) (c : Nat) (w : World) : (Instr.arrayAt 31 (.slice A 64 c)).run Tryd.prog w = .ok (.pointer A) w := by
  unfold Instr.arrayAt
  simp [Sem.run_bind, run_underlying Tryd.underlying31, Result.andThen]

set_option maxRecDepth 100000 in
set_option maxHeartbeats 2000000 in
theorem behind_any (s : St) (A : Option Addr) (n c N : Nat) (l : List UInt8) (W : World) (hl : Byt W W.heap.size A n l) (hN : n = 64 * N) (hnc : n ≤ c) (hc : n ≤ 140737488355328) (hC : CK W) :
    Calls Tryd.prog 21 #[s.v, .slice A n c] W fun e W' => e = .returned (blocksS s l N).v ∧ Below W.heap.size W W' := by
  rw [← foldB_all s l N]
  refine (callsIn_wide (n := 3)).1 ?_
  refine callsIn_of_wp_marks Tryd.func21 rfl trivial ?_ rfl
  obtain ⟨V, hV⟩ : ∃ V, V = (foldB s l (List.finRange N)).v := ⟨_, rfl⟩
  rw [← hV, St.v_l s]
  have HV := Lib.hid hV
  clear hV
  have HN := Lib.hid hN
  clear hN
  have z00 : (#[.int .u32 0, .int .u32 0, .int .u32 0, .int .u32 0, .int .u32 0, .int .u32 0, .int .u32 0, .int .u32 0] : Array Value) = (st00.l.map uv).toArray := rfl
  simp only [Tryd.ntmps21, List.size_toArray, List.length_cons, List.length_nil, Nat.reduceAdd, Nat.reduceSub, Array.replicate_succ, Array.replicate_zero, List.push_toArray, List.append_toArray, List.nil_append, List.cons_append]
  refine wpIn_wide.2 ?_
  go_wp2_with (go_at_call 28; refine (chunk_any _ _ _ _).mono ?_; rintro e w' ⟨rfl, rfl⟩)
  have b1 := ((Blk.new (cs := s.l.map uv) W 39 _ rfl).alloc (.cells (st00.l.map uv).toArray 39))
  have b2 := (Blk.new (cs := st00.l.map uv) (W.alloc (.cells (s.l.map uv).toArray 39)) 39 _ rfl)
  rw [World.size_alloc] at b2
  have hL : Below W.heap.size W ((W.alloc (.cells (s.l.map uv).toArray 39)).alloc (.cells (st00.l.map uv).toArray 39)) :=
    ((Below.refl W.heap.size W).alloc (Nat.le_refl _) _).alloc (by simp) _
  have hs2 : ((W.alloc (.cells (s.l.map uv).toArray 39)).alloc (.cells (st00.l.map uv).toArray 39)).heap.size = W.heap.size + 1 + 1 := by rw [World.size_alloc, World.size_alloc]
  generalize ((W.alloc (.cells (s.l.map uv).toArray 39)).alloc (.cells (st00.l.map uv).toArray 39)) = W2 at b1 b2 hL hs2 ⊢
  have hI : BehI s l W ([] : List (Fin N)) ((W2.alloc (.cells #[.slice A n c] 22)).alloc (.cells #[.int .i64 64] 3)) :=
    ⟨⟨(b1.alloc _).alloc _, (b2.alloc _).alloc _⟩, (hL.alloc hL.size _).alloc (by simp; have := hL.size; omega) _, by rw [World.size_alloc, World.size_alloc, hs2]; exact Nat.le_refl _⟩
  have hcs : ((W2.alloc (.cells #[.slice A n c] 22)).alloc (.cells #[.int .i64 64] 3)).cell? ⟨W.heap.size + 1 + 1, 0, none⟩ = some (.slice A n c) := by rw [← hs2]; simp [World.cell?_alloc_at]
  have hcn : ((W2.alloc (.cells #[.slice A n c] 22)).alloc (.cells #[.int .i64 64] 3)).cell? ⟨W.heap.size + 1 + 1 + 1, 0, none⟩ = some (.int .i64 64) := by rw [← hs2]; simp [World.cell?_alloc_at]
  have hsz : ((W2.alloc (.cells #[.slice A n c] 22)).alloc (.cells #[.int .i64 64] 3)).heap.size = W.heap.size + 1 + 1 + 1 + 1 := by rw [World.size_alloc, World.size_alloc, hs2]
  generalize ((W2.alloc (.cells #[.slice A n c] 22)).alloc (.cells #[.int .i64 64] 3)) = W4 at hI hcs hcn hsz ⊢
  obtain ⟨g, o, hA⟩ : ∃ g o, 0 < N → A = some ⟨g, o, none⟩ := by
    by_cases h : 0 < N
    · obtain ⟨g, o, e, _⟩ := hl.2 (by have := HN.out; omega)
      exact ⟨g, o, fun _ => e⟩
    · exact ⟨0, 0, fun h' => absurd h' h⟩
  refine (wpIn_wide (n := 3)).1 ?_
  refine wpIn_rangeFunc_ownF rfl (by omega) (gf := 30) (lb := #[.pointer (some ⟨W.heap.size + 1 + 1, 0, none⟩), .pointer (some ⟨W.heap.size + 1 + 1 + 1, 0, none⟩)]) rfl trivial
    (enters_of Tryd.func30 (by kernel_rfl) rfl)
    (chunk_stops (3 - 1) (by omega) (W.heap.size + 1 + 1) (W.heap.size + 1 + 1 + 1) N n c A g o hA HN.out hnc hc W4 (by omega) (by omega) hcs hcn)
    (fun h k => h.trans k)
    (fun X l o o' hl h _ _ => ⟨World.putObj_heap_other (by rw [hsz] at hl; omega), World.putObj_heap_other (by rw [hsz] at hl; omega)⟩)
    (Below.refl _ _) (fun _ => rfl)
    (fun pre X => BehI s l W pre X) (fun _ _ _ => False) (BehI.own s l W (by omega)) (fun _ _ _ _ _ hs _ _ => hs) hI
    (fun x => { tmps := #[.agg (s.l.map uv).toArray, .slice A n c, .pointer (some ⟨W.heap.size, 0, none⟩), undef, .pointer (some ⟨W.heap.size + 1, 0, none⟩), .slice (some ⟨g, o + 64 * x.val, none⟩) 64 64, .slice A n c,
      .func (.func 30) #[] #[.pointer (some ⟨W.heap.size + 1 + 1, 0, none⟩), .pointer (some ⟨W.heap.size + 1 + 1 + 1, 0, none⟩)], .slice (some ⟨g, o + 64 * x.val, none⟩) 64 64, undef, undef, undef, undef, undef, undef], defers := [] }) ?assign ?body ?done ?stop
  case assign =>
    intro l x W K hK
    gi_wp2
    exact hK
  case body =>
    rintro lr pre x X ⟨⟨h1, h2⟩, h3, h4⟩ _
    have hXs := h3.size
    have hlx : ((l.drop (64 * x.val)).take 64).length = 64 := by
      rw [List.length_take, List.length_drop, hl.1, HN.out]
      have := x.isLt
      omega
    have hrange : X.drew.rangeAt g (o + 64 * x.val) ((chunkL l x.val).map bv) := by
      intro j v hv
      obtain ⟨g', o', e, hg, hcell⟩ := hl.2 (by rw [HN.out]; have := x.isLt; omega)
      rw [hA (by have := x.isLt; omega)] at e
      cases e
      rw [List.getElem?_map] at hv
      obtain ⟨y, hy, rfl⟩ := Option.map_eq_some_iff.1 hv
      unfold chunkL at hy
      rw [List.getElem?_take] at hy
      split at hy
      · rw [List.getElem?_drop] at hy
        rw [Nat.add_assoc]
        exact (h3.cell (p := ⟨g, o + (64 * x.val + j), none⟩) hg).trans (hcell _ _ hy)
      · cases hy
    have harr := array_at
    have HS := Lib.hid (foldB_snoc s l pre x)
    have hCX : CK X.drew := CK.drewN (hC.below h3 hC.pos) 1
    have HI := Lib.hid (show BehI s l W pre X from ⟨⟨h1, h2⟩, h3, h4⟩)
    generalize foldB s l pre = tt at h1 HS
    obtain ⟨x0, x1, x2, x3, x4, x5, x6, x7⟩ := tt
    have e0 : X.cell? ⟨W.heap.size, 0, none⟩ = some (.int .u32 (uN x0)) := h1.cell 0
    have e1 : X.cell? ⟨W.heap.size, 1, none⟩ = some (.int .u32 (uN x1)) := h1.cell 1
    have e2 : X.cell? ⟨W.heap.size, 2, none⟩ = some (.int .u32 (uN x2)) := h1.cell 2
    have e3 : X.cell? ⟨W.heap.size, 3, none⟩ = some (.int .u32 (uN x3)) := h1.cell 3
    have e4 : X.cell? ⟨W.heap.size, 4, none⟩ = some (.int .u32 (uN x4)) := h1.cell 4
    have e5 : X.cell? ⟨W.heap.size, 5, none⟩ = some (.int .u32 (uN x5)) := h1.cell 5
    have e6 : X.cell? ⟨W.heap.size, 6, none⟩ = some (.int .u32 (uN x6)) := h1.cell 6
    have e7 : X.cell? ⟨W.heap.size, 7, none⟩ = some (.int .u32 (uN x7)) := h1.cell 7
    have hlc : ((chunkL l x.val).map bv).length = 64 := by rw [List.length_map]; exact hlx
    generalize hck : chunkL l x.val = ck at hrange HS hlc
    have HCK := Lib.hid hck
    clear hck
    gi_wp2
    refine round_tail lr _ 4 (by kernel_rfl) (by kernel_rfl) (plainOps_spec (by kernel_rfl)) ?hq ?_
    case hq => rintro ⟨a, w, h⟩; exact h
    simp only [List.take_succ_cons, List.take_zero, List.drop_succ_cons, List.drop_zero]
    still_step
    still_step
    still_step
    refine still_ld rfl 31 _ rfl g (o + 64 * x.val) rfl (ck.map bv) 64 5 hrange Tryd.underlying31 (by rw [hlc]; kernel_rfl) ?_
    refine wpStill_nil ?_
    go_wp2_with fail
    refine (block_any ⟨x0, x1, x2, x3, x4, x5, x6, x7⟩ ck (by rw [List.length_map] at hlc; exact hlc) _ hCX).mono ?_
    rintro e w2 ⟨rfl, hb2⟩
    generalize blockS ⟨x0, x1, x2, x3, x4, x5, x6, x7⟩ ck = q at HS ⊢
    rw [St.v_l]
    have hb3 : Below X.heap.size X w2 := bthen (below_drew (Below.refl _ _)) hb2
    have h1' := h1.below hb3 h1.lt
    have h2' := h2.below hb3 h2.lt
    have HB3 := Lib.hid hb3
    clear hb2 hb3 e0 e1 e2 e3 e4 e5 e6 e7
    go_wp2_with (refine st_blk rfl 39 _ _ rfl W.heap.size (q.l.map uv) rfl rfl 39 _ h1' (by rw [St.len]; kernel_rfl) ((St.len _).trans (St.len _).symm) (uvs_one _) ?_)
    refine ⟨keeps_step HB3.out h1, keep2_step HB3.out (by omega) (by omega) (by omega) (by omega), ⟨⟨?_, h2'.row_other _ _ (by omega)⟩, below_row (bthen h3 HB3.out) (by omega) _, ?_⟩⟩
    · rw [HS.out]
      exact h1'.row _
    · rw [size_setRow]
      exact Nat.le_trans h4 HB3.out.size
  case done =>
    rintro D xs X hD rfl ⟨⟨h1, h2⟩, h3, h4⟩ hK
    generalize foldB s l (List.finRange N) = tt at h1 HV
    go_wp2_with (first
      | (refine ld_blk rfl 39 _ rfl W.heap.size rfl 39 (tt.l.map uv) h1 8 38 Tryd.underlying39 (by kernel_rfl) ?_)
      | (refine st_blk rfl 39 _ _ rfl (W.heap.size + 1) (tt.l.map uv) rfl rfl 39 _ h2 (by rw [St.len]; kernel_rfl) ((St.len _).trans (St.len _).symm) (uvs_one _) ?_))
    have hD' : D ≠ W.heap.size + 1 := by rw [hsz] at hD; omega
    have hD0 : D ≠ W.heap.size := by rw [hsz] at hD; omega
    have hK' : (X.setRow (W.heap.size + 1) (tt.l.map uv).toArray).heap[D]? = some (.deferred (some [])) := by
      unfold World.setRow
      show (X.heap.modify _ _)[D]? = _
      rw [Array.getElem?_modify, if_neg (fun h => hD' h.symm)]
      exact hK
    have hR := h2.row (tt.l.map uv)
    have hBl : Below W.heap.size W (X.setRow (W.heap.size + 1) (tt.l.map uv).toArray) := below_row h3 (by omega) _
    generalize X.setRow (W.heap.size + 1) (tt.l.map uv).toArray = X1 at hK' hR hBl ⊢
    refine ⟨by simp, .inl ⟨_, _, rfl, run_takeDeferred hK', ?_⟩⟩
    have hR2 : Blk (X1.putObj D (.deferred none)) (W.heap.size + 1) 39 (tt.l.map uv) := (World.putObj_heap_other (fun h => hD' h.symm)).trans hR
    refine ⟨_, results_cell_row rfl _ _ (W.heap.size + 1) 39 (tt.l.map uv).toArray (0, 0) _ rfl hR2 Tryd.underlying39 rfl (by rw [List.size_toArray, St.len]; kernel_rfl), ?_, ?_⟩
    · rw [HV.out]; rfl
    · exact hBl.trans (belowK_b (w := W) (Nat.le_refl _) X1 D _ _ (by rw [hsz] at hD; omega) hK' rfl rfl)
  case stop =>
    rintro D c pre X _ _ h _
    exact h.elim

end Go.Proofs.YtbpjklafhohlnaaDoor
