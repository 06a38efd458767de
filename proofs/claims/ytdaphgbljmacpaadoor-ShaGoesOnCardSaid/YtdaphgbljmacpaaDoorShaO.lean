/-
  The walk of the law ShaGoesOn; an argument that is a slice of blocks, opened.
-/
import Derived.Test.YtdaphgbljmacpaaDoorShaN
namespace Go.Proofs.YtdaphgbljmacpaaDoor
open Go.RowKit
set_option linter.unusedVariables false
set_option linter.unusedSimpArgs false

/-- The slice value '.slice A n c' reads as these blocks of 64 bytes, in blocks of memory below B. -/
def Blks (w : World) (B : Nat) (A : Option Addr) (n : Nat) (bl : List (List UInt8)) : Prop :=
  bl.length = n ∧ (∀ b ∈ bl, b.length = 64) ∧ (0 < n → ∃ g o, A = some ⟨g, o, none⟩ ∧ g < B ∧ ∀ (i : Nat) (b : List UInt8), bl[i]? = some b → ∀ (j : Nat) (x : UInt8), b[j]? = some x → w.cell? ⟨g, o + 64 * i + j, none⟩ = some (.int .u8 ((x.toNat : Nat) : Int)))
theorem Blks.below {w w' : World} {B n : Nat} {A : Option Addr} {bl : List (List UInt8)} (h : Blks w B A n bl) (hb : Below B w w') : Blks w' B A n bl :=
  ⟨h.1, h.2.1, fun hn => by
    obtain ⟨g, o, e, hg, hc⟩ := h.2.2 hn
    exact ⟨g, o, e, hg, fun i b hi j x hx => (hb.cell (p := ⟨g, o + 64 * i + j, none⟩) hg).trans (hc i b hi j x hx)⟩⟩

section
open Go.ChangeShapes Go.WideShapes Go.ChangeAt
theorem open_blks {H : Type} {enc : TypeId × Value → H} {w : World} {held : Bool} {a : Option Addr} {len cap : Nat} {d : DataW H} {p : List MemPlace}
    (h : DataW.Trod enc Tryd.prog w 0 (fun _ => true) held 38 (.slice a len cap) d p) : ∃ bl, Blks w w.heap.size a len bl ∧ (a = none → cap = 0) ∧ len ≤ cap ∧ cap ≤ maxLen := by
  obtain ⟨fuel, hf⟩ := h
  have c64 : Tryd.prog.cellsOf 31 = 64 := by kernel_rfl
  rcases DataW.trod_slice Tryd.underlying38 hf with ⟨hcs, _⟩ | ⟨ad, len', cap', elems, rest, m, _, hcs, hx, hb, hl, hm, hlen, hel, _, _⟩
  · simp [Value.cells] at hcs
    obtain ⟨rfl, rfl, rfl⟩ := hcs
    exact ⟨[], ⟨rfl, fun _ h => (by cases h), fun h => absurd h (by omega)⟩, fun _ => rfl, Nat.le_refl _, Nat.zero_le _⟩
  · simp [Value.cells] at hcs
    obtain ⟨rfl, rfl, rfl⟩ := hcs
    have each : ∀ i, i < len → ∃ cs : List Value, cs.length = 64 ∧ (∀ j, j < 64 → w.cell? (ad.add (i * 64 + j)) = cs[j]?) ∧ cs = (cs.map asU8).map bv := by
      intro i hi
      have h1 := hel i hi
      rw [c64] at h1
      cases hy : elems[i]? with
      | none =>
        have := List.getElem?_eq_none_iff.1 hy
        omega
      | some y =>
        rw [hy, Option.bind_eq_some_iff] at h1
        obtain ⟨cs, h2, h3⟩ := h1
        obtain ⟨h4, h5⟩ := World.cells?_some h2
        refine ⟨cs, h5.1, fun j hj => ?_, list_u8 h5.1 (row_ints Tryd.underlying31 Tryd.underlying5 (by kernel_rfl) h3)⟩
        rw [← h5.2 j hj]
        rw [Addr.add_add]
    refine ⟨(List.range len).map fun i => (List.range 64).map fun j => asU8 ((w.cell? (ad.add (i * 64 + j))).getD undef), ⟨by simp, ?_, fun hn => ?_⟩, (fun h => by cases h), hl, hm⟩
    · intro b hb
      obtain ⟨i, _, rfl⟩ := List.mem_map.1 hb
      simp
    · obtain ⟨g, o, spot⟩ := ad
      obtain ⟨cs0, hl0, hc0, he0⟩ := each 0 hn
      have hcell0 : w.cell? ((⟨g, o, spot⟩ : Addr).add 0) = some (cs0[0]'(by omega)) := by
        have := hc0 0 (by omega)
        rw [List.getElem?_eq_getElem (by omega)] at this
        simpa using this
      have hspot : spot = none := by simpa [Addr.add] using World.cell?_spot hcell0
      subst hspot
      refine ⟨g, o, rfl, ?_, fun i b hib j x hjx => ?_⟩
      · have := World.block_lt_of_cell? w _ hcell0
        simpa [Addr.add] using this
      · rw [List.getElem?_map] at hib
        obtain ⟨i', hi', rfl⟩ := Option.map_eq_some_iff.1 hib
        obtain ⟨hi1, hi2⟩ := List.getElem?_eq_some_iff.1 hi'
        rw [List.getElem_range] at hi2
        subst hi2
        have hi3 : i < len := by simpa using hi1
        rw [List.getElem?_map] at hjx
        obtain ⟨j', hj', rfl⟩ := Option.map_eq_some_iff.1 hjx
        obtain ⟨hj1, hj2⟩ := List.getElem?_eq_some_iff.1 hj'
        rw [List.getElem_range] at hj2
        subst hj2
        have hj3 : j < 64 := by simpa using hj1
        obtain ⟨cs, hl1, hc1, he1⟩ := each i hi3
        have hj4 := hc1 j hj3
        have he2 : cs[j]? = ((cs.map asU8).map bv)[j]? := congrArg (fun l => l[j]?) he1
        rw [List.getElem?_map, List.getElem?_map, List.getElem?_eq_getElem (by omega)] at he2
        rw [List.getElem?_eq_getElem (by omega)] at hj4
        have he3 : cs[j]'(by omega) = bv (asU8 (cs[j]'(by omega))) := by simpa using he2
        rw [hj4]
        show w.cell? ⟨g, o + 64 * i + j, none⟩ = some (bv (asU8 (cs[j]'(by omega))))
        rw [← he3, ← hj4, Addr.add_lit, show o + (i * 64 + j) = o + 64 * i + j by omega]
end

/-- The state behind blocks. -/
def overS (s : St) (bl : List (List UInt8)) : St := bl.foldl blockS s
theorem overS_snoc (s : St) (bl : List (List UInt8)) (b : List UInt8) : overS s (bl ++ [b]) = blockS (overS s bl) b := by unfold overS; rw [List.foldl_append]; rfl
theorem flat_len (bl : List (List UInt8)) (h : ∀ b ∈ bl, b.length = 64) : bl.flatten.length = 64 * bl.length := by
  induction bl with
  | nil => rfl
  | cons b r ih =>
    rw [List.flatten_cons, List.length_append, h b (by simp), ih (fun x hx => h x (by simp [hx])), List.length_cons]
    omega
theorem overS_blocks (s : St) (bl : List (List UInt8)) (h : ∀ b ∈ bl, b.length = 64) : overS s bl = blocksS s bl.flatten bl.length := by
  induction bl generalizing s with
  | nil => rfl
  | cons b r ih =>
    have hb := h b (by simp)
    have hr := ih (blockS s b) (fun x hx => h x (by simp [hx]))
    have hfl := flat_len r (fun x hx => h x (by simp [hx]))
    show overS (blockS s b) r = _
    rw [hr, List.flatten_cons, List.length_cons, Nat.add_comm r.length 1, blocksS_append b r.flatten 1 (by omega) s r.length (by omega)]
    have h1 : chunkL b 0 = b := by
      unfold chunkL
      rw [Nat.mul_zero, List.drop_zero, List.take_of_length_le (by omega)]
    have h2 : blocksS s b 1 = blockS s b := by
      show blockS s (chunkL b 0) = blockS s b
      rw [h1]
    rw [h2]
/-- A digest goes on block by block. -/
theorem goes_on (bl : List (List UInt8)) (l : List UInt8) (h : ∀ b ∈ bl, b.length = 64) (N : Nat) (hN : 64 * N = l.length + 9 + padZ (64 * bl.length + l.length)) :
    digL (blocksS (overS st0 bl) (l ++ padL (64 * bl.length + l.length)) N).l = shaD (bl.flatten ++ l) := by
  have hfl := flat_len bl h
  have hp := padL_len (64 * bl.length + l.length)
  have hn := nBlk_eq (64 * bl.length + l.length)
  unfold shaD allL
  rw [List.length_append, hfl, overS_blocks st0 bl h, List.append_assoc, show nBlk (64 * bl.length + l.length) = bl.length + N by omega,
    blocksS_append bl.flatten (l ++ padL (64 * bl.length + l.length)) bl.length hfl st0 N (by rw [List.length_append, hp]; omega)]

end Go.Proofs.YtdaphgbljmacpaaDoor
