/-
  The walk of the law ShaBlocks; arguments that are arrays of numbers, opened.
-/
import Derived.Test.YtdaphgbljmacpaaDoorShaL
import Derived.Test.YtdaphgbljmacpaaDoorShaK
import Derived.DeepKeys
namespace Go.Proofs.YtdaphgbljmacpaaDoor
open Go.RowKit
set_option linter.unusedVariables false
set_option linter.unusedSimpArgs false

section
open Go.ChangeShapes Go.WideShapes Go.ChangeAt
theorem row_ints {H : Type} {enc : TypeId × Value → H} {P : Program} {W : World} {base : Nat} {sp : Nat → Bool} {held : Bool} {fuel n : Nat} {t e : TypeId} {k : IntKind} {cs : List Value} {y : DataW H × List MemPlace}
    (ht : P.underlying t = some (.array n e)) (he : P.underlying e = some (.int k)) (hc : P.cellsOf e = 1) (h : DataW.trod enc P W base sp held fuel t cs = some y) :
    ∀ i, i < n → ∃ z, cs[i]? = some (.int k z) ∧ (Lit.int k z).wf = true := by
  obtain ⟨xs, m, rfl, _, _, hn, hel⟩ := DataW.trod_array ht h
  intro i hi
  have h1 := hel i hi
  rw [hc, Nat.mul_one] at h1
  cases hx : xs[i]? with
  | none =>
    have := List.getElem?_eq_none_iff.1 hx
    omega
  | some x =>
    rw [hx] at h1
    obtain ⟨z, e1, _, hw⟩ := DataW.trod_int he h1
    refine ⟨z, ?_, hw⟩
    have := congrArg (fun l => l[0]?) e1
    simp only [List.getElem?_take, List.getElem?_drop] at this
    simpa using this

def asU8 : Value → UInt8
  | .int _ z => UInt8.ofNat z.toNat
  | _ => 0
def asU32 : Value → UInt32
  | .int _ z => UInt32.ofNat z.toNat
  | _ => 0
theorem list_u8 {cs : List Value} {n : Nat} (hl : cs.length = n) (h : ∀ i, i < n → ∃ z, cs[i]? = some (.int .u8 z) ∧ (Lit.int .u8 z).wf = true) : cs = (cs.map asU8).map bv := by
  apply List.ext_getElem?
  intro i
  by_cases hi : i < n
  · obtain ⟨z, hz, hw⟩ := h i hi
    obtain ⟨b0, b1⟩ := bounds_u8 hw
    rw [List.getElem?_map, List.getElem?_map, hz]
    show some (Value.int IntKind.u8 z) = some (bv (UInt8.ofNat z.toNat))
    unfold bv
    rw [ofNat_toNat_u8 z b0 b1]
  · rw [List.getElem?_eq_none_iff.2 (by omega), List.getElem?_eq_none_iff.2 (by rw [List.length_map, List.length_map]; omega)]
theorem list_u32 {cs : List Value} {n : Nat} (hl : cs.length = n) (h : ∀ i, i < n → ∃ z, cs[i]? = some (.int .u32 z) ∧ (Lit.int .u32 z).wf = true) : cs = (cs.map asU32).map uv := by
  apply List.ext_getElem?
  intro i
  by_cases hi : i < n
  · obtain ⟨z, hz, hw⟩ := h i hi
    obtain ⟨b0, b1⟩ := bounds_u32 hw
    rw [List.getElem?_map, List.getElem?_map, hz]
    show some (Value.int IntKind.u32 z) = some (uv (UInt32.ofNat z.toNat))
    unfold uv uN
    rw [UInt32.toNat_ofNat', Nat.mod_eq_of_lt (by omega)]
    congr 2
    omega
  · rw [List.getElem?_eq_none_iff.2 (by omega), List.getElem?_eq_none_iff.2 (by rw [List.length_map, List.length_map]; omega)]

theorem open_arr64 {H : Type} {enc : TypeId × Value → H} {W : World} {base : Nat} {sp : Nat → Bool} {held : Bool} {v : Value} {d : DataW H} {p : List MemPlace}
    (hv : Value.okWide Tryd.prog W .any base 31 v) (h : DataW.Trod enc Tryd.prog W 0 sp held 31 v d p) : ∃ b : List UInt8, b.length = 64 ∧ v = .agg (b.map bv).toArray := by
  obtain ⟨cs, rfl, hsz, _⟩ : ∃ cs, v = .agg cs ∧ cs.size = Tryd.prog.cellsOf 31 ∧ Row.okWide Tryd.prog W .any base 31 cs := by
    simpa [Value.okWide, Tryd.underlying31] using hv
  rw [show Tryd.prog.cellsOf 31 = 64 by kernel_rfl] at hsz
  obtain ⟨fuel, hf⟩ := h
  have hl : cs.toList.length = 64 := by simpa using hsz
  have e := list_u8 hl (row_ints Tryd.underlying31 Tryd.underlying5 (by kernel_rfl) hf)
  exact ⟨cs.toList.map asU8, by rw [List.length_map, hl], by rw [← e]⟩

theorem st_of {l : List UInt32} (h : l.length = 8) : ∃ s : St, s.l = l := by
  match l, h with
  | [a, b, c, d, e, f, g, i], _ => exact ⟨⟨a, b, c, d, e, f, g, i⟩, rfl⟩

theorem open_st8 {H : Type} {enc : TypeId × Value → H} {W : World} {base : Nat} {sp : Nat → Bool} {held : Bool} {v : Value} {d : DataW H} {p : List MemPlace}
    (hv : Value.okWide Tryd.prog W .any base 30 v) (h : DataW.Trod enc Tryd.prog W 0 sp held 30 v d p) : ∃ s : St, v = s.v := by
  obtain ⟨cs, rfl, hsz, _⟩ : ∃ cs, v = .agg cs ∧ cs.size = Tryd.prog.cellsOf 30 ∧ Row.okWide Tryd.prog W .any base 30 cs := by
    simpa [Value.okWide, Tryd.underlying30] using hv
  rw [show Tryd.prog.cellsOf 30 = 8 by kernel_rfl] at hsz
  obtain ⟨fuel, hf⟩ := h
  have hl : cs.toList.length = 8 := by simpa using hsz
  have e := list_u32 hl (row_ints Tryd.underlying30 Tryd.underlying29 (by kernel_rfl) hf)
  obtain ⟨s, hs⟩ := st_of (l := cs.toList.map asU32) (by rw [List.length_map, hl])
  exact ⟨s, by rw [St.v_l, hs, ← e]⟩
end

theorem u32_wf (x : UInt32) : (Lit.int .u32 (uN x)).wf = true := by
  have h1 := uN_lo x
  have h2 := uN_hi x
  simp [Lit.wf, IntKind.min, IntKind.max, IntKind.signed, IntKind.bits]
  omega
theorem lits8 (s : St) : Tryd.prog.keyLits 2 30 s.v.cells.toList = some [.int .u32 (uN s.a), .int .u32 (uN s.b), .int .u32 (uN s.c), .int .u32 (uN s.d), .int .u32 (uN s.e), .int .u32 (uN s.f), .int .u32 (uN s.g), .int .u32 (uN s.h)] := by
  have c1 : Tryd.prog.cellsOf 29 = 1 := by kernel_rfl
  have c8 : Tryd.prog.cellsOf 30 = 8 := by kernel_rfl
  simp [Program.keyLits, Tryd.underlying30, Tryd.underlying29, c1, c8, St.v, uv, Value.cells, u32_wf, show List.range 8 = [0, 1, 2, 3, 4, 5, 6, 7] from rfl]
/-- A state is equal to itself. -/
theorem equal8 (s : St) (w : World) : (Op.equalIn 10000 30 s.v s.v).run Tryd.prog w = .ok true w := by
  obtain ⟨r, hr, hiff⟩ := run_equalIn_deep (P := Tryd.prog) 9998 2 30 (by kernel_rfl) w 2 2 s.v s.v _ _ (by kernel_rfl) (by kernel_rfl) (lits8 s) (lits8 s)
  have : r = true := by rw [hiff]
  rw [← this]
  exact hr

theorem range_blk {w : World} {g : Nat} {t : TypeId} {cs : List Value} (h : Blk w g t cs) : w.rangeAt g 0 cs := by
  intro j v hv
  rw [Nat.zero_add, h.cell]
  exact hv

set_option maxRecDepth 100000 in
set_option maxHeartbeats 2000000 in
theorem shaBlocks_law (s : St) (b : List UInt8) (W : World) (hb : b.length = 64) (hC : CK W) :
    Calls Tryd.prog 4 #[s.v, .agg (b.map bv).toArray] W fun e W' => e = .returned (.bool true) ∧ Below W.heap.size W W' := by
  obtain ⟨y0, y1, y2, y3, y4, y5, y6, y7⟩ := s
  have hE0 : ∀ w : World, (Op.equalIn 10000 30 (.agg #[.int .u32 1779033703, .int .u32 3144134277, .int .u32 1013904242, .int .u32 2773480762, .int .u32 1359893119, .int .u32 2600822924, .int .u32 528734635, .int .u32 1541459225]) (.agg #[.int .u32 1779033703, .int .u32 3144134277, .int .u32 1013904242, .int .u32 2773480762, .int .u32 1359893119, .int .u32 2600822924, .int .u32 528734635, .int .u32 1541459225])).run Tryd.prog w = .ok true w := equal8 st0
  obtain ⟨⟨z0, z1, z2, z3, z4, z5, z6, z7⟩, hq⟩ : ∃ q, q = blockS ⟨y0, y1, y2, y3, y4, y5, y6, y7⟩ b := ⟨_, rfl⟩
  have hE1 : ∀ w : World, (Op.equalIn 10000 30 (.agg #[.int .u32 (uN z0), .int .u32 (uN z1), .int .u32 (uN z2), .int .u32 (uN z3), .int .u32 (uN z4), .int .u32 (uN z5), .int .u32 (uN z6), .int .u32 (uN z7)]) (.agg #[.int .u32 (uN z0), .int .u32 (uN z1), .int .u32 (uN z2), .int .u32 (uN z3), .int .u32 (uN z4), .int .u32 (uN z5), .int .u32 (uN z6), .int .u32 (uN z7)])).run Tryd.prog w = .ok true w := equal8 ⟨z0, z1, z2, z3, z4, z5, z6, z7⟩
  have HQ := Lib.hid (show (blockS ⟨y0, y1, y2, y3, y4, y5, y6, y7⟩ b).v = .agg #[.int .u32 (uN z0), .int .u32 (uN z1), .int .u32 (uN z2), .int .u32 (uN z3), .int .u32 (uN z4), .int .u32 (uN z5), .int .u32 (uN z6), .int .u32 (uN z7)] by rw [← hq]; rfl)
  have H0 := Lib.hid (show st0.v = .agg #[.int .u32 1779033703, .int .u32 3144134277, .int .u32 1013904242, .int .u32 2773480762, .int .u32 1359893119, .int .u32 2600822924, .int .u32 528734635, .int .u32 1541459225] from rfl)
  clear hq
  have hbm : (b.map bv).length = 64 := by rw [List.length_map, hb]
  have hb1 : ∀ v ∈ b.map bv, v.oneCell' = true := bvs_one b
  have hi : (Tryd.prog.info? 31).map (·.size) = some (b.map bv).length := by rw [hbm]; kernel_rfl
  have hu := Tryd.underlying31
  have hB0 := ((Blk.new (cs := (⟨y0, y1, y2, y3, y4, y5, y6, y7⟩ : St).l.map uv) W 30 _ rfl).alloc (.cells (b.map bv).toArray 31))
  have hX0 := (Blk.new (cs := b.map bv) (W.alloc (.cells ((⟨y0, y1, y2, y3, y4, y5, y6, y7⟩ : St).l.map uv).toArray 30)) 31 _ rfl)
  rw [World.size_alloc] at hX0
  have hL0 : Below W.heap.size W ((W.alloc (.cells ((⟨y0, y1, y2, y3, y4, y5, y6, y7⟩ : St).l.map uv).toArray 30)).alloc (.cells (b.map bv).toArray 31)) :=
    ((Below.refl W.heap.size W).alloc (Nat.le_refl _) _).alloc (by simp) _
  rw [St.v_l]
  go_enter Tryd.func4, Tryd.ntmps4
  go_upto_region 1 with fail
  generalize (W.alloc (.cells ((⟨y0, y1, y2, y3, y4, y5, y6, y7⟩ : St).l.map uv).toArray 30)).alloc (.cells (b.map bv).toArray 31) = W1 at hB0 hX0 hL0 ⊢
  have hC0 := hC.below hL0 hC.pos
  go_region_held3 (fun w' => (w'.cell? ⟨W.heap.size, 0, none⟩ = some (.int .u32 (uN y0)) ∧ w'.cell? ⟨W.heap.size, 1, none⟩ = some (.int .u32 (uN y1)) ∧ w'.cell? ⟨W.heap.size, 2, none⟩ = some (.int .u32 (uN y2)) ∧ w'.cell? ⟨W.heap.size, 3, none⟩ = some (.int .u32 (uN y3)) ∧
      w'.cell? ⟨W.heap.size, 4, none⟩ = some (.int .u32 (uN y4)) ∧ w'.cell? ⟨W.heap.size, 5, none⟩ = some (.int .u32 (uN y5)) ∧ w'.cell? ⟨W.heap.size, 6, none⟩ = some (.int .u32 (uN y6)) ∧ w'.cell? ⟨W.heap.size, 7, none⟩ = some (.int .u32 (uN y7))) ∧ w'.rangeAt (W.heap.size + 1) 0 (b.map bv))
    (first
      | exact ⟨cells8 hB6, range_blk hX6⟩
      | exact ⟨cells8 hB5, range_blk hX5⟩
      | exact ⟨cells8 hB4, range_blk hX4⟩
      | exact ⟨cells8 hB3, range_blk hX3⟩
      | exact ⟨cells8 hB2, range_blk hX2⟩
      | exact ⟨cells8 hB0, range_blk hX0⟩)
    (first
      | (go_at_call 11; refine (block_any (⟨y0, y1, y2, y3, y4, y5, y6, y7⟩ : St) b hb _ (hC0.drewN 1)).mono ?_; rintro e w2 ⟨rfl, hb2⟩; rw [HQ.out];
         have hL2 : Below W1.heap.size W1 w2 := bthen (below_drew (Below.refl _ _)) hb2;
         have hB2 := hB0.below hL2 hB0.lt; have hX2 := hX0.below hL2 hX0.lt; have hC2 := hC0.below hL2 hC0.pos)
      | (go_at_call 12; refine (refBlock_any (⟨y0, y1, y2, y3, y4, y5, y6, y7⟩ : St) _ 64 64 b _ (Byt.of_blk hX2 hb) (by decide)).mono ?_; rintro e w3 ⟨rfl, hL3⟩; rw [HQ.out];
         have hB3 := hB2.below hL3 hB2.lt; have hX3 := hX2.below hL3 hX2.lt; have hC3 := hC2.below hL3 hC2.pos)
      | (go_at_call 13; refine (start_any _).mono ?_; rintro e w4 ⟨rfl, hL4⟩; rw [H0.out];
         have hB4 := hB3.below hL4 hB3.lt; have hX4 := hX3.below hL4 hX3.lt; have hC4 := hC3.below hL4 hC3.pos)
      | (go_at_call 14; refine (refStart_any _).mono ?_; rintro e w5 ⟨rfl, hL5⟩; rw [H0.out];
         have hB5 := hB4.below hL5 hB4.lt; have hX5 := hX4.below hL5 hX4.lt; have hC5 := hC4.below hL5 hC4.pos)
      | (go_at_call 7; refine (awake3_any _ hC5).mono ?_; rintro e w6 ⟨rfl, hL6⟩;
         have hB6 := hB5.below hL6 hB5.lt; have hX6 := hX5.below hL6 hX5.lt))
  go_wp2_with fail
  go_ret
  exact ⟨rfl, bthen (bthen (bthen (bthen (bthen hL0 hL2) hL3) hL4) hL5) hL6⟩

end Go.Proofs.YtdaphgbljmacpaaDoor
