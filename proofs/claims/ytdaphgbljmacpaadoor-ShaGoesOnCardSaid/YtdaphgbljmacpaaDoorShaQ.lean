/-
  The walk of the law ShaGoesOn.
-/
import Derived.Test.YtdaphgbljmacpaaDoorShaO
namespace Go.Proofs.YtdaphgbljmacpaaDoor
open Go.RowKit
set_option linter.unusedVariables false
set_option linter.unusedSimpArgs false

/-- What is owned stays owned where a whole row of another block is stored. -/
theorem own_row {w : World} {base : Nat} {e : TypeId} {size : Nat} {v : Value} {n : Nat} {xs : List Value} (h : w.ownsRow base e size v n xs) {g : Nat} (hg : g < base) (C : Array Value) : (w.setRow g C).ownsRow base e size v n xs := by
  refine h.kept (w' := w.setRow g C) (row := some g) ⟨rfl, rfl, rfl, by rw [size_setRow]; exact Nat.le_refl _, fun k hk hne => ?_⟩ ?_
  · unfold World.setRow
    show (w.heap.modify g _)[k]? = _
    rw [Array.getElem?_modify, if_neg (fun e => hne (by rw [e]))]
  · exact Or.inr fun e => by
      have := (h.lt g e).1
      omega

theorem rangeB {w : World} {B n : Nat} {A : Option Addr} {bl : List (List UInt8)} (h : Blks w B A n bl) {k : Nat} {b : List UInt8} (hk : bl[k]? = some b) {g o : Nat} (e : A = some ⟨g, o, none⟩) : w.rangeAt g (o + k * 64) (b.map bv) := by
  have hn : 0 < n := by
    have h1 := h.1
    have h2 := (List.getElem?_eq_some_iff.1 hk).1
    omega
  obtain ⟨g', o', e', _, hc⟩ := h.2.2 hn
  rw [e] at e'
  cases e'
  intro j v hv
  rw [List.getElem?_map] at hv
  obtain ⟨x, hx, rfl⟩ := Option.map_eq_some_iff.1 hv
  rw [Nat.mul_comm k 64]
  exact hc k b hk j x hx

theorem rangeByt {w : World} {g o B : Nat} {b : List UInt8} {n : Nat} (h : w.rangeAt g o (b.map bv)) (hg : g < B) (hn : b.length = n) : Byt w B (some ⟨g, o, none⟩) n b :=
  ⟨hn, fun _ => ⟨g, o, rfl, hg, fun j x hx => h j (bv x) (by rw [List.getElem?_map, hx]; rfl)⟩⟩
theorem Blk.grown {w w' : World} {g : Nat} {t : TypeId} {cs : List Value} {row : Option Nat} (h : Blk w g t cs) (hg : w.grownBy w' row) (hn : some g ≠ row) : Blk w' g t cs := (hg.block g h.lt hn).trans h

/-- The array of a round, its first q bytes laid. -/
def fillC (ch : List UInt8) : Nat → List UInt8
  | 0 => List.replicate 64 0
  | q + 1 => (fillC ch q).set q (ch.getD q 0)
theorem fillC_len (ch : List UInt8) (q : Nat) : (fillC ch q).length = 64 := by
  induction q with
  | zero => rfl
  | succ q ih => rw [fillC, List.length_set, ih]
theorem fillC_eq (ch : List UInt8) (h : ch.length = 64) (q : Nat) : q ≤ 64 → fillC ch q = ch.take q ++ List.replicate (64 - q) 0 := by
  induction q with
  | zero => intro _; rfl
  | succ q ih =>
    intro hq
    have hlt : q < ch.length := by omega
    rw [fillC, ih (by omega), List.set_append_right _ _ (by rw [List.length_take]; omega), List.length_take, Nat.min_eq_left (by omega), Nat.sub_self, show 64 - q = (64 - (q + 1)) + 1 by omega,
      List.replicate_succ, List.set_cons_zero, List.take_add_one, List.getElem?_eq_getElem hlt, List.append_assoc]
    simp [List.getD_eq_getElem?_getD, List.getElem?_eq_getElem hlt]
theorem fillC_64 (ch : List UInt8) (h : ch.length = 64) : fillC ch 64 = ch := by
  rw [fillC_eq ch h 64 (Nat.le_refl _), List.take_of_length_le (by omega)]
  simp

section
variable {W w w' : World} {g b2 b7 M c7 R c10 g10 : Nat} {A7 : Option Addr} {L7 LR : List UInt8} {st : St}
/-- What the second loop keeps: the state, all bytes, the rest. -/
def GoI (W : World) (g b2 b7 M c7 R c10 g10 : Nat) (A7 : Option Addr) (L7 LR : List UInt8) (st : St) (w : World) : Prop :=
  Blk w g 30 (st.l.map uv) ∧ w.ownsRow b2 5 1 (.slice A7 M c7) M (L7.map bv) ∧ w.ownsRow b7 5 1 (.slice (some ⟨g10, 0, none⟩) R c10) R (LR.map bv) ∧ Below W.heap.size W w
theorem GoI.below (h : GoI W g b2 b7 M c7 R c10 g10 A7 L7 LR st w) (hb : Below w.heap.size w w') : GoI W g b2 b7 M c7 R c10 g10 A7 L7 LR st w' :=
  ⟨h.1.below hb h.1.lt, own_below h.2.1 hb, own_below h.2.2.1 hb, bthen h.2.2.2 hb⟩
theorem GoI.row (h : GoI W g b2 b7 M c7 R c10 g10 A7 L7 LR st w) (hg : W.heap.size ≤ g) (h2 : g < b2) (h7 : b2 ≤ b7) (s : St) : GoI W g b2 b7 M c7 R c10 g10 A7 L7 LR s (w.setRow g (s.l.map uv).toArray) :=
  ⟨h.1.row _, own_row h.2.1 h2 _, own_row h.2.2.1 (by omega) _, below_row h.2.2.2 hg _⟩
end

set_option maxRecDepth 100000 in
set_option maxHeartbeats 4000000 in
theorem shaGoesOn_law (A8 : Option Addr) (n8 c8 : Nat) (bl : List (List UInt8)) (A : Option Addr) (n c : Nat) (l : List UInt8) (W : World)
    (hbl : Blks W W.heap.size A8 n8 bl) (hnil8 : A8 = none → c8 = 0) (hnc8 : n8 ≤ c8) (hcm8 : c8 ≤ maxLen)
    (hl : Byt W W.heap.size A n l) (hnil : A = none → c = 0) (hnc : n ≤ c) (hcm : c ≤ maxLen) (hC : CK W) :
    Calls Tryd.prog 6 #[.slice A8 n8 c8, .slice A n c] W fun e W' => e = .returned (.bool true) ∧ Below W.heap.size W W' := by
  unfold maxLen at hcm hcm8
  by_cases hbig8 : 8 < n8
  · go_enter Tryd.func6, Tryd.ntmps6
    go_wp2_with (go_at_call 7; refine (awake3_any _ hC).mono ?_; rintro e w' ⟨rfl, hb⟩)
    go_ret
    exact ⟨rfl, hb⟩
  by_cases hbig : 300 < n
  · go_enter Tryd.func6, Tryd.ntmps6
    go_wp2_with (go_at_call 7; refine (awake3_any _ hC).mono ?_; rintro e w' ⟨rfl, hb⟩)
    go_ret
    exact ⟨rfl, hb⟩
  obtain ⟨i0, hi, hz0, hz1, hz2⟩ := info_parts Tryd.info5
  have z00 : (#[.int .u32 0, .int .u32 0, .int .u32 0, .int .u32 0, .int .u32 0, .int .u32 0, .int .u32 0, .int .u32 0] : Array Value) = (st00.l.map uv).toArray := rfl
  go_enter Tryd.func6, Tryd.ntmps6
  go_wp2_with fail
  refine (start_any _).mono ?_
  rintro e w1 ⟨rfl, hb1⟩
  rw [St.v_l]
  have hN1 := Blk.new (cs := st00.l.map uv) w1 30 _ rfl
  have hR1 := hN1.row (st0.l.map uv)
  have hB1 := below_row (hb1.alloc hb1.size (.cells (st00.l.map uv).toArray 30)) (g := w1.heap.size) hb1.size (st0.l.map uv).toArray
  have HR := Lib.hid hR1
  have HB := Lib.hid hB1
  have hs1 := hb1.size
  clear hR1 hB1
  go_wp2_with (refine st_blk rfl 30 _ _ rfl w1.heap.size (st0.l.map uv) rfl rfl 30 _ hN1 (by rw [St.len]; kernel_rfl) ((St.len _).trans (St.len _).symm) (uvs_one _) ?_)
  have hR1 := HR.out
  have hB1 := HB.out
  clear hN1 HR HB z00 hb1
  generalize (w1.alloc (.cells (st00.l.map uv).toArray 30)).setRow w1.heap.size (st0.l.map uv).toArray = w2 at hR1 hB1 ⊢
  obtain ⟨g, hg⟩ : ∃ g, g = w1.heap.size := ⟨_, rfl⟩
  rw [← hg] at hR1 hs1 ⊢
  clear hg
  have hC2 := hC.below hB1 hC.pos
  have hbl2 := hbl.below hB1
  have hl2 := hl.below hB1
  have hw2 := hB1.size
  have hlen8 := hbl.1
  have hg2 := hR1.lt
  go_loopw [6, 7] (fun v i wr => ∃ k : Nat, k ≤ n8 ∧ i = .int .i64 k ∧ wr.ownsRow w2.heap.size 5 1 v (64 * k) ((bl.take k).flatten.map bv) ∧ Blk wr g 30 ((overS st0 (bl.take k)).l.map uv) ∧ Below W.heap.size W wr ∧ w2.heap.size ≤ wr.heap.size)
    (fun _ i _ => n8 - (intOf i).toNat)
  case atStart => exact ⟨0, by omega, rfl, World.ownsRow_nil _ _ _ _, hR1, hB1, Nat.le_refl _⟩
  case round =>
    obtain ⟨k, hk, rfl, hown, hB, hb, hws⟩ := hrel
    have hCr := hC.below hb hC.pos
    obtain ⟨st, hst⟩ : ∃ st, st = overS st0 (bl.take k) := ⟨_, rfl⟩
    obtain ⟨fl, hfl⟩ : ∃ fl, fl = (bl.take k).flatten := ⟨_, rfl⟩
    rw [← hst] at hB
    rw [← hfl] at hown
    have HS := Lib.hid hst
    have HF := Lib.hid hfl
    clear hst hfl
    have Hb := Lib.hid hb
    by_cases hlt : k < n8
    · obtain ⟨g8, o8, rfl, hg8, hc8⟩ := hbl2.2.2 (by omega)
      obtain ⟨b, hbk⟩ : ∃ b, bl[k]? = some b := ⟨_, List.getElem?_eq_getElem (by omega)⟩
      have hb64 : b.length = 64 := hbl2.2.1 b (List.mem_of_getElem? hbk)
      have hbm : (b.map bv).length = 64 := by rw [List.length_map, hb64]
      have hr8 : wr.rangeAt g8 (o8 + k * 64) (b.map bv) := rangeB (hbl.below hb) hbk rfl
      have hrs := range_blk hB
      go_wp2_with fail
      refine still_tail 5 (by kernel_rfl) (by kernel_rfl) ?_
      simp only [List.take_succ_cons, List.take_zero, List.drop_succ_cons, List.drop_zero]
      refine still_ld rfl 30 _ rfl g 0 rfl (st.l.map uv) 8 29 hrs Tryd.underlying30 (by rw [St.len]; kernel_rfl) ?_
      repeat still_step
      refine still_ld rfl 31 _ rfl g8 (o8 + k * 64) rfl (b.map bv) 64 5 hr8 Tryd.underlying31 (by rw [hbm]; kernel_rfl) ?_
      refine wpStill_nil ?_
      go_wp2_with fail
      refine (block_any st b hb64 _ (show CK wr.drew from hCr)).mono ?_
      rintro e w3 ⟨rfl, hb3⟩
      obtain ⟨st', hst'⟩ : ∃ st', st' = blockS st b := ⟨_, rfl⟩
      rw [← hst']
      have HS' := Lib.hid hst'
      clear hst' hr8 hrs
      rw [St.v_l]
      have hB3 := hB.drew.below hb3 hB.lt
      have hb4 : Below W.heap.size W w3 := (below_drew hb).trans (hb3.mono hb.size)
      have hb5 := below_row hb4 (g := g) (by omega) (st'.l.map uv).toArray
      have hbl5 := hbl.below hb5
      have hown5 := own_row (own_below hown (bthen (below_drew (Below.refl _ _)) hb3)) hg2 (st'.l.map uv).toArray
      have hB5 := hB3.row (st'.l.map uv)
      have hw5 : wr.heap.size ≤ w3.heap.size := hb3.size
      have H5 := Lib.hid (And.intro hb5 (And.intro hbl5 (And.intro hown5 hB5)))
      clear hb4 hb5 hbl5 hown5 hB5 hb3 hB hown
      have hby5 := rangeByt (rangeB H5.out.2.1 hbk rfl) hg8 hb64
      have hg9 : g < w3.heap.size := by omega
      go_wp2_with (first
        | (refine st_blk rfl 30 _ _ rfl g (st'.l.map uv) rfl rfl 30 _ hB3 (by rw [St.len]; kernel_rfl) ((St.len _).trans (St.len _).symm) (uvs_one _) ?_)
        | (at_builtin; refine wpList_append_byt _ rfl _ _ 22 rfl w2.heap.size 5 i0 (.int .u8 0) Tryd.underlying22 hi hz0 hz1 hz2 rfl _ _ _ rfl H5.out.2.2.1 W.heap.size (some ⟨g8, o8 + k * 64, none⟩) 64 64 b rfl hby5 (fun h => by cases h) (by omega) (by rw [size_setRow]; omega) ?_))
      intro v6 w6 hown6 hg6
      have hB6 := H5.out.2.2.2.grown hg6 (fun e => by have := (H5.out.2.2.1.lt g e.symm).1; omega)
      have hb6 := H5.out.1.grown hg6 (by rw [size_setRow]; omega) (fun k h => by have := (H5.out.2.2.1.lt k h).1; omega)
      have hw6 := hg6.size
      rw [size_setRow] at hw6
      rw [← List.map_append] at hown6
      have hx7 : overS st0 (bl.take (k + 1)) = st' := by
        rw [List.take_add_one, hbk, HS'.out, HS.out]
        exact overS_snoc _ _ _
      have hx8 : (bl.take (k + 1)).flatten = fl ++ b := by
        rw [List.take_add_one, hbk, HF.out, List.flatten_append]
        simp
      have H6 := Lib.hid (And.intro hB6 (And.intro hb6 (And.intro hown6 (And.intro hx7 hx8))))
      clear hB6 hb6 hown6 hg6 hx7 hx8 H5 HS HF HS' hB3 hby5
      go_wp2_with fail
      refine ⟨⟨k + 1, by omega, by go_num, ?_⟩, by simp [intOf]; omega⟩
      obtain ⟨hB6, hb6, hown6, hx7, hx8⟩ := H6.out
      rw [hx7, hx8, show 64 * (k + 1) = 64 * k + 64 by omega]
      exact ⟨hown6, hB6, hb6, by omega⟩
    · have hkn : k = n8 := by omega
      have e1 : bl.take k = bl := List.take_of_length_le (by omega)
      rw [e1] at HS HF
      have hHK := Lib.hid hkn
      have hk8 : k ≤ 8 := by omega
      have hlr := hl.below hb
      have hws2 := hb.size
      have hge : ¬ ((k : Int) < (n8 : Int)) := by omega
      obtain ⟨M1, hM1⟩ : ∃ M1, M1 = 64 * k := ⟨_, rfl⟩
      rw [← hM1] at hown
      have hM512 : M1 ≤ 512 := by omega
      have HM1 := Lib.hid hM1
      have HO := Lib.hid hown
      clear hkn hk hM1
      go_wp2_with (at_builtin; refine wpList_append_byt _ rfl _ _ 22 rfl w2.heap.size 5 i0 (.int .u8 0) Tryd.underlying22 hi hz0 hz1 hz2 rfl _ _ _ rfl hown W.heap.size A n c l rfl hlr hnil (by omega) hws ?_)
      intro v7 w7 hown7 hg7
      have hB7 := hB.grown hg7 (fun e => by have := (hown.lt g e.symm).1; omega)
      have hb7 := hb.grown hg7 hb.size (fun k h => by have := (hown.lt k h).1; omega)
      have hw7 := hg7.size
      rw [← List.map_append] at hown7
      obtain ⟨M, hM⟩ : ∃ M, M = M1 + n := ⟨_, rfl⟩
      rw [← hM] at hown7
      have hM812 : M ≤ 812 := by omega
      have HM := Lib.hid hM
      obtain ⟨L7, hL7⟩ : ∃ L7, L7 = fl ++ l := ⟨_, rfl⟩
      rw [← hL7] at hown7
      have HL7 := Lib.hid hL7
      obtain ⟨A7, c7, rfl, hn7, hl7, hm7⟩ := own_form hown7
      have hC7 : CK W := hC
      have hgW : W.heap.size ≤ g := hs1
      have hl7' := hl.below hb7
      clear hown HO hg7 hB hb hM hL7 hM512 hlr hws2 hCr
      have hlit := World.ownsRow_lit (base := w7.heap.size) (e := 5) (size := 1) w7 #[] 0 (Nat.le_refl _) (by decide) rfl
      have hw7' := hb7.size
      unfold maxLen at hm7
      go_wp2_with (at_builtin; refine wpList_append_byt _ rfl _ _ 22 rfl w7.heap.size 5 i0 (.int .u8 0) Tryd.underlying22 hi hz0 hz1 hz2 rfl _ _ _ rfl hlit W.heap.size A n c l rfl (hl7'.alloc hw7' _) hnil (by omega) (by simp) ?_)
      intro v8 w8 hown8 hg8
      have hb8 : Below w7.heap.size w7 w8 := ((Below.refl _ _).alloc (Nat.le_refl _) _).grown hg8 (by simp) (fun k h => by cases h; exact Nat.le_refl _)
      clear hlit hg8 hl7'
      go_wp2_with fail
      refine (pad_any M (by omega) _).mono ?_
      rintro e w9 ⟨v9, rfl, hown9, hb9⟩
      have hown8' := own_below hown8 hb9
      have hbb9 := bthen hb8 hb9
      obtain ⟨A9, c9, rfl, hn9, hl9, hm9⟩ := own_form hown9
      have hnA9 : A9 = none → c9 = 0 := fun h => (hn9 h).2
      have hsrc := Byt.of_own hown9
      have hw9 := hbb9.size
      have hpz := padZ_lt M
      obtain ⟨R, hR⟩ : ∃ R, R = n + (9 + padZ M) := ⟨_, rfl⟩
      have hR372 : R ≤ 372 := by omega
      have hR9 : 0 < R := by omega
      clear hown8 hown9 hb8 hb9 hn9 hl9 hm9
      go_wp2_with (at_builtin; refine wpList_append_byt _ rfl _ _ 22 rfl w7.heap.size 5 i0 (.int .u8 0) Tryd.underlying22 hi hz0 hz1 hz2 rfl _ _ _ rfl hown8' w9.heap.size A9 (9 + padZ M) c9 (padL M) rfl hsrc hnA9 (by omega) hw9 ?_)
      intro v10 w10 hown10 hg10
      have hb10 := hbb9.grown hg10 hw9 (fun k h => (hown8'.lt k h).1)
      rw [← List.map_append, ← hR] at hown10
      obtain ⟨LR, hLR⟩ : ∃ LR, LR = l ++ padL M := ⟨_, rfl⟩
      rw [← hLR] at hown10
      obtain ⟨N, hN⟩ : ∃ N, R = 64 * N := ⟨nBlk M - k, by have := nBlk_eq M; have := HM.out; have := HM1.out; omega⟩
      have HR := Lib.hid hR
      have HLR := Lib.hid hLR
      obtain ⟨g10, c10, rfl, hgg10, _⟩ := hown10.form (by omega)
      have hI0 : GoI W g w2.heap.size w7.heap.size M c7 R c10 g10 A7 L7 LR st w10 := ⟨hB7.below hb10 hB7.lt, own_below hown7 hb10, hown10, bthen hb7 hb10⟩
      have hLlen : LR.length = R := own_len hown10 ▸ (List.length_map _).symm
      have hw27 : w2.heap.size ≤ w7.heap.size := by omega
      have HN := Lib.hid hN
      clear hN hown8' hbb9 hsrc hnA9 hown10 hg10 hb10 hR hLR hown7 hB7 hb7 hw9 hpz
      go_wp2_with fail
      go_loopw [9] (fun i wr => ∃ j p : Nat, p = 64 * j ∧ j ≤ N ∧ i = .int .i64 p ∧ GoI W g w2.heap.size w7.heap.size M c7 R c10 g10 A7 L7 LR (blocksS st LR j) wr)
        (fun i _ => R - (intOf i).toNat)
      case atStart => exact ⟨0, 0, rfl, by omega, rfl, hI0⟩
      case round =>
        obtain ⟨j, p, hp, hj, rfl, hI⟩ := hrel
        have HI := Lib.hid hI
        by_cases hlt2 : p + 64 ≤ R
        · obtain ⟨p64, hp64⟩ : ∃ p64 : Nat, p64 = p + 64 := ⟨_, rfl⟩
          have rp64 : (p : Int) + 64 = (p64 : Int) := by omega
          have hle : (p64 : Int) ≤ (R : Int) := by omega
          have hp64b : p64 ≤ 372 := by omega
          obtain ⟨ch, hch⟩ : ∃ ch, ch = chunkL LR j := ⟨_, rfl⟩
          have hchl : ch.length = 64 := by
            rw [hch]
            unfold chunkL
            rw [List.length_take, List.length_drop]
            omega
          have hchq : ∀ q, q < 64 → ch.getD q 0 = LR.getD (p + q) 0 := by
            intro q hq
            rw [hch, hp]
            unfold chunkL
            rw [List.getD_eq_getElem?_getD, List.getD_eq_getElem?_getD, List.getElem?_take_of_lt hq, List.getElem?_drop]
          have HST := Lib.hid (show blocksS st LR (j + 1) = blockS (blocksS st LR j) ch by rw [hch]; rfl)
          have z64 : (#[.int .u8 0, .int .u8 0, .int .u8 0, .int .u8 0, .int .u8 0, .int .u8 0, .int .u8 0, .int .u8 0, .int .u8 0, .int .u8 0, .int .u8 0, .int .u8 0, .int .u8 0, .int .u8 0, .int .u8 0, .int .u8 0, .int .u8 0, .int .u8 0, .int .u8 0, .int .u8 0, .int .u8 0, .int .u8 0, .int .u8 0, .int .u8 0, .int .u8 0, .int .u8 0, .int .u8 0, .int .u8 0, .int .u8 0, .int .u8 0, .int .u8 0, .int .u8 0, .int .u8 0, .int .u8 0, .int .u8 0, .int .u8 0, .int .u8 0, .int .u8 0, .int .u8 0, .int .u8 0, .int .u8 0, .int .u8 0, .int .u8 0, .int .u8 0, .int .u8 0, .int .u8 0, .int .u8 0, .int .u8 0, .int .u8 0, .int .u8 0, .int .u8 0, .int .u8 0, .int .u8 0, .int .u8 0, .int .u8 0, .int .u8 0, .int .u8 0, .int .u8 0, .int .u8 0, .int .u8 0, .int .u8 0, .int .u8 0, .int .u8 0, .int .u8 0] : Array Value) = ((fillC ch 0).map bv).toArray := rfl
          have hX0 := Blk.new (cs := (fillC ch 0).map bv) wr 31 _ rfl
          have hbx0 := (Below.refl wr.heap.size wr).alloc (Nat.le_refl _) (.cells ((fillC ch 0).map bv).toArray 31)
          have HCH := Lib.hid hch
          have HPJ := Lib.hid (And.intro hp (And.intro hj hp64))
          clear hI hch hp hj hlt2 hp64
          obtain ⟨w0, rfl⟩ : ∃ w0, w0 = wr := ⟨_, rfl⟩
          go_wp2_with fail
          clear z64
          go_loopw [11] (fun i wx => ∃ q : Nat, q ≤ 64 ∧ i = .int .i64 q ∧ Blk wx w0.heap.size 31 ((fillC ch q).map bv) ∧ Below w0.heap.size w0 wx)
            (fun i _ => 64 - (intOf i).toNat)
          case atStart => exact ⟨0, by omega, rfl, hX0, hbx0⟩
          case round =>
            obtain ⟨q, hq, rfl, hX, hbx⟩ := hrel
            have HX := Lib.hid hX
            have HB := Lib.hid hbx
            by_cases hq64 : q < 64
            · obtain ⟨r, hr⟩ : ∃ r : Nat, r = p + q := ⟨_, rfl⟩
              have rr : (p : Int) + (q : Int) = (r : Int) := by omega
              have hrR : (r : Int) < (R : Int) := by omega
              have hIx := HI.out.below hbx
              have hcell : wr.cell? ⟨g10, r, none⟩ = some (.int .u8 (((LR.getD r 0).toNat : Nat) : Int)) := by
                obtain ⟨b', o', e', _, hc'⟩ := (Byt.of_own hIx.2.2.1).2 hR9
                cases e'
                have h := hc' r (LR.getD r 0) (by rw [List.getD_eq_getElem?_getD, List.getElem?_eq_getElem (show r < LR.length by omega)]; rfl)
                rw [Nat.zero_add] at h
                exact h
              have hcx := hX.byte (i := q) (by rw [fillC_len]; exact hq64)
              have hfx := hX.frozen q
              have HQ := Lib.hid (show fillC ch (q + 1) = (fillC ch q).set q (LR.getD r 0) by rw [fillC, hchq q hq64, hr])
              generalize LR.getD r 0 = y at hcell HQ
              generalize (fillC ch q).getD q 0 = y0 at hcx
              clear hX hbx hIx hr hX0 hbx0 hq
              go_wp2
              go_roundw
              case measure => simp [intOf]; omega
              case rel =>
                refine ⟨q + 1, by omega, by go_num, ?_, HB.out.setCell (p := ⟨w0.heap.size, q, none⟩) (by simp) _⟩
                rw [HQ.out, List.map_set]
                exact HX.out.set q _
            · have hq64' : ¬ ((q : Int) < 64) := by omega
              have hq2 : q = 64 := by omega
              rw [hq2, fillC_64 ch hchl] at hX
              have hIx := HI.out.below hbx
              have hCx := hC7.below hIx.2.2.2 hC7.pos
              have hbm : (ch.map bv).length = 64 := by rw [List.length_map, hchl]
              obtain ⟨st1, hst1⟩ : ∃ st1, st1 = blocksS st LR j := ⟨_, rfl⟩
              rw [← hst1] at hIx
              have HST1 := Lib.hid hst1
              have hIx1 := hIx.1
              clear hq2 hq64 hq HX HB hst1 hX0 hbx0 hbx hchq
              go_wp2_with (first
                | (refine ld_blk rfl 30 _ rfl g rfl 30 (st1.l.map uv) hIx1 8 29 Tryd.underlying30 (by rw [St.len]; kernel_rfl) ?_)
                | (refine ld_blk rfl 31 _ rfl w0.heap.size rfl 31 (ch.map bv) hX 64 5 Tryd.underlying31 (by rw [hbm]; kernel_rfl) ?_))
              refine (block_any st1 ch hchl _ hCx).mono ?_
              rintro e w12 ⟨rfl, hb12⟩
              obtain ⟨st2, hst2⟩ : ∃ st2, st2 = blockS st1 ch := ⟨_, rfl⟩
              rw [← hst2]
              have HST2 := Lib.hid hst2
              rw [St.v_l]
              have hI12 := hIx.below hb12
              have hI13 := hI12.row hgW hg2 hw27 st2
              have hB12 := hI12.1
              have H13 := Lib.hid hI13
              clear hst2 hI13 hI12 hIx hIx1 hX hb12
              go_wp2_with (refine st_blk rfl 30 _ _ rfl g (st2.l.map uv) rfl rfl 30 _ hB12 (by rw [St.len]; kernel_rfl) ((St.len _).trans (St.len _).symm) (uvs_one _) ?_)
              go_roundw
              case measure => simp [intOf]; omega
              case rel =>
                obtain ⟨hp, hj, hp64⟩ := HPJ.out
                have := HN.out
                refine ⟨j + 1, p64, by omega, by omega, rfl, ?_⟩
                rw [HST.out, ← HST1.out, ← HST2.out]
                exact H13.out
        · obtain ⟨p64, rp64⟩ : ∃ p64 : Nat, (p : Int) + 64 = (p64 : Int) := ⟨p + 64, by omega⟩
          have hgt : ¬ ((p64 : Int) ≤ (R : Int)) := by omega
          have hp64b : p64 ≤ 436 := by have := HN.out; omega
          have hjN : j = N := by have := HN.out; omega
          rw [hjN] at hI
          obtain ⟨s, hs⟩ : ∃ s, s = blocksS st LR N := ⟨_, rfl⟩
          rw [← hs] at hI
          obtain ⟨D, hD⟩ : ∃ D, D = shaD L7 := ⟨_, rfl⟩
          have hDl : D.length = 32 := by rw [hD]; exact shaD_len _
          have hDs : D = digL s.l := by
            have g1 := HM.out
            have g2 := HM1.out
            have g3 := hHK.out
            have g4 := HN.out
            have g5 := HR.out
            have g6 := hl.1
            have hMM : M = 64 * bl.length + l.length := by omega
            have h := goes_on bl l hbl.2.1 N (by rw [← hMM]; omega)
            rw [← hMM, ← HLR.out, ← HS.out, ← hs, ← HF.out, ← HL7.out, ← hD] at h
            exact h.symm
          have HD := Lib.hid hD
          have HDs := Lib.hid hDs
          have z32 : (#[.int .u8 0, .int .u8 0, .int .u8 0, .int .u8 0, .int .u8 0, .int .u8 0, .int .u8 0, .int .u8 0, .int .u8 0, .int .u8 0, .int .u8 0, .int .u8 0, .int .u8 0, .int .u8 0, .int .u8 0, .int .u8 0, .int .u8 0, .int .u8 0, .int .u8 0, .int .u8 0, .int .u8 0, .int .u8 0, .int .u8 0, .int .u8 0, .int .u8 0, .int .u8 0, .int .u8 0, .int .u8 0, .int .u8 0, .int .u8 0, .int .u8 0, .int .u8 0] : Array Value) = (zL.map bv).toArray := rfl
          have hCx := hC7.below hI.2.2.2 hC7.pos
          have hy7 := Byt.of_own hI.2.1
          clear HI hD hs hDs hj hlt2 hp hI0
          obtain ⟨w0, rfl⟩ : ∃ w0, w0 = wr := ⟨_, rfl⟩
          go_wp2_with fail
          refine (shaSum_any A7 M c7 L7 w0 hy7 (fun h => (hn7 h).2) hl7 (show c7 ≤ maxLen from hm7) (by omega) hCx).mono ?_
          rintro e w12 ⟨rfl, hb12⟩
          rw [← HD.out]
          have hI12 := hI.below hb12
          have hz := Blk.new (cs := zL.map bv) w12 24 _ rfl
          have hR := hz.row (D.map bv)
          have hbr := below_row ((Below.refl w12.heap.size w12).alloc (Nat.le_refl _) (.cells (zL.map bv).toArray 24)) (g := w12.heap.size) (Nat.le_refl _) (D.map bv).toArray
          have hDm : (D.map bv).length = 32 := by rw [List.length_map, hDl]
          have hI13 := hI12.below hbr
          have HR1 := Lib.hid hR
          have H13 := Lib.hid hI13
          clear hR hbr hI13 hI12 hI hy7
          go_wp2_with (refine st_blk rfl 24 _ _ rfl w12.heap.size (D.map bv) rfl rfl 24 (zL.map bv) hz (by rw [hDm]; kernel_rfl) (by rw [hDm, List.length_map]; rfl) (bvs_one _) ?_)
          have hR1 := HR1.out
          have hI13 := H13.out
          obtain ⟨gd, hgd⟩ : ∃ gd, gd = w12.heap.size := ⟨_, rfl⟩
          rw [← hgd] at hR1 hI13 ⊢
          generalize (w12.alloc (.cells (zL.map bv).toArray 24)).setRow gd (D.map bv).toArray = w13 at hR1 hI13 ⊢
          clear hz HR1 H13 hb12 z32 hgd hCx
          obtain ⟨y0, y1, y2, y3, y4, y5, y6, y7⟩ := s
          obtain ⟨x0, hx0⟩ : ∃ x : Int, x = (((UInt8.ofNat (y0.toNat / 16777216)).toNat : Nat) : Int) := ⟨_, rfl⟩
          obtain ⟨x1, hx1⟩ : ∃ x : Int, x = (((UInt8.ofNat y7.toNat).toNat : Nat) : Int) := ⟨_, rfl⟩
          obtain ⟨x2, hx2⟩ : ∃ x : Int, x = (((UInt8.ofNat (y3.toNat / 65536)).toNat : Nat) : Int) := ⟨_, rfl⟩
          have e0 : uN y0 / 16777216 % 256 = x0 := by rw [by_3, hx0]
          have e1' : uN y7 % 256 = x1 := by rw [by_0, hx1]
          have e2 : uN y3 / 65536 % 256 = x2 := by rw [by_2, hx2]
          have e3 : IntKind.u8.wrap (uN y0 / 16777216) = x0 := by rw [← e0]; rfl
          have e4 : IntKind.u8.wrap (uN y7) = x1 := by rw [← e1']; rfl
          have e5 : IntKind.u8.wrap (uN y3 / 65536) = x2 := by rw [← e2]; rfl
          have t0 : (IntKind.u8.wrap (uN y0 / 16777216) == x0) = true := by rw [e3]; exact beq_self_eq_true _
          have t1 : (IntKind.u8.wrap (uN y7) == x1) = true := by rw [e4]; exact beq_self_eq_true _
          have t2 : (IntKind.u8.wrap (uN y3 / 65536) == x2) = true := by rw [e5]; exact beq_self_eq_true _
          have s0 : (x0 == x0) = true := beq_self_eq_true _
          have s1 : (x1 == x1) = true := beq_self_eq_true _
          have s2 : (x2 == x2) = true := beq_self_eq_true _
          clear e0 e1' e2
          have d0 : (D.map bv)[0]? = some (.int .u8 x0) := by rw [HDs.out, hx0]; rfl
          have d1 : (D.map bv)[31]? = some (.int .u8 x1) := by rw [HDs.out, hx1]; rfl
          have d2 : (D.map bv)[13]? = some (.int .u8 x2) := by rw [HDs.out, hx2]; rfl
          have hS : ∀ w', Blk w' g 30 ((⟨y0, y1, y2, y3, y4, y5, y6, y7⟩ : St).l.map uv) → Blk w' gd 24 (D.map bv) →
              w'.cell? ⟨g, 0, none⟩ = some (.int .u32 (uN y0)) ∧ w'.cell? ⟨g, 7, none⟩ = some (.int .u32 (uN y7)) ∧ w'.cell? ⟨g, 3, none⟩ = some (.int .u32 (uN y3)) ∧
              w'.cell? ⟨gd, 0, none⟩ = some (.int .u8 x0) ∧ w'.cell? ⟨gd, 31, none⟩ = some (.int .u8 x1) ∧ w'.cell? ⟨gd, 13, none⟩ = some (.int .u8 x2) :=
            fun w' h1 h2 => ⟨h1.cell 0, h1.cell 7, h1.cell 3, (h2.cell 0).trans d0, (h2.cell 31).trans d1, (h2.cell 13).trans d2⟩
          have hB0 := hI13.1
          have hbW := hI13.2.2.2
          have hy13 := Byt.of_own hI13.2.1
          have hC13 := hC7.below hbW hC7.pos
          have HB0 := Lib.hid hB0
          have HD0 := Lib.hid hR1
          clear hI13 d0 d1 d2 hx0 hx1 hx2 HDs
          go_wp2_with fail
          go_region_held3 (fun w' => w'.cell? ⟨g, 0, none⟩ = some (.int .u32 (uN y0)) ∧ w'.cell? ⟨g, 7, none⟩ = some (.int .u32 (uN y7)) ∧ w'.cell? ⟨g, 3, none⟩ = some (.int .u32 (uN y3)) ∧
              w'.cell? ⟨gd, 0, none⟩ = some (.int .u8 x0) ∧ w'.cell? ⟨gd, 31, none⟩ = some (.int .u8 x1) ∧ w'.cell? ⟨gd, 13, none⟩ = some (.int .u8 x2))
            (first
              | exact hS _ hB6 hD6
              | exact hS _ hB4 hD4
              | exact hS _ hB0 hR1)
            (first
              | (go_at_call 10; refine (refSha_any A7 M c7 L7 _ (Byt.drew hy13) (fun h => (hn7 h).2) (by omega)).mono ?_; rintro e w4 ⟨v4, rfl, hown4, hb4⟩; rw [← HD.out] at hown4; obtain ⟨g4, c4, rfl, hg4, _⟩ := hown4.form (by omega);
                 have hb4' : Below w13.heap.size w13 w4 := bthen (below_drew (Below.refl _ _)) hb4;
                 have hs4 := hb4'.size;
                 have hB4 := hB0.below hb4' hB0.lt;
                 have hD4 := hR1.below hb4' hR1.lt;
                 have h1 := (Byt.of_blk hD4 hDl); have h2 := Byt.of_own hown4; have hC4 := hC13.below hb4' hC13.pos)
              | (go_at_call 9; refine (same_true _ _ 32 32 32 c4 D D w4.heap.size _ h1 h2 (by omega) rfl).mono ?_; rintro e w5 ⟨rfl, k5, rfl⟩)
              | (go_at_call 7; refine (awake3_any _ (hC4.drewN k5)).mono ?_; rintro e w6 ⟨rfl, hb6⟩;
                 have hb6' : Below w13.heap.size w13 w6 := bthen hb4' (bthen (below_drewN (Below.refl _ _) k5) hb6);
                 have hB6 := hB0.below hb6' hB0.lt;
                 have hD6 := hR1.below hb6' hR1.lt))
          go_wp2_with fail
          go_ret
          exact ⟨rfl, bthen hbW hb6'⟩

end Go.Proofs.YtdaphgbljmacpaaDoor
