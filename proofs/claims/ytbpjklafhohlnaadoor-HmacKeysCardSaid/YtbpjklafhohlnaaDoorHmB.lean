/-
  Package hmac: a key's block; what the closure makes of it.
-/
import Derived.Test.YtbpjklafhohlnaaDoorHmA
import Derived.Laws.CopyOwn
namespace Go.Proofs.YtbpjklafhohlnaaDoor
open Go.RowKit
set_option linter.unusedVariables false
set_option linter.unusedSimpArgs false

/-- An array's block, sliced whole. -/
theorem byt_blk {w : World} {g : Nat} {t : TypeId} {l : List UInt8} {n : Nat} (h : Blk w g t (l.map bv)) (hn : l.length = n) : Byt w w.heap.size (some ⟨g, 0, none⟩) n l :=
  ⟨hn, fun _ => ⟨g, 0, rfl, h.lt, fun j x hx => by rw [Nat.zero_add, h.cell, List.getElem?_map, hx]; rfl⟩⟩

/-- 64 zeros. -/
def zK : List UInt8 := List.replicate 64 0
theorem zK_len : (zK.map bv).length = 64 := by rw [List.length_map]; rfl
theorem splice_zK (l : List UInt8) (h : l.length ≤ 64) : splice (zK.map bv) 0 (l.map bv) = (l ++ List.replicate (64 - l.length) 0).map bv := by
  unfold splice zK
  rw [List.take_zero, List.nil_append, List.map_append, Nat.zero_add, List.length_map, ← List.map_drop, List.drop_replicate]
theorem keyL_of (k : List UInt8) : keyL k = (if 64 < k.length then shaD k else k) ++ List.replicate (64 - (if 64 < k.length then shaD k else k).length) 0 := by
  unfold keyL
  split
  · rw [shaD_len]
  · rfl

set_option maxRecDepth 100000 in
set_option maxHeartbeats 2000000 in
theorem filled_any (A : Option Addr) (n c : Nat) (l : List UInt8) (W : World) (hl : Byt W W.heap.size A n l) (hnil : A = none → c = 0) (hnc : n ≤ c) (hcm : c ≤ maxLen) (hn : n ≤ 35184372088832) (hC : CK W) :
    Calls Tryd.prog 13 #[.slice A n c] W fun e W' => e = .returned (.agg ((keyL l).map bv).toArray) ∧ Below W.heap.size W W' := by
  have hln := hl.1
  have z64 : (#[.int .u8 0, .int .u8 0, .int .u8 0, .int .u8 0, .int .u8 0, .int .u8 0, .int .u8 0, .int .u8 0, .int .u8 0, .int .u8 0, .int .u8 0, .int .u8 0, .int .u8 0, .int .u8 0, .int .u8 0, .int .u8 0, .int .u8 0, .int .u8 0, .int .u8 0, .int .u8 0, .int .u8 0, .int .u8 0, .int .u8 0, .int .u8 0, .int .u8 0, .int .u8 0, .int .u8 0, .int .u8 0, .int .u8 0, .int .u8 0, .int .u8 0, .int .u8 0, .int .u8 0, .int .u8 0, .int .u8 0, .int .u8 0, .int .u8 0, .int .u8 0, .int .u8 0, .int .u8 0, .int .u8 0, .int .u8 0, .int .u8 0, .int .u8 0, .int .u8 0, .int .u8 0, .int .u8 0, .int .u8 0, .int .u8 0, .int .u8 0, .int .u8 0, .int .u8 0, .int .u8 0, .int .u8 0, .int .u8 0, .int .u8 0, .int .u8 0, .int .u8 0, .int .u8 0, .int .u8 0, .int .u8 0, .int .u8 0, .int .u8 0, .int .u8 0] : Array Value) = (zK.map bv).toArray := rfl
  have z32 : (#[.int .u8 0, .int .u8 0, .int .u8 0, .int .u8 0, .int .u8 0, .int .u8 0, .int .u8 0, .int .u8 0, .int .u8 0, .int .u8 0, .int .u8 0, .int .u8 0, .int .u8 0, .int .u8 0, .int .u8 0, .int .u8 0, .int .u8 0, .int .u8 0, .int .u8 0, .int .u8 0, .int .u8 0, .int .u8 0, .int .u8 0, .int .u8 0, .int .u8 0, .int .u8 0, .int .u8 0, .int .u8 0, .int .u8 0, .int .u8 0, .int .u8 0, .int .u8 0] : Array Value) = (zL.map bv).toArray := rfl
  have hz := Blk.new (cs := zK.map bv) W 31 _ rfl
  have hb0 : Below W.heap.size W (W.alloc (.cells (zK.map bv).toArray 31)) := (Below.refl _ _).alloc (Nat.le_refl _) _
  have hC0 := hC.alloc (.cells (zK.map bv).toArray 31)
  have hl0 := (hl.alloc (Nat.le_refl _) (.cells (zK.map bv).toArray 31)).more (show W.heap.size ≤ (W.alloc (.cells (zK.map bv).toArray 31)).heap.size by rw [World.size_alloc]; omega)
  have HZ := Lib.hid (And.intro hz (And.intro hb0 (And.intro hC0 hl0)))
  obtain ⟨KV, hKV⟩ : ∃ KV, KV = (keyL l).map bv := ⟨_, rfl⟩
  have HK := Lib.hid hKV
  have HLN := Lib.hid hln
  rw [← hKV]
  clear hKV hz hb0 hC0 hl0 hln
  by_cases h64 : 64 < n
  · go_enter Tryd.func13, Tryd.ntmps13
    go_wp2_with fail
    obtain ⟨hz, hb0, hC0, hl0⟩ := HZ.out
    refine (shaSum_any A n c l _ hl0 hnil hnc hcm hn hC0).mono ?_
    rintro e w2 ⟨rfl, hb2⟩
    have hz2 := hz.below hb2 hz.lt
    have hb2' : Below W.heap.size W w2 := bthen hb0 hb2
    have hw2 := hz2.lt
    obtain ⟨D, hD⟩ : ∃ D, D = shaD l := ⟨_, rfl⟩
    have hDl : D.length = 32 := by rw [hD]; exact shaD_len l
    have hKD : keyL l = D ++ List.replicate (64 - D.length) 0 := by rw [hD, keyL_of, if_pos (by rw [HLN.out]; exact h64)]
    rw [← hD]
    have HD := Lib.hid hKD
    clear hD hKD
    have hd := Blk.new (cs := zL.map bv) w2 24 _ rfl
    have hR := hd.row (D.map bv)
    have hbr := below_row (hb2'.alloc hb2'.size (.cells (zL.map bv).toArray 24)) (g := w2.heap.size) hb2'.size (D.map bv).toArray
    have hzr := (hz2.alloc (.cells (zL.map bv).toArray 24)).row_other w2.heap.size (D.map bv).toArray (by omega)
    have hDm : (D.map bv).length = 32 := by rw [List.length_map, hDl]
    have HR := Lib.hid (And.intro hR (And.intro hbr hzr))
    clear hR hbr hzr hz2 hb2' hb2 hz hb0 hC0 hl0
    go_upto_region 4 with (refine st_blk rfl 24 _ _ rfl w2.heap.size (D.map bv) rfl rfl 24 (zL.map bv) hd (by rw [hDm]; kernel_rfl) (by rw [hDm, List.length_map]; rfl) (bvs_one _) ?_)
    obtain ⟨hR, hbr, hzr⟩ := HR.out
    have hx := byt_blk hR hDl
    generalize (w2.alloc (.cells (zL.map bv).toArray 24)).setRow w2.heap.size (D.map bv).toArray = w3 at hx hbr hzr ⊢
    generalize (some ⟨w2.heap.size, 0, none⟩ : Option Addr) = X at hx ⊢
    obtain ⟨m, hm⟩ : ∃ m, m = 32 := ⟨_, rfl⟩
    obtain ⟨q, hq⟩ : ∃ q, q = 32 := ⟨_, rfl⟩
    have hm64 : m ≤ 64 := by omega
    rw [← hm] at hx
    obtain ⟨K, rfl⟩ : ∃ K, K = D := ⟨_, rfl⟩
    clear hR HR hd hw2
    obtain ⟨cs, hcs⟩ : ∃ cs, cs = K.map bv := ⟨_, rfl⟩
    have hcl : cs.length = m := by rw [hcs, List.length_map]; exact hx.1
    have hc1 : ∀ v ∈ cs, v.oneCell' = true := by rw [hcs]; exact bvs_one _
    have hmin : cs.length = Nat.min 32 64 := by rw [hcl, hm]; rfl
    have hcp : 0 < cs.length → (some ⟨w3.heap.size, 0, none⟩ : Option Addr) = some ⟨w3.heap.size, 0, none⟩ ∧ ∃ ad, X = some ad ∧ ∀ j v, cs[j]? = some v → (w3.alloc (.cells (zK.map bv).toArray 31)).cell? (ad.add j) = some v := by
      intro h0
      obtain ⟨b, o, rfl, hb, hc⟩ := hx.2 (by omega)
      refine ⟨rfl, _, rfl, fun j v hv => ?_⟩
      rw [hcs, List.getElem?_map] at hv
      obtain ⟨u, hu, rfl⟩ := Option.map_eq_some_iff.1 hv
      rw [Addr.add_lit, World.cell?_alloc_lt _ _ _ (show b < w3.heap.size from hb)]
      exact hc j u hu
    have hsp : splice (zK.map bv) 0 cs = KV := by rw [hcs, HK.out, splice_zK K (by rw [hx.1]; exact hm64), HD.out]
    have hfit : 0 + cs.length ≤ (zK.map bv).length := by rw [zK_len]; omega
    have hn4 := Blk.new (cs := zK.map bv) w3 31 _ rfl
    have hz4 := hzr.alloc (.cells (zK.map bv).toArray 31)
    have hb4 := hbr.alloc hbr.size (.cells (zK.map bv).toArray 31)
    have hlt := hzr.lt
    have hKl : KV.length = 64 := by rw [HK.out, List.length_map, keyL_len]
    have hK1 : ∀ v ∈ KV, v.oneCell' = true := by rw [HK.out]; exact bvs_one _
    have HF := Lib.hid (And.intro hcl (And.intro hmin (And.intro hsp (And.intro hcp hfit))))
    clear hcl hmin hcs hsp hcp hfit
    go_wp2_with (first
      | ((with_reducible show wpList _ _ _ _ _ _); (refine wpList_copy_splice rfl (.tmp 11) (.tmp 12) 22 22 rfl 5 Tryd.underlying22 (by kernel_rfl) _ _ 64 64 32 32 rfl rfl w3.heap.size 0 (zK.map bv) 31 hn4 cs HF.out.2.1 HF.out.2.2.2.1 HF.out.2.2.2.2 hc1 w3.heap.size _ (Below.refl _ _) (Nat.le_refl _) ?_);
         (intro w5 HG5 hb5; rw [HF.out.2.2.1] at HG5;
          have hz5 := hz4.below hb5 hlt; have hb5' := hb4.trans (hb5.mono hbr.size)))
      | (refine ld_blk rfl 31 _ rfl w3.heap.size rfl 31 KV HG5.out 64 5 Tryd.underlying31 (by rw [hKl]; kernel_rfl) ?_)
      | (refine st_blk rfl 31 _ _ rfl W.heap.size KV rfl rfl 31 (zK.map bv) hz5 (by rw [hKl]; kernel_rfl) (by rw [hKl, zK_len]) hK1 ?_))
    try simp only [Exit.inBlock, Exit.then]
    exact ret_cell rfl _ _ KV rfl (hz5.row KV) 64 5 Tryd.underlying31 (by rw [hKl]; kernel_rfl) rfl ⟨rfl, below_row hb5' (Nat.le_refl _) _⟩
  · have hlt64 : ¬ (64 < n) := h64
    obtain ⟨hz, hb0, hC0, hl0⟩ := HZ.out
    have hm64 : n ≤ 64 := by omega
    have HD := Lib.hid (show keyL l = l ++ List.replicate (64 - l.length) 0 by rw [keyL_of, if_neg (by rw [HLN.out]; exact h64)])
    go_enter Tryd.func13, Tryd.ntmps13
    go_upto_region 4 with fail
    have hx := hl0
    have hbr := hb0
    have hzr := hz
    clear hz hb0 hC0 hl0 h64 hlt64 HZ
    generalize W.alloc (.cells (zK.map bv).toArray 31) = w0 at hx hbr hzr ⊢
    obtain ⟨cs, hcs⟩ : ∃ cs, cs = l.map bv := ⟨_, rfl⟩
    have hcl : cs.length = n := by rw [hcs, List.length_map]; exact hx.1
    have hc1 : ∀ v ∈ cs, v.oneCell' = true := by rw [hcs]; exact bvs_one _
    have hmin : cs.length = Nat.min n 64 := by rw [hcl]; exact (Nat.min_eq_left hm64).symm
    have hcp : 0 < cs.length → (some ⟨w0.heap.size, 0, none⟩ : Option Addr) = some ⟨w0.heap.size, 0, none⟩ ∧ ∃ ad, A = some ad ∧ ∀ j v, cs[j]? = some v → (w0.alloc (.cells (zK.map bv).toArray 31)).cell? (ad.add j) = some v := by
      intro h0
      obtain ⟨b, o, rfl, hb, hc⟩ := hx.2 (by omega)
      refine ⟨rfl, _, rfl, fun j v hv => ?_⟩
      rw [hcs, List.getElem?_map] at hv
      obtain ⟨u, hu, rfl⟩ := Option.map_eq_some_iff.1 hv
      rw [Addr.add_lit, World.cell?_alloc_lt _ _ _ (show b < w0.heap.size from hb)]
      exact hc j u hu
    have hsp : splice (zK.map bv) 0 cs = KV := by rw [hcs, HK.out, splice_zK l (by rw [hx.1]; exact hm64), HD.out]
    have hfit : 0 + cs.length ≤ (zK.map bv).length := by rw [zK_len]; omega
    have hn4 := Blk.new (cs := zK.map bv) w0 31 _ rfl
    have hz4 := hzr.alloc (.cells (zK.map bv).toArray 31)
    have hb4 := hbr.alloc hbr.size (.cells (zK.map bv).toArray 31)
    have hlt := hzr.lt
    have hKl : KV.length = 64 := by rw [HK.out, List.length_map, keyL_len]
    have hK1 : ∀ v ∈ KV, v.oneCell' = true := by rw [HK.out]; exact bvs_one _
    have HF := Lib.hid (And.intro hcl (And.intro hmin (And.intro hsp (And.intro hcp hfit))))
    clear hcl hmin hcs hsp hcp hfit
    go_wp2_with (first
      | ((with_reducible show wpList _ _ _ _ _ _); (refine wpList_copy_splice rfl (.tmp 11) (.tmp 12) 22 22 rfl 5 Tryd.underlying22 (by kernel_rfl) _ _ 64 64 n c rfl rfl w0.heap.size 0 (zK.map bv) 31 hn4 cs HF.out.2.1 HF.out.2.2.2.1 HF.out.2.2.2.2 hc1 w0.heap.size _ (Below.refl _ _) (Nat.le_refl _) ?_);
         (intro w5 HG5 hb5; rw [HF.out.2.2.1] at HG5;
          have hz5 := hz4.below hb5 hlt; have hb5' := hb4.trans (hb5.mono hbr.size)))
      | (refine ld_blk rfl 31 _ rfl w0.heap.size rfl 31 KV HG5.out 64 5 Tryd.underlying31 (by rw [hKl]; kernel_rfl) ?_)
      | (refine st_blk rfl 31 _ _ rfl W.heap.size KV rfl rfl 31 (zK.map bv) hz5 (by rw [hKl]; kernel_rfl) (by rw [hKl, zK_len]) hK1 ?_))
    try simp only [Exit.inBlock, Exit.then]
    exact ret_cell rfl _ _ KV rfl (hz5.row KV) 64 5 Tryd.underlying31 (by rw [hKl]; kernel_rfl) rfl ⟨rfl, below_row hb5' (Nat.le_refl _) _⟩

end Go.Proofs.YtbpjklafhohlnaaDoor
