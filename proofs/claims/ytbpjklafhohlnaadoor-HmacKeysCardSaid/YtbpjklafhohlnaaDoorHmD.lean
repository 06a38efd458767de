/-
  Package hmac: Tag and Check.
-/
import Derived.Test.YtbpjklafhohlnaaDoorHmC
namespace Go.Proofs.YtbpjklafhohlnaaDoor
open Go.RowKit
set_option linter.unusedVariables false
set_option linter.unusedSimpArgs false

/-- What Tag keeps at each of its steps: the result's cells, the key's block, the bytes. -/
def TagQ (W : World) (A : Option Addr) (n : Nat) (b : List UInt8) (g : Nat) (K : List UInt8) (w : World) : Prop :=
  Blk w W.heap.size 24 (zL.map bv) ∧ Blk w g 31 (K.map bv) ∧ Byt w W.heap.size A n b ∧ CK w ∧ Below W.heap.size W w ∧ W.heap.size < g
section
variable {W w w' : World} {A : Option Addr} {n g : Nat} {b K : List UInt8}
theorem TagQ.alloc (h : TagQ W A n b g K w) (o : Obj) : TagQ W A n b g K (w.alloc o) := by
  obtain ⟨h1, h2, h3, h4, h5, h6⟩ := h
  exact ⟨h1.alloc o, h2.alloc o, h3.alloc h5.size o, h4.alloc o, h5.alloc h5.size o, h6⟩
theorem TagQ.drew (h : TagQ W A n b g K w) : TagQ W A n b g K w.drew := ⟨h.1, h.2.1, h.2.2.1, h.2.2.2.1, below_drew h.2.2.2.2.1, h.2.2.2.2.2⟩
theorem TagQ.below (h : TagQ W A n b g K w) (hb : Below w.heap.size w w') : TagQ W A n b g K w' := by
  obtain ⟨h1, h2, h3, h4, h5, h6⟩ := h
  exact ⟨h1.below hb h1.lt, h2.below hb h2.lt, h3.below (hb.mono h5.size), h4.below hb h4.pos, bthen h5 hb, h6⟩
end
theorem mkf (fn : Fn) (first cap : Array Value) (w : World) : (Instr.makeFunc fn first cap).run Tryd.prog w = .ok (.func fn first cap) w := rfl

set_option maxRecDepth 100000 in
set_option maxHeartbeats 2000000 in
theorem tag_any (A1 : Option Addr) (n1 c1 : Nat) (k : List UInt8) (A : Option Addr) (n c : Nat) (b : List UInt8) (W : World)
    (h1 : Byt W W.heap.size A1 n1 k) (hnil1 : A1 = none → c1 = 0) (hnc1 : n1 ≤ c1) (hcm1 : c1 ≤ maxLen) (hn1 : n1 ≤ 1000000)
    (h2 : Byt W W.heap.size A n b) (hnil : A = none → c = 0) (hn : n ≤ 1000000) (hC : CK W) :
    Calls Tryd.prog 7 #[.slice A1 n1 c1, .slice A n c] W fun e W' => e = .returned (.agg ((hmacD k b).map bv).toArray) ∧ Below W.heap.size W W' := by
  have hmf := mkf
  have z64 : (#[.int .u8 0, .int .u8 0, .int .u8 0, .int .u8 0, .int .u8 0, .int .u8 0, .int .u8 0, .int .u8 0, .int .u8 0, .int .u8 0, .int .u8 0, .int .u8 0, .int .u8 0, .int .u8 0, .int .u8 0, .int .u8 0, .int .u8 0, .int .u8 0, .int .u8 0, .int .u8 0, .int .u8 0, .int .u8 0, .int .u8 0, .int .u8 0, .int .u8 0, .int .u8 0, .int .u8 0, .int .u8 0, .int .u8 0, .int .u8 0, .int .u8 0, .int .u8 0, .int .u8 0, .int .u8 0, .int .u8 0, .int .u8 0, .int .u8 0, .int .u8 0, .int .u8 0, .int .u8 0, .int .u8 0, .int .u8 0, .int .u8 0, .int .u8 0, .int .u8 0, .int .u8 0, .int .u8 0, .int .u8 0, .int .u8 0, .int .u8 0, .int .u8 0, .int .u8 0, .int .u8 0, .int .u8 0, .int .u8 0, .int .u8 0, .int .u8 0, .int .u8 0, .int .u8 0, .int .u8 0, .int .u8 0, .int .u8 0, .int .u8 0, .int .u8 0] : Array Value) = (zK.map bv).toArray := rfl
  have z32 : (#[.int .u8 0, .int .u8 0, .int .u8 0, .int .u8 0, .int .u8 0, .int .u8 0, .int .u8 0, .int .u8 0, .int .u8 0, .int .u8 0, .int .u8 0, .int .u8 0, .int .u8 0, .int .u8 0, .int .u8 0, .int .u8 0, .int .u8 0, .int .u8 0, .int .u8 0, .int .u8 0, .int .u8 0, .int .u8 0, .int .u8 0, .int .u8 0, .int .u8 0, .int .u8 0, .int .u8 0, .int .u8 0, .int .u8 0, .int .u8 0, .int .u8 0, .int .u8 0] : Array Value) = (zL.map bv).toArray := rfl
  obtain ⟨V, hV⟩ : ∃ V, V = (hmacD k b).map bv := ⟨_, rfl⟩
  rw [← hV]
  obtain ⟨K, hK⟩ : ∃ K, K = keyL k := ⟨_, rfl⟩
  have hKl : K.length = 64 := by rw [hK]; exact keyL_len k
  obtain ⟨D1, hD1⟩ : ∃ D1, D1 = shaD (xorL 54 K ++ b) := ⟨_, rfl⟩
  have hD1l : D1.length = 32 := by rw [hD1]; exact shaD_len _
  have hVV : (shaD (xorL 92 K ++ D1)).map bv = V := by rw [hV, hD1, hK]; rfl
  have hVl : V.length = 32 := by rw [hV, List.length_map]; exact hmacD_len _ _
  have hV1 : ∀ v ∈ V, v.oneCell' = true := by rw [hV]; exact bvs_one _
  have hl0 := (h1.alloc (Nat.le_refl _) (.cells (zL.map bv).toArray 24)).more (show W.heap.size ≤ (W.alloc (.cells (zL.map bv).toArray 24)).heap.size by rw [World.size_alloc]; omega)
  have hz0 := Blk.new (cs := zL.map bv) W 24 _ rfl
  have hb0 : Below W.heap.size W (W.alloc (.cells (zL.map bv).toArray 24)) := (Below.refl _ _).alloc (Nat.le_refl _) _
  have hC0 := hC.alloc (.cells (zL.map bv).toArray 24)
  have H0 := Lib.hid (And.intro hz0 (And.intro hb0 (And.intro hC0 h2)))
  have HC := Lib.hid hC
  have HV := Lib.hid (And.intro hK (And.intro hD1 hVV))
  clear hz0 hb0 hC0 h2 hC h1 hV hD1 hVV hK
  have hKm : (K.map bv).length = 64 := by rw [List.length_map]; exact hKl
  have hD1m : (D1.map bv).length = 32 := by rw [List.length_map]; exact hD1l
  have HL := Lib.hid (And.intro hKl (And.intro hD1l (And.intro hVl (And.intro hKm hD1m))))
  clear hKl hD1l hVl hKm hD1m
  go_enter Tryd.func7, Tryd.ntmps7
  go_wp2_with fail
  refine (filled_any A1 n1 c1 k _ hl0 hnil1 hnc1 hcm1 (by omega) H0.out.2.2.1).mono ?_
  rintro e w1 ⟨rfl, hb1⟩
  rw [← HV.out.1]
  obtain ⟨hz0, hb0, hC0, h2⟩ := H0.out
  have hz1 := hz0.below hb1 hz0.lt
  have hbb1 := bthen hb0 hb1
  have h21 := h2.below hbb1
  have hlt1 := hz1.lt
  have hn5 := Blk.new (cs := zK.map bv) w1 31 _ rfl
  have hQ : TagQ W A n b w1.heap.size K ((w1.alloc (.cells (zK.map bv).toArray 31)).setRow w1.heap.size (K.map bv).toArray) :=
    ⟨(hz1.alloc _).row_other _ _ (by omega), hn5.row _, (h21.alloc hbb1.size _).below (below_row (Below.refl _ _) hbb1.size _), HC.out.below (below_row (hbb1.alloc hbb1.size _) hbb1.size _) HC.out.pos, below_row (hbb1.alloc hbb1.size _) hbb1.size _, hlt1⟩
  have HQ := Lib.hid hQ
  clear hQ hz0 hb0 hC0 h2 H0 hb1 hz1 hbb1 h21 hl0
  have hK1 := bvs_one K
  have hD11 := bvs_one D1
  go_upto_region 2 with (refine st_blk rfl 31 _ _ rfl w1.heap.size (K.map bv) rfl rfl 31 (zK.map bv) hn5 (by rw [HL.out.2.2.2.1]; kernel_rfl) (by rw [HL.out.2.2.2.1, zK_len]) hK1 ?_)
  have hQ := HQ.out
  clear HQ hn5
  obtain ⟨g, hg⟩ : ∃ g, g = w1.heap.size := ⟨_, rfl⟩
  rw [← hg] at hQ ⊢
  generalize (w1.alloc (.cells (zK.map bv).toArray 31)).setRow g (K.map bv).toArray = w2 at hQ ⊢
  clear hg hlt1
  go_wp2_with fail
  refine (hpad_any 54 54 rfl K HL.out.1 g _ hQ.2.1).mono ?_
  rintro e w3 ⟨v3, rfl, hown3, hb3⟩
  obtain ⟨A3, c3, rfl, hn3, hl3, hm3⟩ := own_form hown3
  have hQ3 := hQ.below hb3
  have e3 := Byt.of_own hown3
  clear hQ hb3 hown3
  go_wp2_with fail
  refine (concat_any A3 64 c3 (xorL 54 K) A n c b w3.heap.size w3.heap.size _ (e3.alloc (Nat.le_refl _) _) (fun h => (hn3 h).2) ((hQ3.2.2.1.more hQ3.2.2.2.2.1.size).alloc (Nat.le_refl _) _) hnil (by rw [World.size_alloc]; omega) (by omega) (by omega) (by omega) (by simp [World.cell?_alloc_at]) (by simp [World.cell?_alloc_at])).mono ?_
  rintro e w4 ⟨v4, rfl, hown4, hb4⟩
  obtain ⟨A4, c4, rfl, hn4, hl4, hm4⟩ := own_form hown4
  have hQ4 := (hQ3.alloc _).below hb4
  have e4 := Byt.of_own hown4
  clear hQ3 hb4 hown4 e3
  go_wp2_with fail
  refine (shaSum_any A4 (64 + n) c4 (xorL 54 K ++ b) w4 e4 (fun h => (hn4 h).2) hl4 hm4 (by omega) hQ4.2.2.2.1).mono ?_
  rintro e w5 ⟨rfl, hb5⟩
  rw [← HV.out.2.1]
  have hQ5 := hQ4.below hb5
  have hlt5 := hQ5.2.1.lt
  have hlw5 := hQ5.1.lt
  have hs5 := hQ5.2.2.2.2.1.size
  have hn7 := Blk.new (cs := zL.map bv) w5 24 _ rfl
  clear hQ4 hb5 e4
  have hQ6 : TagQ W A n b g K ((w5.alloc (.cells (zL.map bv).toArray 24)).setRow w5.heap.size (D1.map bv).toArray) := by
    obtain ⟨q1, q2, q3, q4, q5, q6⟩ := hQ5
    have hbx := below_row (q5.alloc hs5 (.cells (zL.map bv).toArray 24)) (g := w5.heap.size) hs5 (D1.map bv).toArray
    exact ⟨(q1.alloc _).row_other _ _ (by omega), (q2.alloc _).row_other _ _ (by omega), (q3.alloc hs5 _).below (below_row (Below.refl _ _) hs5 _), HC.out.below hbx HC.out.pos, hbx, q6⟩
  have HQ := Lib.hid hQ6
  have HB := Lib.hid (hn7.row (D1.map bv))
  clear hQ5 hQ6
  go_upto_region 4 with (refine st_blk rfl 24 _ _ rfl w5.heap.size (D1.map bv) rfl rfl 24 (zL.map bv) hn7 (by rw [HL.out.2.2.2.2]; kernel_rfl) (by rw [HL.out.2.2.2.2, List.length_map]; rfl) hD11 ?_)
  have hQ := HQ.out
  have hB7 := HB.out
  clear HQ HB hn7
  obtain ⟨g7, hg7⟩ : ∃ g7, g7 = w5.heap.size := ⟨_, rfl⟩
  rw [← hg7] at hQ hB7 ⊢
  generalize (w5.alloc (.cells (zL.map bv).toArray 24)).setRow g7 (D1.map bv).toArray = w6 at hQ hB7 ⊢
  have hD1l := HL.out.2.1
  have hZl : (zL.map bv).length = 32 := by rw [List.length_map]; rfl
  have hi : (Tryd.prog.info? 24).map (·.size) = some V.length := by rw [HL.out.2.2.1]; kernel_rfl
  have hu := Tryd.underlying24
  have HD := Lib.hid hD1l
  clear hD1l z32 z64 hmf hg7
  go_region_held3 (fun w' => w'.there W.heap.size 0 32)
    (first
      | exact there32 hQ9.1 hZl
      | exact World.there_setCells (there32 hQ9.1 hZl) _ _ _
      | exact there32 hQ8.1 hZl
      | exact there32 (hQ7.alloc _).1 hZl
      | exact there32 hQ7.1 hZl
      | exact there32 hQ.1 hZl)
    (first
      | (go_at_call 14; refine (hpad_any 92 92 rfl K HL.out.1 g _ ?_).mono ?_; (exact hQ.2.1); rintro e w7 ⟨v7, rfl, hown7, hb7⟩;
         obtain ⟨A7, c7, rfl, hn7, hl7, hm7⟩ := own_form hown7;
         have hbb7 : Below w6.heap.size w6 w7 := (by first | exact hb7 | exact bthen (below_drew (Below.refl _ _)) hb7);
         have hQ7 := hQ.below hbb7;
         have hB8 := hB7.below hbb7 hB7.lt;
         have e7 := Byt.of_own hown7)
      | (go_at_call 16;
         refine (concat_any A7 64 c7 (xorL 92 K) (some ⟨g7, 0, none⟩) 32 32 D1 w7.heap.size w7.heap.size _ (e7.alloc (Nat.le_refl _) _) (fun h => (hn7 h).2) ((byt_blk hB8 HD.out).alloc (Nat.le_refl _) _) (fun h => by cases h) (by rw [World.size_alloc]; omega) (by omega) (by omega) (by omega) (by simp [World.cell?_alloc_at]) (by simp [World.cell?_alloc_at])).mono ?_;
         rintro e w8 ⟨v8, rfl, hown8, hb8⟩;
         obtain ⟨A8, c8, rfl, hn8, hl8, hm8⟩ := own_form hown8;
         have hQ8 := (hQ7.alloc _).below hb8;
         have e8 := Byt.of_own hown8)
      | (go_at_call 15;
         refine (shaSum_any A8 (64 + 32) c8 (xorL 92 K ++ D1) _ e8 (fun h => (hn8 h).2) hl8 hm8 (by omega) hQ8.2.2.2.1).mono ?_;
         rintro e w9 ⟨rfl, hb9⟩;
         rw [HV.out.2.2];
         have hQ9 := hQ8.below hb9;
         have t9 : w9.there W.heap.size 0 V.length := (by rw [HL.out.2.2.1]; exact there32 hQ9.1 hZl)))
  have hret := World.rangeAt_setCells_same w9 W.heap.size 0 V t9
  have hend := below_setCells W.heap.size (Nat.le_refl _) V 0 w9 hQ9.2.2.2.2.1
  generalize w9.setCells W.heap.size 0 V = wz at hret hend ⊢
  go_wp2_with fail
  try simp only [Exit.inBlock, Exit.then]
  exact ret_mid rfl W.heap.size V rfl hret 32 5 hu hi rfl ⟨rfl, hend⟩

set_option maxHeartbeats 1000000 in
theorem check_any (A1 : Option Addr) (n1 c1 : Nat) (k : List UInt8) (A : Option Addr) (n c : Nat) (b : List UInt8) (A2 : Option Addr) (n2 c2 : Nat) (t : List UInt8) (W : World)
    (h1 : Byt W W.heap.size A1 n1 k) (hnil1 : A1 = none → c1 = 0) (hnc1 : n1 ≤ c1) (hcm1 : c1 ≤ maxLen) (hn1 : n1 ≤ 1000000)
    (h2 : Byt W W.heap.size A n b) (hnil : A = none → c = 0) (hn : n ≤ 1000000) (h3 : Byt W W.heap.size A2 n2 t) (hn2 : n2 ≤ 1000000) (hC : CK W) :
    Calls Tryd.prog 10 #[.slice A1 n1 c1, .slice A n c, .slice A2 n2 c2] W fun e W' => e = .returned (.bool (decide (hmacD k b = t))) ∧ Below W.heap.size W W' := by
  have z32 : (#[.int .u8 0, .int .u8 0, .int .u8 0, .int .u8 0, .int .u8 0, .int .u8 0, .int .u8 0, .int .u8 0, .int .u8 0, .int .u8 0, .int .u8 0, .int .u8 0, .int .u8 0, .int .u8 0, .int .u8 0, .int .u8 0, .int .u8 0, .int .u8 0, .int .u8 0, .int .u8 0, .int .u8 0, .int .u8 0, .int .u8 0, .int .u8 0, .int .u8 0, .int .u8 0, .int .u8 0, .int .u8 0, .int .u8 0, .int .u8 0, .int .u8 0, .int .u8 0] : Array Value) = (zL.map bv).toArray := rfl
  obtain ⟨D, hD⟩ : ∃ D, D = hmacD k b := ⟨_, rfl⟩
  rw [← hD]
  have HD := Lib.hid hD
  clear hD
  go_enter Tryd.func10, Tryd.ntmps10
  go_wp2_with fail
  refine (tag_any A1 n1 c1 k A n c b _ h1 hnil1 hnc1 hcm1 hn1 h2 hnil hn hC).mono ?_
  rintro e w1 ⟨rfl, hb1⟩
  rw [← HD.out]
  have hDl : D.length = 32 := by rw [HD.out]; exact hmacD_len k b
  have hDm : (D.map bv).length = 32 := by rw [List.length_map]; exact hDl
  have hn7 := Blk.new (cs := zL.map bv) w1 24 _ rfl
  have hs := hb1.size
  have hbx := below_row (hb1.alloc hs (.cells (zL.map bv).toArray 24)) (g := w1.heap.size) hs (D.map bv).toArray
  have hD1 := bvs_one D
  have HB := Lib.hid (And.intro (hn7.row (D.map bv)) (And.intro hbx (And.intro hDl hDm)))
  clear hbx hDl hDm
  go_upto_region 2 with (refine st_blk rfl 24 _ _ rfl w1.heap.size (D.map bv) rfl rfl 24 (zL.map bv) hn7 (by rw [HB.out.2.2.2]; kernel_rfl) (by rw [HB.out.2.2.2, List.length_map]; rfl) hD1 ?_)
  obtain ⟨hB7, hb7, hDl, _⟩ := HB.out
  obtain ⟨g7, hg7⟩ : ∃ g7, g7 = w1.heap.size := ⟨_, rfl⟩
  rw [← hg7] at hB7 hb7 ⊢
  have e7 := byt_blk hB7 hDl
  have e8 := (h3.below hb7).more hb7.size
  clear HB hn7 z32
  generalize (w1.alloc (.cells (zL.map bv).toArray 24)).setRow g7 (D.map bv).toArray = w2 at hB7 hb7 e7 e8 ⊢
  clear hg7 hDl
  go_wp2_with (go_at_call 11; refine (hsame_any _ _ 32 32 n2 c2 D t w2.heap.size _ e7 e8 (by omega) (by omega)).mono ?_; rintro e w3 ⟨rfl, k3, rfl⟩)
  go_ret
  exact ⟨rfl, below_drewN hb7 k3⟩

end Go.Proofs.YtbpjklafhohlnaaDoor
