/-
  Walks of the laws of package hmac.
-/
import Derived.Test.YtbpjklafhohlnaaDoorHmE
namespace Go.Proofs.YtbpjklafhohlnaaDoor
open Go.RowKit
set_option linter.unusedVariables false
set_option linter.unusedSimpArgs false

def keyC : Array Value := #[.int .u8 107, .int .u8 101, .int .u8 121]
def foxC : Array Value := #[.int .u8 84, .int .u8 104, .int .u8 101, .int .u8 32, .int .u8 113, .int .u8 117, .int .u8 105, .int .u8 99, .int .u8 107, .int .u8 32, .int .u8 98, .int .u8 114, .int .u8 111, .int .u8 119, .int .u8 110, .int .u8 32, .int .u8 102, .int .u8 111, .int .u8 120, .int .u8 32, .int .u8 106, .int .u8 117, .int .u8 109, .int .u8 112, .int .u8 115, .int .u8 32, .int .u8 111, .int .u8 118, .int .u8 101, .int .u8 114, .int .u8 32, .int .u8 116, .int .u8 104, .int .u8 101, .int .u8 32, .int .u8 108, .int .u8 97, .int .u8 122, .int .u8 121, .int .u8 32, .int .u8 100, .int .u8 111, .int .u8 103]
theorem keyC_eq : keyC.toList = ([107, 101, 121] : List UInt8).map bv := rfl
theorem foxC_eq : foxC.toList = foxL.map bv := rfl
def foxV : List Value := foxT.map bv

set_option maxRecDepth 100000 in
set_option maxHeartbeats 1000000 in
theorem awake4_any (W : World) (hC : CK W) :
    Calls Tryd.prog 6 #[] W fun e W' => e = .returned (.bool true) ∧ Below W.heap.size W W' := by
  have kc1 : (convert 22 22 (.slice (some ⟨W.heap.size, 0, none⟩) 3 3)).run Tryd.prog (W.alloc (.cells keyC 5)) = .ok (.slice (some ⟨W.heap.size, 0, none⟩) 3 3) (W.alloc (.cells keyC 5 (3, 4))) :=
    Lib.run_convert_bytes_const (P := Tryd.prog) W 22 5 keyC 3 3 Tryd.underlying22 Tryd.underlying5
  have kc2 : (convert 22 22 (.slice (some ⟨W.heap.size + 1, 0, none⟩) 43 43)).run Tryd.prog ((W.alloc (.cells keyC 5 (3, 4))).alloc (.cells foxC 5)) = .ok (.slice (some ⟨W.heap.size + 1, 0, none⟩) 43 43) ((W.alloc (.cells keyC 5 (3, 4))).alloc (.cells foxC 5 (43, 44))) := by
    have := Lib.run_convert_bytes_const (P := Tryd.prog) (W.alloc (.cells keyC 5 (3, 4))) 22 5 foxC 43 43 Tryd.underlying22 Tryd.underlying5
    rw [World.size_alloc] at this
    exact this
  have hl1 := (Byt.lit W [107, 101, 121] keyC keyC_eq 5 (3, 4) 3 rfl)
  have hl2 := (Byt.lit (W.alloc (.cells keyC 5 (3, 4))) foxL foxC foxC_eq 5 (43, 44) 43 rfl)
  rw [World.size_alloc] at hl2
  have hb : Below W.heap.size W ((W.alloc (.cells keyC 5 (3, 4))).alloc (.cells foxC 5 (43, 44))) := ((Below.refl _ _).alloc (Nat.le_refl _) _).alloc (by simp) _
  have hl1' := ((hl1.alloc (by rw [World.size_alloc]; omega) (.cells foxC 5 (43, 44))).more (show _ ≤ ((W.alloc (.cells keyC 5 (3, 4))).alloc (.cells foxC 5 (43, 44))).heap.size by rw [World.size_alloc, World.size_alloc]; omega))
  have hl2' := hl2.more (show _ ≤ ((W.alloc (.cells keyC 5 (3, 4))).alloc (.cells foxC 5 (43, 44))).heap.size by rw [World.size_alloc, World.size_alloc]; omega)
  have H := Lib.hid (And.intro hb (And.intro hl1' (And.intro hl2' hC)))
  clear hb hl1 hl2 hl1' hl2' hC
  have z32 : (#[.int .u8 0, .int .u8 0, .int .u8 0, .int .u8 0, .int .u8 0, .int .u8 0, .int .u8 0, .int .u8 0, .int .u8 0, .int .u8 0, .int .u8 0, .int .u8 0, .int .u8 0, .int .u8 0, .int .u8 0, .int .u8 0, .int .u8 0, .int .u8 0, .int .u8 0, .int .u8 0, .int .u8 0, .int .u8 0, .int .u8 0, .int .u8 0, .int .u8 0, .int .u8 0, .int .u8 0, .int .u8 0, .int .u8 0, .int .u8 0, .int .u8 0, .int .u8 0] : Array Value) = (zL.map bv).toArray := rfl
  have zk : (#[.int .u8 107, .int .u8 101, .int .u8 121] : Array Value) = keyC := rfl
  have zf : (#[.int .u8 84, .int .u8 104, .int .u8 101, .int .u8 32, .int .u8 113, .int .u8 117, .int .u8 105, .int .u8 99, .int .u8 107, .int .u8 32, .int .u8 98, .int .u8 114, .int .u8 111, .int .u8 119, .int .u8 110, .int .u8 32, .int .u8 102, .int .u8 111, .int .u8 120, .int .u8 32, .int .u8 106, .int .u8 117, .int .u8 109, .int .u8 112, .int .u8 115, .int .u8 32, .int .u8 111, .int .u8 118, .int .u8 101, .int .u8 114, .int .u8 32, .int .u8 116, .int .u8 104, .int .u8 101, .int .u8 32, .int .u8 108, .int .u8 97, .int .u8 122, .int .u8 121, .int .u8 32, .int .u8 100, .int .u8 111, .int .u8 103] : Array Value) = foxC := rfl
  go_enter Tryd.func6, Tryd.ntmps6
  go_wp2_with fail
  clear zk zf kc1 kc2
  obtain ⟨hb, hl1, hl2, hC⟩ := H.out
  generalize (W.alloc (.cells keyC 5 (3, 4))).alloc (.cells foxC 5 (43, 44)) = w0 at hb hl1 hl2 ⊢
  refine (tag_any (some ⟨W.heap.size, 0, none⟩) 3 3 [107, 101, 121] (some ⟨W.heap.size + 1, 0, none⟩) 43 43 foxL w0 hl1 (fun h => by cases h) (by decide) (by decide) (by decide) hl2 (fun h => by cases h) (by decide) (hC.below hb hC.pos)).mono ?_
  rintro e w1 ⟨rfl, hb1⟩
  rw [hmac_fox]
  have hbb := bthen hb hb1
  have hs := hbb.size
  have hn := Blk.new (cs := zL.map bv) w1 24 _ rfl
  have hbx := below_row (hbb.alloc hs (.cells (zL.map bv).toArray 24)) (g := w1.heap.size) hs (foxT.map bv).toArray
  have hD1 := bvs_one foxT
  have hDm : (foxT.map bv).length = 32 := by rw [List.length_map]; rfl
  have HB := Lib.hid (And.intro (hn.row (foxT.map bv)) (And.intro hbx hDm))
  clear hbx hDm H hl1 hl2 hC hb hb1
  go_upto_region 2 with (refine st_blk rfl 24 _ _ rfl w1.heap.size (foxT.map bv) rfl rfl 24 (zL.map bv) hn (by rw [HB.out.2.2]; kernel_rfl) (by rw [HB.out.2.2, List.length_map]; rfl) hD1 ?_)
  obtain ⟨hR, hbr, _⟩ := HB.out
  clear HB hn z32 hD1
  generalize (w1.alloc (.cells (zL.map bv).toArray 24)).setRow w1.heap.size (foxT.map bv).toArray = w2 at hR hbr ⊢
  have k0 : w2.cell? ⟨w1.heap.size, 0, none⟩ = some (.int .u8 247) := hR.cell 0
  have k1 : w2.cell? ⟨w1.heap.size, 1, none⟩ = some (.int .u8 188) := hR.cell 1
  have k31 : w2.cell? ⟨w1.heap.size, 31, none⟩ = some (.int .u8 216) := hR.cell 31
  clear hR
  go_wp2_with fail
  go_ret
  exact ⟨rfl, hbr⟩

end Go.Proofs.YtbpjklafhohlnaaDoor
