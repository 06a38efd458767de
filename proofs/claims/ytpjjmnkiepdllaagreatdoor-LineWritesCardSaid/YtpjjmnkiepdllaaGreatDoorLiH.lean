/-
  The reference's line of fields.
-/
import Derived.Test.YtpjjmnkiepdllaaGreatDoorLiG
namespace Go.Proofs.YtpjjmnkiepdllaaGreatDoor
open Go.RowKit
set_option linter.unusedVariables false
set_option linter.unusedSimpArgs false

theorem textL_take (pat : List UInt8) (fs : List Fd) (k : Nat) (c : UInt8) (f : Fd) (hc : pat[k]? = some c) (hf : fs[k]? = some f) : textL (pat.take (k + 1)) (fs.take (k + 1)) = textL (pat.take k) (fs.take k) ++ [textF c f] := by
  unfold textL
  rw [← List.take_zipWith, ← List.take_zipWith, List.take_add_one, List.getElem?_zipWith, hc, hf]
  rfl
theorem lineF_step (word pat : List UInt8) (fs : List Fd) (k : Nat) (c : UInt8) (f : Fd) (hc : pat[k]? = some c) (hf : fs[k]? = some f) : lineF word (pat.take (k + 1)) (fs.take (k + 1)) = (lineF word (pat.take k) (fs.take k) ++ [32]) ++ textF c f := by
  unfold lineF
  rw [textL_take pat fs k c f hc hf, tailW_snoc]
  simp
theorem lineF_len (word pat : List UInt8) (fs : List Fd) (k : Nat) : (lineF word (pat.take k) (fs.take k)).length ≤ (lineF word pat fs).length := by
  unfold lineF textL
  rw [← List.take_zipWith]
  generalize List.zipWith textF pat fs = L
  have : tailW L = tailW (L.take k) ++ tailW (L.drop k) := by
    unfold tailW
    rw [← List.flatMap_append, List.take_append_drop]
  rw [this]
  simp

set_option maxRecDepth 100000 in
set_option maxHeartbeats 4000000 in
theorem refLine_any (word pat : ByteArray) (A : Option Addr) (n c : Nat) (fs : List Fd) (W : World) (hfl : Flds W W.heap.size A n fs) (hnp : n = pat.size) (hp : pat.size ≤ 10000)
    (hlen : (lineF word.data.toList pat.data.toList fs).length ≤ 10000) (hd : ∀ f ∈ fs, f.n < 18446744073709551616 ∧ f.data.length ≤ 10000) :
    Calls Tryz.prog 7 #[.string word, .string pat, .slice A n c] W fun e W' => e = .returned (.string ⟨(lineF word.data.toList pat.data.toList fs).toArray⟩) ∧ Below W.heap.size W W' := by
  subst hnp
  have HPL : Hid (pat.data.toList.length = pat.size) := Lib.hid (by simp)
  have HFL := Lib.hid hfl
  have HD := Lib.hid hd
  have HLEN := Lib.hid hlen
  clear hfl hd hlen
  go_enter Tryz.func7, Tryz.ntmps7
  go_wp2
  go_loopw [7, 8] (fun v iv wr => ∃ k : Nat, k ≤ pat.size ∧ iv = .int .i64 (k : Int) ∧ (∃ L, L = lineF word.data.toList (pat.data.toList.take k) (fs.take k) ∧ v = .string ⟨L.toArray⟩) ∧ Below W.heap.size W wr) (fun _ iv _ => pat.size - (intOf iv).toNat)
  case atStart => exact ⟨0, Nat.zero_le _, rfl, ⟨word.data.toList, by simp [lineF, textL, tailW], rfl⟩, Below.refl _ _⟩
  case round =>
    obtain ⟨k, hk, rfl, ⟨L, hL, rfl⟩, hb⟩ := hrel
    have hL1 := lineF_len word.data.toList pat.data.toList fs k
    rw [← hL] at hL1
    have hLn : (L.length : Int) ≤ 8388608 := by have := HLEN.out; omega
    by_cases hlt : k < pat.size
    · have hby := byte_at pat k hlt
      obtain ⟨x, hx⟩ : ∃ x, pat[k]'hlt = x := ⟨_, rfl⟩
      rw [hx] at hby
      obtain ⟨f, hf⟩ : ∃ f, fs[k]? = some f := ⟨_, List.getElem?_eq_getElem (by have := HFL.out.1; omega)⟩
      obtain ⟨b, o, rfl, hbB, hfa⟩ := HFL.out.2 (by omega)
      obtain ⟨cs, hcl, hra, hfv⟩ := hfa k f hf
      have hr : wr.rangeAt b (o + k * 3) cs := rangeAt_below hra hb hbB
      have hfv2 := (hfv.below hb).more hb.size
      have hst := lineF_step word.data.toList pat.data.toList fs k x f hby hf
      rw [← hL] at hst
      obtain ⟨L1, hL1e⟩ : ∃ L1, L1 = L ++ [32] := ⟨_, rfl⟩
      obtain ⟨L2, hL2e⟩ : ∃ L2, L2 = L1 ++ textF x f := ⟨_, rfl⟩
      rw [← hL1e, ← hL2e] at hst
      have hL2n : L2.length ≤ 10000 := by
        have h1 := lineF_len word.data.toList pat.data.toList fs (k + 1)
        rw [hst] at h1
        have := HLEN.out
        omega
      have hTn : ((textF x f).length : Int) ≤ 8388608 := by
        rw [hL2e, List.length_append] at hL2n
        omega
      have hL1n : (L1.length : Int) ≤ 8388608 := by
        rw [hL2e, List.length_append] at hL2n
        omega
      have ha1 := fun w => add_texts (P := Tryz.prog) L [32] L1 hL1e hLn (by simp) w
      have ha2 := fun w => add_texts (P := Tryz.prog) L1 (textF x f) L2 hL2e hL1n hTn w
      have hfd := HD.out f (List.mem_of_getElem? hf)
      have hT := fun w (h : FdV w w.heap.size (.agg cs.toArray) f) => refText_any x f (.agg cs.toArray) w h hfd.1 hfd.2
      have HST := Lib.hid hst
      obtain ⟨y0, y1, y2, rfl⟩ := one_agg3 hcl
      have hq0 : wr.cell? ⟨b, o + k * 3, none⟩ = some y0 := hr 0 y0 rfl
      have hq1 : wr.cell? ⟨b, o + k * 3 + 1, none⟩ = some y1 := hr 1 y1 rfl
      have hq2 : wr.cell? ⟨b, o + k * 3 + 2, none⟩ = some y2 := hr 2 y2 rfl
      have hT2 : ∀ w : World, FdV w w.heap.size (.agg #[y0, y1, y2]) f → Calls Tryz.prog 16 #[.int .u8 ((x.toNat : Nat) : Int), .agg #[y0, y1, y2]] w fun e W' => e = .returned (.string ⟨(textF x f).toArray⟩) ∧ Below w.heap.size w W' := hT
      have HV : Hid (∀ q, FdV (wr.drewN q) (wr.drewN q).heap.size (.agg #[y0, y1, y2]) f) := Lib.hid (fun q => hfv2)
      have HB := Lib.hid hb
      clear hst hL hL1 hL1e hL2e hL1n hTn hLn hL2n hby hf hfa hra hfv hfv2 hfd hb hr hT hcl
      generalize textF x f = T at ha2 hT2
      go_wp2_with fail
      go_region_held3 (fun w' => w'.cell? ⟨b, o + k * 3, none⟩ = some y0 ∧ w'.cell? ⟨b, o + k * 3 + 1, none⟩ = some y1 ∧ w'.cell? ⟨b, o + k * 3 + 2, none⟩ = some y2) (first | exact ⟨z0, z1, z2⟩ | go_keep) ((go_at_call 16; refine (hT2 _ ?_).mono ?_; (first | exact HV.out 0 | exact HV.out 1); rintro e W3 ⟨rfl, hb3⟩; have z0 := (keeps_below hb3).2 _ _ hq0; have z1 := (keeps_below hb3).2 _ _ hq1; have z2 := (keeps_below hb3).2 _ _ hq2))
      have hb5 : Below W.heap.size W W3 := bthen (below_drew HB.out) hb3
      clear z0 z1 z2 hb3 hq0 hq1 hq2 ha1 ha2 hT2
      go_wp2
      go_roundw
      case rel => exact ⟨k + 1, by omega, by go_num, ⟨L2, HST.out.symm, rfl⟩, hb5⟩
      case measure => simp [intOf]; omega
    · have HL : Hid (L = lineF word.data.toList pat.data.toList fs) := Lib.hid (by
        rw [hL, List.take_of_length_le (by have := HPL.out; omega), List.take_of_length_le (by have := HFL.out.1; omega)])
      clear hL hL1 hLn
      go_wp2
      go_ret
      exact ⟨by rw [← HL.out]; rfl, hb⟩

end Go.Proofs.YtpjjmnkiepdllaaGreatDoor
