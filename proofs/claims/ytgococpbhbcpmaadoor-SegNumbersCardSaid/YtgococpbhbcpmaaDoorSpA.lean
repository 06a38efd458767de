/-
  The library's digits of base 16, and the program's names of segments.
-/
import Derived.Test.YtgococpbhbcpmaaDoorReF
import Derived.Test.YtgococpbhbcpmaaDoorBlk
import Derived.Test.YtgococpbhbcpmaaDoorSgB
import Derived.Test.YtgococpbhbcpmaaDoorShelf
namespace Go.Proofs.YtgococpbhbcpmaaDoor
open Go.RowKit
set_option linter.unusedVariables false
set_option linter.unusedSimpArgs false

/-- The library's variables that names of segments read. -/
def SV (W : World) : Prop := DK W ∧ (∃ ev, W.cell? ⟨0, 0, none⟩ = some ev ∧ (ev = .nilIface ∨ ∃ te pe, ev = .iface te pe)) ∧ ∃ ev, W.cell? ⟨1, 0, none⟩ = some ev ∧ (ev = .nilIface ∨ ∃ te pe, ev = .iface te pe)

theorem SV.below {W W' : World} (h : SV W) (b : Below W.heap.size W W') : SV W' := by
  obtain ⟨h1, ⟨e1, h2, h3⟩, e2, h4, h5⟩ := h
  refine ⟨fun k hk => ?_, ⟨e1, ?_, h3⟩, e2, ?_, h5⟩
  · rw [b.cell (by show _ < W.heap.size; exact Lib.lt_of_cell (h1 k hk))]; exact h1 k hk
  · rw [b.cell (by show _ < W.heap.size; exact Lib.lt_of_cell h2)]; exact h2
  · rw [b.cell (by show _ < W.heap.size; exact Lib.lt_of_cell h4)]; exact h4

theorem tz16_any (W : World) (hT : DK W) : Calls Tryd.prog 61 #[.int .u64 16] W fun e W' => e = .returned (.int .i64 4) ∧ W' = W := by
  have h := fun w hw => tz64_any 16 (by decide) (by decide) w hw
  rw [show Lib.ctz 64 16 = 4 by decide] at h
  go_enter Tryd.func61, Tryd.ntmps61
  go_wp2_with fail
  refine (h _ hT).mono ?_
  rintro e w1 ⟨rfl, rfl⟩
  go_wp2_with fail
  go_ret
  exact ⟨rfl, rfl⟩

theorem pow16_any (W : World) : Calls Tryd.prog 60 #[.int .i64 16] W fun e W' => e = .returned (.bool true) ∧ W' = W := by
  have h : bits .and .i64 16 15 = 0 := by decide
  go_enter Tryd.func60, Tryd.ntmps60
  go_wp2
  go_ret
  exact ⟨rfl, rfl⟩

/-- 65 zeros. -/
def zF : List UInt8 := List.replicate 65 0
theorem zF_len : zF.length = 65 := by unfold zF; rw [List.length_replicate]
/-- The array behind k digits. -/
def fillF (k u : Nat) : List UInt8 := List.replicate (65 - k) 0 ++ hexL k u
theorem fillF_len (k u : Nat) (h : k ≤ 65) : (fillF k u).length = 65 := by unfold fillF; rw [List.length_append, List.length_replicate, hexL_len]; omega
theorem hexL_mod (k : Nat) : ∀ j n, hexL j (n / 16 ^ 0) = hexL j n := by intro j n; simp
theorem fillF_step (k u : Nat) (h : k < 65) : ((fillF k u).map bv).set (64 - k) (bv (hd16 (u / 16 ^ k % 16))) = (fillF (k + 1) u).map bv := by
  rw [← List.map_set]
  congr 1
  unfold fillF
  have e : 65 - k = (64 - k) + 1 := by omega
  rw [e, List.replicate_succ', List.append_assoc, List.set_append_right _ _ (by rw [List.length_replicate]; exact Nat.le_refl _), List.length_replicate, Nat.sub_self, show 65 - (k + 1) = 64 - k by omega]
  rfl
theorem digit_at {P : Program} (w : World) (t : TypeId) (h : P.underlying t = some .string) (d : Nat) (hd : d < 16) :
    (Instr.index t (.string ⟨#[48, 49, 50, 51, 52, 53, 54, 55, 56, 57, 97, 98, 99, 100, 101, 102, 103, 104, 105, 106, 107, 108, 109, 110, 111, 112, 113, 114, 115, 116, 117, 118, 119, 120, 121, 122]⟩) (.int .u64 (d : Nat))).run P w = .ok (.int .u8 (((hd16 d).toNat : Nat) : Int)) w := by
  rw [run_index_string w t _ .u64 _ h, dif_pos ⟨by omega, by show _ < ((36 : Nat) : Int); omega⟩]
  have e : ∀ d : Fin 16, ((⟨#[48, 49, 50, 51, 52, 53, 54, 55, 56, 57, 97, 98, 99, 100, 101, 102, 103, 104, 105, 106, 107, 108, 109, 110, 111, 112, 113, 114, 115, 116, 117, 118, 119, 120, 121, 122]⟩ : ByteArray)[d.val]'(Nat.lt_of_lt_of_le d.isLt (by decide))) = hd16 d.val := by decide +kernel
  have := e ⟨d, hd⟩
  simp only [Int.toNat_natCast]
  simp only at this
  rw [this]

set_option maxRecDepth 100000 in
set_option maxHeartbeats 4000000 in
theorem formatBits_any (u : Nat) (hu : u < 18446744073709551616) (W : World) (hT : DK W) :
    Calls Tryd.prog 39 #[.slice none 0 0, .int .u64 u, .int .i64 16, .bool false, .bool false] W
      fun e W' => ∃ k, 1 ≤ k ∧ k ≤ 16 ∧ u < 16 ^ k ∧ e = .returned (.tuple #[.slice none 0 0, .string ⟨(hexL k u).toArray⟩]) ∧ Below W.heap.size W W' := by
  have z65 : Tryd.zeroCells95 = (zF.map bv).toArray := by unfold zF; rw [List.map_replicate]; rfl
  have hz := Blk.new (cs := zF.map bv) W 95 _ rfl
  have hb0 : Below W.heap.size W (W.alloc (.cells (zF.map bv).toArray 95)) := (Below.refl _ _).alloc (Nat.le_refl _) _
  have hT0 : DK (W.alloc (.cells (zF.map bv).toArray 95)) := fun k hk => by
    rw [World.cell?_alloc_lt _ _ _ (Lib.lt_of_cell (hT k hk))]; exact hT k hk
  have HZ := Lib.hid (And.intro hz (And.intro hb0 hT0))
  have HU := Lib.hid hu
  clear hz hb0 hT0 hu
  go_enter Tryd.func39, Tryd.ntmps39
  go_wp2_with fail
  obtain ⟨hz, hb0, hT0⟩ := HZ.out
  clear HZ hT
  generalize W.alloc (.cells (zF.map bv).toArray 95) = w0 at hz hb0 hT0 ⊢
  refine (pow16_any _).mono ?_
  rintro e w1 ⟨rfl, rfl⟩
  go_wp2_with fail
  refine (tz16_any _ hT0).mono ?_
  rintro e w2 ⟨rfl, rfl⟩
  clear hT0
  go_wp2_with fail
  go_loopw [1, 13] (fun uv i wr => ∃ (k m : Nat), k ≤ 15 ∧ i = .int .i64 ((65 - k : Nat) : Int) ∧ uv = .int .u64 m ∧ m = u / 16 ^ k ∧ Blk wr W.heap.size 95 ((fillF k u).map bv) ∧ Below W.heap.size W wr) (fun _ i _ => (intOf i).toNat)
  case atStart => exact ⟨0, u, by omega, rfl, rfl, by simp, hz, hb0⟩
  case round =>
    obtain ⟨k, m, hk, rfl, rfl, hm, hB, hb⟩ := hrel
    have hd16l := Nat.mod_lt m (show 0 < 16 by decide)
    have hst := fillF_step k u (by omega)
    rw [← hm] at hst
    have hms : m / 16 = u / 16 ^ (k + 1) := by rw [hm, Nat.div_div_eq_div_mul, Nat.pow_succ]
    have hml : m < 18446744073709551616 := by rw [hm]; exact Nat.lt_of_le_of_lt (Nat.div_le_self _ _) HU.out
    obtain ⟨j, hj⟩ : ∃ j, 64 - k = j := ⟨_, rfl⟩
    have hj1 : ((65 - k : Nat) : Int) - 1 = (j : Int) := by omega
    have hjl : j < 65 := by omega
    obtain ⟨i, hi⟩ : ∃ i, 65 - k = i := ⟨_, rfl⟩
    rw [hi] at hj1 ⊢
    have hil : i ≤ 65 := by omega
    have hk65 : k ≤ 65 := by omega
    rw [hj] at hst
    have HB := hB.set j (bv (hd16 (m % 16)))
    rw [hst] at HB
    have hb2 : Below W.heap.size W (wr.setCell ⟨W.heap.size, j, none⟩ (bv (hd16 (m % 16)))) := by
      rw [setCell_row hB]; exact below_row hb (Nat.le_refl _) _
    by_cases hlt : 16 ≤ m
    · obtain ⟨d, hd⟩ : ∃ d, m % 16 = d := ⟨_, rfl⟩
      obtain ⟨m2, hm2⟩ : ∃ d, m / 16 = d := ⟨_, rfl⟩
      rw [hd] at hd16l HB hb2
      have e1 : bits .and .u64 (m : Int) 15 = (d : Int) := by
        have h1 := u64_and_nat m 15 hml (by decide)
        rw [show (15 : Nat) = 2 ^ 4 - 1 by decide, Nat.and_two_pow_sub_one_eq_mod, show (2 : Nat) ^ 4 = 16 by decide, hd] at h1
        exact h1
      have e2 : (m : Int) / 16 = (m2 : Int) := by omega
      have e3 : (16 : Int) ≤ (m : Int) := by omega
      have hx := fun w => digit_at (P := Tryd.prog) w 9 Tryd.underlying9 d hd16l
      obtain ⟨y, hy⟩ : ∃ y, hd16 d = y := ⟨_, rfl⟩
      rw [hy] at hx HB hb2
      have hk15 : k < 15 := by
        rcases Nat.lt_or_ge k 15 with h | h
        · exact h
        · obtain rfl : k = 15 := by omega
          have := HU.out
          rw [show (16 : Nat) ^ 15 = 1152921504606846976 by decide] at hm
          omega
      have H := Lib.hid (show k + 1 ≤ 15 ∧ m2 = u / 16 ^ (k + 1) ∧ 65 - (k + 1) = j by refine ⟨by omega, by rw [← hm2, hms], by omega⟩)
      clear hm2 hd hy hst hms hm hj hi hk hk15
      have hfz := hB.frozen j
      have hcl : ∃ v, wr.cell? ⟨W.heap.size, j, none⟩ = some v := ⟨_, by rw [hB.cell, List.getElem?_eq_getElem (by rw [List.length_map, fillF_len _ _ hk65]; exact hjl)]⟩
      obtain ⟨v0, hcl⟩ := hcl
      go_wp2
      go_roundw
      case rel => exact ⟨k + 1, m2, H.out.1, by rw [H.out.2.2], rfl, H.out.2.1, HB, hb2⟩
      case measure => have := H.out; simp [intOf]; omega
    · have e3 : ¬ (16 : Int) ≤ (m : Int) := by omega
      have hmd : m % 16 = m := Nat.mod_eq_of_lt (by omega)
      rw [hmd] at hd16l HB hb2
      have hx := fun w => digit_at (P := Tryd.prog) w 9 Tryd.underlying9 m hd16l
      obtain ⟨y, hy⟩ : ∃ y, hd16 m = y := ⟨_, rfl⟩
      rw [hy] at hx HB hb2
      have H := Lib.hid (show k + 1 ≤ 16 ∧ u < 16 ^ (k + 1) by
        refine ⟨by omega, ?_⟩
        have h1 := Nat.lt_mul_div_succ u (Nat.pow_pos (n := k) (show 0 < 16 by decide))
        rw [Nat.pow_succ]
        refine Nat.lt_of_lt_of_le h1 (Nat.mul_le_mul_left _ ?_)
        rw [← hm]; omega)
      have hlen : (hexL (k + 1) u).length = k + 1 := hexL_len _ _
      have hdr : 65 - j = k + 1 := by omega
      have hS : Byt (wr.setCell ⟨W.heap.size, j, none⟩ (bv y)) (wr.setCell ⟨W.heap.size, j, none⟩ (bv y)).heap.size (some ⟨W.heap.size, j, none⟩) (65 - j) (hexL (k + 1) u) := by
        refine ⟨by omega, fun _ => ⟨W.heap.size, j, rfl, HB.lt, fun q x hq => ?_⟩⟩
        rw [HB.cell, List.getElem?_map]
        unfold fillF
        rw [List.getElem?_append_right (by rw [List.length_replicate]; omega), List.length_replicate, show j + q - (65 - (k + 1)) = q by omega, hq]
        rfl
      have hcv : (convert 50 9 (.slice (some ⟨W.heap.size, j, none⟩) (65 - j) (65 - j))).run Tryd.prog (wr.setCell ⟨W.heap.size, j, none⟩ (.int .u8 ((y.toNat : Nat) : Int))) = .ok (.string ⟨(hexL (k + 1) u).toArray⟩) (wr.setCell ⟨W.heap.size, j, none⟩ (.int .u8 ((y.toNat : Nat) : Int))) :=
        run_string_byt (P := Tryd.prog) (c := 65 - j) 50 9 5 Tryd.underlying50 Tryd.underlying5 Tryd.underlying9 hS
      have hfz := hB.frozen j
      have hcl : ∃ v, wr.cell? ⟨W.heap.size, j, none⟩ = some v := ⟨_, by rw [hB.cell, List.getElem?_eq_getElem (by rw [List.length_map, fillF_len _ _ hk65]; exact hjl)]⟩
      obtain ⟨v0, hcl⟩ := hcl
      have hal : Tryd.prog.arrayLen 95 = 65 := by kernel_rfl
      have hsl1 : ∀ W2, (Instr.sliceAt 95 (.pointer (some ⟨W.heap.size, 0, none⟩)) (some (.int .i64 (j : Int))) none none).run Tryd.prog W2 = .ok (.slice (some ⟨W.heap.size, j, none⟩) (65 - j) (65 - j)) W2 := fun W2 => by
        rw [run_sliceAt_array_l W2 95 ⟨W.heap.size, 0, none⟩ (by simp [Program.arrayLen, Program.elem, Tryd.underlying95]) .i64 (j : Int) (by omega) (by rw [hal]; omega)]
        rw [hal]
        go_simp
        omega
      clear hst hms hm hy hi hj hk hlen hdr hal
      go_wp2
      go_ret2
      exact ⟨k + 1, by omega, H.out.1, H.out.2, rfl, hb2⟩

set_option maxRecDepth 100000 in
theorem formatUint16_any (u : Nat) (hu : u < 18446744073709551616) (W : World) (hT : DK W) :
    Calls Tryd.prog 13 #[.int .u64 u, .int .i64 16] W fun e W' => ∃ k, 1 ≤ k ∧ k ≤ 16 ∧ u < 16 ^ k ∧ e = .returned (.string ⟨(hexL k u).toArray⟩) ∧ Below W.heap.size W W' := by
  have hF : Calls Tryd.prog 20 #[.int .u64 u, .int .i64 16] W fun e W' => ∃ k, 1 ≤ k ∧ k ≤ 16 ∧ u < 16 ^ k ∧ e = .returned (.string ⟨(hexL k u).toArray⟩) ∧ Below W.heap.size W W' := by
    go_enter Tryd.func20, Tryd.ntmps20
    go_wp2_with fail
    refine (formatBits_any u hu W hT).mono ?_
    rintro e w1 ⟨k, h1, h2, h3, rfl, hb⟩
    have H := Lib.hid (And.intro h1 (And.intro h2 h3))
    clear h1 h2 h3
    go_wp2_with fail
    go_ret
    exact ⟨k, H.out.1, H.out.2.1, H.out.2.2, rfl, hb⟩
  go_enter Tryd.func13, Tryd.ntmps13
  go_wp2_with fail
  refine hF.mono ?_
  rintro e w1 ⟨k, h1, h2, h3, rfl, hb⟩
  have H := Lib.hid (And.intro h1 (And.intro h2 h3))
  clear h1 h2 h3 hF
  go_wp2_with fail
  go_ret
  exact ⟨k, H.out.1, H.out.2.1, H.out.2.2, rfl, hb⟩

theorem hexL_pad (u : Nat) : ∀ d k, u < 16 ^ k → hexL (d + k) u = List.replicate d 48 ++ hexL k u := by
  intro d
  induction d with
  | zero => intro k h; rw [Nat.zero_add]; rfl
  | succ d ih =>
    intro k h
    rw [show d + 1 + k = (d + k) + 1 by omega]
    show hd16 (u / 16 ^ (d + k) % 16) :: hexL (d + k) u = _
    rw [Nat.div_eq_of_lt (Nat.lt_of_lt_of_le h (Nat.pow_le_pow_right (by decide) (by omega))), ih k h, List.replicate_succ]
    rfl

theorem repeat48_any (d : Nat) (hd : d ≤ 16) (W : World) : Calls Tryd.prog 14 #[.string ⟨#[48]⟩, .int .i64 d] W fun e W' => e = .returned (.string ⟨(List.replicate d (48 : UInt8)).toArray⟩) ∧ Below W.heap.size W W' := by
  have hrep : ∀ d : Nat, Lib.repeatL [(48 : UInt8)] d = List.replicate d 48 := by
    intro d
    induction d with
    | zero => rfl
    | succ d ih => show [(48 : UInt8)] ++ Lib.repeatL [48] d = _; rw [ih, List.replicate_succ]; rfl
  rcases Nat.lt_or_ge d 2 with h | h
  · rcases (show d = 0 ∨ d = 1 by omega) with rfl | rfl
    · exact (Tryd.strings_Repeat_zero _ W).mono fun e W' h => ⟨h.1, by rw [h.2]; exact Below.refl _ _⟩
    · exact (Tryd.strings_Repeat_one _ W).mono fun e W' h => ⟨h.1, by rw [h.2]; exact Below.refl _ _⟩
  · have := Tryd.strings_Repeat_main ⟨#[48]⟩ d W h (by omega) (by show 1 * d ≤ _; omega) (by show 0 < 1; omega)
    rw [show (⟨#[48]⟩ : ByteArray).data.toList = [(48 : UInt8)] from rfl, hrep] at this
    exact this

set_option maxRecDepth 100000 in
theorem sname_any (n : Nat) (W : World) (hn : n < 18446744073709551616) (hT : DK W) :
    Calls Tryd.prog 7 #[.int .u64 (n : Nat)] W fun e W' => e = .returned (.string ⟨(nameL n).toArray⟩) ∧ Below W.heap.size W W' := by
  go_enter Tryd.func7, Tryd.ntmps7
  go_wp2_with fail
  refine (formatUint16_any n hn W hT).mono ?_
  rintro e w1 ⟨k, h1, h2, h3, rfl, hb⟩
  have hlen := hexL_len k n
  obtain ⟨d, hd⟩ : ∃ d, 16 - k = d := ⟨_, rfl⟩
  have hdk : d ≤ 16 := by omega
  have HN := Lib.hid (show (nameL n) = 119 :: (List.replicate d 48 ++ hexL k n) by unfold nameL; rw [← hexL_pad n d k h3, show d + k = 16 by omega])
  obtain ⟨L, hL⟩ : ∃ L, hexL k n = L := ⟨_, rfl⟩
  rw [hL] at hlen HN ⊢
  have hls : (⟨L.toArray⟩ : ByteArray).size = k := by show L.toArray.size = k; rw [List.size_toArray, hlen]
  have hsub : (16 : Int) - (k : Int) = (d : Int) := by omega
  have hR := fun w => repeat48_any d hdk w
  have ha1 := fun w => add_txts (P := Tryd.prog) [119] (List.replicate d 48) (119 :: List.replicate d 48) rfl (by simp) (by rw [List.length_replicate]; omega) w
  have ha2 := fun w => add_txts (P := Tryd.prog) (119 :: List.replicate d 48) L (nameL n) HN.out (by rw [List.length_cons, List.length_replicate]; omega) (by omega) w
  obtain ⟨NL, hNL⟩ : ∃ NL, nameL n = NL := ⟨_, rfl⟩
  rw [hNL] at ha2 HN
  have HNL := Lib.hid hNL
  obtain ⟨M, hM⟩ : ∃ M, List.replicate d (48 : UInt8) = M := ⟨_, rfl⟩
  rw [hM] at hR ha1 ha2
  obtain ⟨M2, hM2⟩ : ∃ M2, 119 :: M = M2 := ⟨_, rfl⟩
  rw [hM2] at ha1 ha2
  have ha1 : ∀ w, (Op.stringOp .add ⟨#[119]⟩ ⟨M.toArray⟩).run Tryd.prog w = .ok (.string ⟨M2.toArray⟩) w := ha1
  clear hM hM2 HN hL hlen hd h1 h2 h3 hdk hNL
  go_wp2_with fail
  refine (hR _).mono ?_
  rintro e w2 ⟨rfl, hb2⟩
  have hB := bthen hb hb2
  go_wp2_with fail
  go_ret
  exact ⟨by rw [HNL.out]; rfl, hB⟩

end Go.Proofs.YtgococpbhbcpmaaDoor
