/-
  The library's digits of base 16, and the program's names of segments.
-/
import Derived.Test.YthjikbhjciphiaaGreatDoorZz7
import Derived.Test.YthjikbhjciphiaaGreatDoorZz17
import Derived.Test.YthjikbhjciphiaaGreatDoorZz37
import Derived.Test.YthjikbhjciphiaaGreatDoorZz30
import Derived.Test.YthjikbhjciphiaaGreatDoorZz23
import Derived.BigRegion
import Derived.Test.YthjikbhjciphiaaGreatDoorZz20
import Derived.Test.YthjikbhjciphiaaGreatDoorZz3
namespace Go.Proofs.YthjikbhjciphiaaGreatDoor
open Go.RowKit
set_option linter.unusedVariables false
set_option linter.unusedSimpArgs false

/-- The library's variables that names of segments read. -/
def SV (W : World) : Prop := DK W ∧ (∃ ev, W.cell? ⟨1, 0, none⟩ = some ev ∧ (ev = .nilIface ∨ ∃ te pe, ev = .iface te pe)) ∧ ∃ ev, W.cell? ⟨2, 0, none⟩ = some ev ∧ (ev = .nilIface ∨ ∃ te pe, ev = .iface te pe)

theorem SV.below {W W' : World} (h : SV W) (b : Below W.heap.size W W') : SV W' := by
  obtain ⟨h1, ⟨e1, h2, h3⟩, e2, h4, h5⟩ := h
  refine ⟨fun k hk => ?_, ⟨e1, ?_, h3⟩, e2, ?_, h5⟩
  · rw [b.cell (by show _ < W.heap.size; exact Lib.lt_of_cell (h1 k hk))]; exact h1 k hk
  · rw [b.cell (by show _ < W.heap.size; exact Lib.lt_of_cell h2)]; exact h2
  · rw [b.cell (by show _ < W.heap.size; exact Lib.lt_of_cell h4)]; exact h4

theorem tz16_any (W : World) (hT : DK W) : Calls Tryz.prog 183 #[.int .u64 16] W fun e W' => e = .returned (.int .i64 4) ∧ W' = W := by
  have h := fun w hw => tz64_any 16 (by decide) (by decide) w hw
  rw [show Lib.ctz 64 16 = 4 by decide] at h
  go_enter Tryz.func183, Tryz.ntmps183
  go_wp2_with fail
  refine (h _ hT).mono ?_
  rintro e w1 ⟨rfl, rfl⟩
  go_wp2_with fail
  go_ret
  exact ⟨rfl, rfl⟩

theorem pow16_any (W : World) : Calls Tryz.prog 182 #[.int .i64 16] W fun e W' => e = .returned (.bool true) ∧ W' = W := by
  have h : bits .and .i64 16 15 = 0 := by decide
  go_enter Tryz.func182, Tryz.ntmps182
  go_wp2
  go_ret
  exact ⟨rfl, rfl⟩

/-- 65 zeros. -/
def zF : List UInt8 := List.replicate 65 0
theorem zF_len : zF.length = 65 := by unfold zF; rw [List.length_replicate]
/-- The array behind k digits. -/
def fillF (k u : Nat) : List UInt8 := List.replicate (65 - k) 0 ++ hexL k u
theorem fillF_len (k u : Nat) (h : k ≤ 65) : (fillF k u).length = 65 := by unfold fillF; rw [List.length_append, List.length_replicate, hexL_len]; omega
theorem hexL_mod (k : Nat) : ∀ j n, hexL j (n / 16 ^ 0) = hexL j n := by intro j n; simp
theorem fillF_step (k u : Nat) (h : k < 65) : ((fillF k u).map bv).set (64 - k) (bv (hd16 (u / 16 ^ k % 16))) = (fillF (k + 1) u).map bv := by
  rw [← List.map_set]
  congr 1
  unfold fillF
  have e : 65 - k = (64 - k) + 1 := by omega
  rw [e, List.replicate_succ', List.append_assoc, List.set_append_right _ _ (by rw [List.length_replicate]; exact Nat.le_refl _), List.length_replicate, Nat.sub_self, show 65 - (k + 1) = 64 - k by omega]
  rfl
theorem digit_at {P : Program} (w : World) (t : TypeId) (h : P.underlying t = some .string) (d : Nat) (hd : d < 16) :
    (Instr.index t (.string ⟨#[48, 49, 50, 51, 52, 53, 54, 55, 56, 57, 97, 98, 99, 100, 101, 102, 103, 104, 105, 106, 107, 108, 109, 110, 111, 112, 113, 114, 115, 116, 117, 118, 119, 120, 121, 122]⟩) (.int .u64 (d : Nat))).run P w = .ok (.int .u8 (((hd16 d).toNat : Nat) : Int)) w := by
  rw [run_index_string w t _ .u64 _ h, dif_pos ⟨by omega, by show _ < ((36 : Nat) : Int); omega⟩]
  have e : ∀ d : Fin 16, ((⟨#[48, 49, 50, 51, 52, 53, 54, 55, 56, 57, 97, 98, 99, 100, 101, 102, 103, 104, 105, 106, 107, 108, 109, 110, 111, 112, 113, 114, 115, 116, 117, 118, 119, 120, 121, 122]⟩ : ByteArray)[d.val]'(Nat.lt_of_lt_of_le d.isLt (by decide))) = hd16 d.val := by decide +kernel
  have := e ⟨d, hd⟩
  simp only [Int.toNat_natCast]
  simp only at this
  rw [this]

set_option maxRecDepth 100000 in
set_option maxHeartbeats 4000000 in
theorem formatBits_any (u : Nat) (hu : u < 18446744073709551616) (W : World) (hT : DK W) :
    Calls Tryz.prog 139 #[.slice none 0 0, .int .u64 u, .int .i64 16, .bool false, .bool false] W
      fun e W' => ∃ k, 1 ≤ k ∧ k ≤ 16 ∧ u < 16 ^ k ∧ e = .returned (.tuple #[.slice none 0 0, .string ⟨(hexL k u).toArray⟩]) ∧ Below W.heap.size W W' := by
  have z65 : Tryz.zeroCells219 = (zF.map bv).toArray := by unfold zF; rw [List.map_replicate]; rfl
  have hz := Blk.new (cs := zF.map bv) W 219 _ rfl
  have hb0 : Below W.heap.size W (W.alloc (.cells (zF.map bv).toArray 219)) := (Below.refl _ _).alloc (Nat.le_refl _) _
  have hT0 : DK (W.alloc (.cells (zF.map bv).toArray 219)) := fun k hk => by
    rw [World.cell?_alloc_lt _ _ _ (Lib.lt_of_cell (hT k hk))]; exact hT k hk
  have HZ := Lib.hid (And.intro hz (And.intro hb0 hT0))
  have HU := Lib.hid hu
  clear hz hb0 hT0 hu
  go_enter Tryz.func139, Tryz.ntmps139
  go_wp2_with fail
  obtain ⟨hz, hb0, hT0⟩ := HZ.out
  clear HZ hT
  generalize W.alloc (.cells (zF.map bv).toArray 219) = w0 at hz hb0 hT0 ⊢
  refine (pow16_any _).mono ?_
  rintro e w1 ⟨rfl, rfl⟩
  go_wp2_with fail
  refine (tz16_any _ hT0).mono ?_
  rintro e w2 ⟨rfl, rfl⟩
  clear hT0
  go_wp2_with fail
  go_loopw [1, 13] (fun uv i wr => ∃ (k m : Nat), k ≤ 15 ∧ i = .int .i64 ((65 - k : Nat) : Int) ∧ uv = .int .u64 m ∧ m = u / 16 ^ k ∧ Blk wr W.heap.size 219 ((fillF k u).map bv) ∧ Below W.heap.size W wr) (fun _ i _ => (intOf i).toNat)
  case atStart => exact ⟨0, u, by omega, rfl, rfl, by simp, hz, hb0⟩
  case round =>
    obtain ⟨k, m, hk, rfl, rfl, hm, hB, hb⟩ := hrel
    have hd16l := Nat.mod_lt m (show 0 < 16 by decide)
    have hst := fillF_step k u (by omega)
    rw [← hm] at hst
    have hms : m / 16 = u / 16 ^ (k + 1) := by rw [hm, Nat.div_div_eq_div_mul, Nat.pow_succ]
    have hml : m < 18446744073709551616 := by rw [hm]; exact Nat.lt_of_le_of_lt (Nat.div_le_self _ _) HU.out
    obtain ⟨j, hj⟩ : ∃ j, 64 - k = j := ⟨_, rfl⟩
    have hj1 : ((65 - k : Nat) : Int) - 1 = (j : Int) := by omega
    have hjl : j < 65 := by omega
    obtain ⟨i, hi⟩ : ∃ i, 65 - k = i := ⟨_, rfl⟩
    rw [hi] at hj1 ⊢
    have hil : i ≤ 65 := by omega
    have hk65 : k ≤ 65 := by omega
    rw [hj] at hst
    have HB := hB.set j (bv (hd16 (m % 16)))
    rw [hst] at HB
    have hb2 : Below W.heap.size W (wr.setCell ⟨W.heap.size, j, none⟩ (bv (hd16 (m % 16)))) := by
      rw [setCell_row hB]; exact below_row hb (Nat.le_refl _) _
    by_cases hlt : 16 ≤ m
    · obtain ⟨d, hd⟩ : ∃ d, m % 16 = d := ⟨_, rfl⟩
      obtain ⟨m2, hm2⟩ : ∃ d, m / 16 = d := ⟨_, rfl⟩
      rw [hd] at hd16l HB hb2
      have e1 : bits .and .u64 (m : Int) 15 = (d : Int) := by
        have h1 := u64_and_nat m 15 hml (by decide)
        rw [show (15 : Nat) = 2 ^ 4 - 1 by decide, Nat.and_two_pow_sub_one_eq_mod, show (2 : Nat) ^ 4 = 16 by decide, hd] at h1
        exact h1
      have e2 : (m : Int) / 16 = (m2 : Int) := by omega
      have e3 : (16 : Int) ≤ (m : Int) := by omega
      have hx := fun w => digit_at (P := Tryz.prog) w 9 Tryz.underlying9 d hd16l
      obtain ⟨y, hy⟩ : ∃ y, hd16 d = y := ⟨_, rfl⟩
      rw [hy] at hx HB hb2
      have hk15 : k < 15 := by
        rcases Nat.lt_or_ge k 15 with h | h
        · exact h
        · obtain rfl : k = 15 := by omega
          have := HU.out
          rw [show (16 : Nat) ^ 15 = 1152921504606846976 by decide] at hm
          omega
      have H := Lib.hid (show k + 1 ≤ 15 ∧ m2 = u / 16 ^ (k + 1) ∧ 65 - (k + 1) = j by refine ⟨by omega, by rw [← hm2, hms], by omega⟩)
      clear hm2 hd hy hst hms hm hj hi hk hk15
      have hfz := hB.frozen j
      have hcl : ∃ v, wr.cell? ⟨W.heap.size, j, none⟩ = some v := ⟨_, by rw [hB.cell, List.getElem?_eq_getElem (by rw [List.length_map, fillF_len _ _ hk65]; exact hjl)]⟩
      obtain ⟨v0, hcl⟩ := hcl
      go_wp2
      go_roundw
      case rel => exact ⟨k + 1, m2, H.out.1, by rw [H.out.2.2], rfl, H.out.2.1, HB, hb2⟩
      case measure => have := H.out; simp [intOf]; omega
    · have e3 : ¬ (16 : Int) ≤ (m : Int) := by omega
      have hmd : m % 16 = m := Nat.mod_eq_of_lt (by omega)
      rw [hmd] at hd16l HB hb2
      have hx := fun w => digit_at (P := Tryz.prog) w 9 Tryz.underlying9 m hd16l
      obtain ⟨y, hy⟩ : ∃ y, hd16 m = y := ⟨_, rfl⟩
      rw [hy] at hx HB hb2
      have H := Lib.hid (show k + 1 ≤ 16 ∧ u < 16 ^ (k + 1) by
        refine ⟨by omega, ?_⟩
        have h1 := Nat.lt_mul_div_succ u (Nat.pow_pos (n := k) (show 0 < 16 by decide))
        rw [Nat.pow_succ]
        refine Nat.lt_of_lt_of_le h1 (Nat.mul_le_mul_left _ ?_)
        rw [← hm]; omega)
      have hlen : (hexL (k + 1) u).length = k + 1 := hexL_len _ _
      have hdr : 65 - j = k + 1 := by omega
      have hS : Byt (wr.setCell ⟨W.heap.size, j, none⟩ (bv y)) (wr.setCell ⟨W.heap.size, j, none⟩ (bv y)).heap.size (some ⟨W.heap.size, j, none⟩) (65 - j) (hexL (k + 1) u) := by
        refine ⟨by omega, fun _ => ⟨W.heap.size, j, rfl, HB.lt, fun q x hq => ?_⟩⟩
        rw [HB.cell, List.getElem?_map]
        unfold fillF
        rw [List.getElem?_append_right (by rw [List.length_replicate]; omega), List.length_replicate, show j + q - (65 - (k + 1)) = q by omega, hq]
        rfl
      have hcv : (convert 70 9 (.slice (some ⟨W.heap.size, j, none⟩) (65 - j) (65 - j))).run Tryz.prog (wr.setCell ⟨W.heap.size, j, none⟩ (.int .u8 ((y.toNat : Nat) : Int))) = .ok (.string ⟨(hexL (k + 1) u).toArray⟩) (wr.setCell ⟨W.heap.size, j, none⟩ (.int .u8 ((y.toNat : Nat) : Int))) :=
        run_string_byt (P := Tryz.prog) (c := 65 - j) 70 9 5 Tryz.underlying70 Tryz.underlying5 Tryz.underlying9 hS
      have hfz := hB.frozen j
      have hcl : ∃ v, wr.cell? ⟨W.heap.size, j, none⟩ = some v := ⟨_, by rw [hB.cell, List.getElem?_eq_getElem (by rw [List.length_map, fillF_len _ _ hk65]; exact hjl)]⟩
      obtain ⟨v0, hcl⟩ := hcl
      have hal : Tryz.prog.arrayLen 219 = 65 := by kernel_rfl
      have hsl1 : ∀ W2, (Instr.sliceAt 219 (.pointer (some ⟨W.heap.size, 0, none⟩)) (some (.int .i64 (j : Int))) none none).run Tryz.prog W2 = .ok (.slice (some ⟨W.heap.size, j, none⟩) (65 - j) (65 - j)) W2 := fun W2 => by
        rw [run_sliceAt_array_l W2 219 ⟨W.heap.size, 0, none⟩ (by simp [Program.arrayLen, Program.elem, Tryz.underlying219]) .i64 (j : Int) (by omega) (by rw [hal]; omega)]
        rw [hal]
        go_simp
        omega
      clear hst hms hm hy hi hj hk hlen hdr hal
      go_wp2
      go_ret2
      exact ⟨k + 1, by omega, H.out.1, H.out.2, rfl, hb2⟩

set_option maxRecDepth 100000 in
theorem formatUint16_any (u : Nat) (hu : u < 18446744073709551616) (W : World) (hT : DK W) :
    Calls Tryz.prog 64 #[.int .u64 u, .int .i64 16] W fun e W' => ∃ k, 1 ≤ k ∧ k ≤ 16 ∧ u < 16 ^ k ∧ e = .returned (.string ⟨(hexL k u).toArray⟩) ∧ Below W.heap.size W W' := by
  have hF : Calls Tryz.prog 92 #[.int .u64 u, .int .i64 16] W fun e W' => ∃ k, 1 ≤ k ∧ k ≤ 16 ∧ u < 16 ^ k ∧ e = .returned (.string ⟨(hexL k u).toArray⟩) ∧ Below W.heap.size W W' := by
    go_enter Tryz.func92, Tryz.ntmps92
    go_wp2_with fail
    refine (formatBits_any u hu W hT).mono ?_
    rintro e w1 ⟨k, h1, h2, h3, rfl, hb⟩
    have H := Lib.hid (And.intro h1 (And.intro h2 h3))
    clear h1 h2 h3
    go_wp2_with fail
    go_ret
    exact ⟨k, H.out.1, H.out.2.1, H.out.2.2, rfl, hb⟩
  go_enter Tryz.func64, Tryz.ntmps64
  go_wp2_with fail
  refine hF.mono ?_
  rintro e w1 ⟨k, h1, h2, h3, rfl, hb⟩
  have H := Lib.hid (And.intro h1 (And.intro h2 h3))
  clear h1 h2 h3 hF
  go_wp2_with fail
  go_ret
  exact ⟨k, H.out.1, H.out.2.1, H.out.2.2, rfl, hb⟩

theorem hexL_pad (u : Nat) : ∀ d k, u < 16 ^ k → hexL (d + k) u = List.replicate d 48 ++ hexL k u := by
  intro d
  induction d with
  | zero => intro k h; rw [Nat.zero_add]; rfl
  | succ d ih =>
    intro k h
    rw [show d + 1 + k = (d + k) + 1 by omega]
    show hd16 (u / 16 ^ (d + k) % 16) :: hexL (d + k) u = _
    rw [Nat.div_eq_of_lt (Nat.lt_of_lt_of_le h (Nat.pow_le_pow_right (by decide) (by omega))), ih k h, List.replicate_succ]
    rfl

theorem repeat48_any (d : Nat) (hd : d ≤ 16) (W : World) : Calls Tryz.prog 65 #[.string ⟨#[48]⟩, .int .i64 d] W fun e W' => e = .returned (.string ⟨(List.replicate d (48 : UInt8)).toArray⟩) ∧ Below W.heap.size W W' := by
  have hrep : ∀ d : Nat, Lib.repeatL [(48 : UInt8)] d = List.replicate d 48 := by
    intro d
    induction d with
    | zero => rfl
    | succ d ih => show [(48 : UInt8)] ++ Lib.repeatL [48] d = _; rw [ih, List.replicate_succ]; rfl
  rcases Nat.lt_or_ge d 2 with h | h
  · rcases (show d = 0 ∨ d = 1 by omega) with rfl | rfl
    · exact (Tryz.strings_Repeat_zero _ W).mono fun e W' h => ⟨h.1, by rw [h.2]; exact Below.refl _ _⟩
    · exact (Tryz.strings_Repeat_one _ W).mono fun e W' h => ⟨h.1, by rw [h.2]; exact Below.refl _ _⟩
  · have := Tryz.strings_Repeat_main ⟨#[48]⟩ d W h (by omega) (by show 1 * d ≤ _; omega) (by show 0 < 1; omega)
    rw [show (⟨#[48]⟩ : ByteArray).data.toList = [(48 : UInt8)] from rfl, hrep] at this
    exact this

set_option maxRecDepth 100000 in
theorem sname_any (n : Nat) (W : World) (hn : n < 18446744073709551616) (hT : DK W) :
    Calls Tryz.prog 41 #[.int .u64 (n : Nat)] W fun e W' => e = .returned (.string ⟨(nameL n).toArray⟩) ∧ Below W.heap.size W W' := by
  go_enter Tryz.func41, Tryz.ntmps41
  go_wp2_with fail
  refine (formatUint16_any n hn W hT).mono ?_
  rintro e w1 ⟨k, h1, h2, h3, rfl, hb⟩
  have hlen := hexL_len k n
  obtain ⟨d, hd⟩ : ∃ d, 16 - k = d := ⟨_, rfl⟩
  have hdk : d ≤ 16 := by omega
  have HN := Lib.hid (show (nameL n) = 119 :: (List.replicate d 48 ++ hexL k n) by unfold nameL; rw [← hexL_pad n d k h3, show d + k = 16 by omega])
  obtain ⟨L, hL⟩ : ∃ L, hexL k n = L := ⟨_, rfl⟩
  rw [hL] at hlen HN ⊢
  have hls : (⟨L.toArray⟩ : ByteArray).size = k := by show L.toArray.size = k; rw [List.size_toArray, hlen]
  have hsub : (16 : Int) - (k : Int) = (d : Int) := by omega
  have hR := fun w => repeat48_any d hdk w
  have ha1 := fun w => add_txts (P := Tryz.prog) [119] (List.replicate d 48) (119 :: List.replicate d 48) rfl (by simp) (by rw [List.length_replicate]; omega) w
  have ha2 := fun w => add_txts (P := Tryz.prog) (119 :: List.replicate d 48) L (nameL n) HN.out (by rw [List.length_cons, List.length_replicate]; omega) (by omega) w
  obtain ⟨NL, hNL⟩ : ∃ NL, nameL n = NL := ⟨_, rfl⟩
  rw [hNL] at ha2 HN
  have HNL := Lib.hid hNL
  obtain ⟨M, hM⟩ : ∃ M, List.replicate d (48 : UInt8) = M := ⟨_, rfl⟩
  rw [hM] at hR ha1 ha2
  obtain ⟨M2, hM2⟩ : ∃ M2, 119 :: M = M2 := ⟨_, rfl⟩
  rw [hM2] at ha1 ha2
  have ha1 : ∀ w, (Op.stringOp .add ⟨#[119]⟩ ⟨M.toArray⟩).run Tryz.prog w = .ok (.string ⟨M2.toArray⟩) w := ha1
  clear hM hM2 HN hL hlen hd h1 h2 h3 hdk hNL
  go_wp2_with fail
  refine (hR _).mono ?_
  rintro e w2 ⟨rfl, hb2⟩
  have hB := bthen hb hb2
  go_wp2_with fail
  go_ret
  exact ⟨by rw [HNL.out]; rfl, hB⟩

end Go.Proofs.YthjikbhjciphiaaGreatDoor

/-
  The program's journal in memory: Next, Sure, Waits, and what a journal that is nil answers.
-/
namespace Go.Proofs.YthjikbhjciphiaaGreatDoor
open Go.RowKit
set_option linter.unusedVariables false
set_option linter.unusedSimpArgs false

/-- The cells of a journal. -/
def lgL (q : Nat) (j : Jn) (A : Option Addr) (c : Nat) : List Value := [.pointer (some ⟨q, 0, none⟩), .int .u64 ((j.next : Nat) : Int), .slice A j.buf.length c, .int .u64 ((j.own : Nat) : Int), .int .i64 ((j.size : Nat) : Int)]
/-- Block p is the journal j on the disk q, T its blocks; A: where its buffered records lie. -/
structure LDat (w : World) (T : Nat → Prop) (p q : Nat) (j : Jn) (A : Option Addr) (c : Nat) : Prop where
  blk : Blk w p 68 (lgL q j A c)
  own : w.ownsRow (p + 1) 35 6 (.slice A j.buf.length c) j.buf.length (rcCells j.buf)
  sp : ∀ k, T k ↔ k = p ∨ ∃ a, A = some a ∧ a.block = k
  next : j.next = j.sure + 1 + j.buf.length
  small : j.next < 18446744073709551616 ∧ j.own < 18446744073709551616 ∧ j.size < 1000000000
/-- .. with no word of where its records lie; above N. -/
def LAn (N : Nat) (w : World) (T : Nat → Prop) (p q : Nat) (j : Jn) : Prop := N ≤ p ∧ ∃ A c, LDat w T p q j A c
theorem own_lenA {w : World} {base : Nat} {A : Option Addr} {n c : Nat} {xs : List Value} {e : TypeId} {size : Nat} (h : w.ownsRow base e size (.slice A n c) n xs) : n ≤ c ∧ c ≤ maxLen ∧ (A = none → n = 0 ∧ c = 0) ∧ ∀ a, A = some a → base ≤ a.block ∧ a.block < w.heap.size := by
  rcases h.2 with ⟨h1, h2⟩ | ⟨g, cap, cur, hv, hg, hh, hn, hc, _⟩
  · injection h1 with e1 e2 e3
    subst e1 e3 h2
    exact ⟨Nat.le_refl _, Nat.zero_le _, fun _ => ⟨rfl, rfl⟩, fun a h => by cases h⟩
  · injection hv with e1 e2 e3
    subst e1 e3
    exact ⟨hn, hc, fun h => (by cases h), fun a h => by cases h; exact ⟨hg, (Array.getElem?_eq_some_iff.1 hh).1⟩⟩
section
variable {w w' : World} {T S' : Nat → Prop} {p q c : Nat} {j : Jn} {A : Option Addr}
theorem LDat.turn (h : LDat w T p q j A c) (ht : Turn S' w w') (hn : ∀ k, S' k → ¬ T k) : LDat w' T p q j A c :=
  ⟨ht.blk h.blk (fun e => hn _ e ((h.sp _).2 (.inl rfl))), own_turn h.own ht (fun a ha e => hn _ e ((h.sp _).2 (.inr ⟨a, ha, rfl⟩))), h.sp, h.next, h.small⟩
theorem LDat.here (h : LDat w T p q j A c) : T p ∧ ∀ k, T k → p ≤ k ∧ k < w.heap.size := by
  refine ⟨(h.sp p).2 (.inl rfl), fun k hk => ?_⟩
  rcases (h.sp k).1 hk with rfl | ⟨a, ha, rfl⟩
  · exact ⟨Nat.le_refl _, h.blk.lt⟩
  · have := (own_lenA h.own).2.2.2 a ha
    exact ⟨by omega, this.2⟩

theorem lnext_any (W : World) (h : LDat W T p q j A c) : Calls Tryz.prog 11 #[.pointer (some ⟨p, 0, none⟩)] W fun e W' => e = .returned (.int .u64 ((j.next : Nat) : Int)) ∧ W' = W := by
  have c1 : W.cell? ⟨p, 1, none⟩ = some (.int .u64 ((j.next : Nat) : Int)) := h.blk.cell 1
  clear h
  go_enter Tryz.func11, Tryz.ntmps11
  go_wp2_with fail
  go_ret
  exact ⟨rfl, rfl⟩

theorem lwaits_any (W : World) (h : LDat W T p q j A c) : Calls Tryz.prog 22 #[.pointer (some ⟨p, 0, none⟩)] W fun e W' => e = .returned (.int .i64 ((j.buf.length : Nat) : Int)) ∧ W' = W := by
  have c1 : W.cell? ⟨p, 2, none⟩ = some (.slice A j.buf.length c) := h.blk.cell 2
  clear h
  go_enter Tryz.func22, Tryz.ntmps22
  go_wp2_with fail
  go_ret
  exact ⟨rfl, rfl⟩

theorem lsure_any (W : World) (h : LDat W T p q j A c) : Calls Tryz.prog 21 #[.pointer (some ⟨p, 0, none⟩)] W fun e W' => e = .returned (.int .u64 ((j.sure : Nat) : Int)) ∧ ∃ k, W' = W.drewN k := by
  have c1 : W.cell? ⟨p, 1, none⟩ = some (.int .u64 ((j.next : Nat) : Int)) := h.blk.cell 1
  have c2 : W.cell? ⟨p, 2, none⟩ = some (.slice A j.buf.length c) := h.blk.cell 2
  obtain ⟨n, hn⟩ : ∃ n, j.buf.length = n := ⟨_, rfl⟩
  obtain ⟨x, hx⟩ : ∃ x, j.next = x := ⟨_, rfl⟩
  obtain ⟨s, hs⟩ : ∃ s, j.sure = s := ⟨_, rfl⟩
  have hnx := h.next
  have hsm := h.small.1
  rw [hn] at c2 hnx
  rw [hx] at c1 hnx hsm
  rw [hs] at hnx ⊢
  have e1 : IntKind.u64.wrap ((x : Int) - 1) = (x : Int) - 1 := by rw [IntKind.wrap_u64]; omega
  have e2 : IntKind.u64.wrap (n : Int) = (n : Int) := by rw [IntKind.wrap_u64]; omega
  have e3 : IntKind.u64.wrap ((x : Int) - 1 - (n : Int)) = (s : Int) := by rw [IntKind.wrap_u64]; omega
  clear h hn hx hs hnx hsm
  go_enter Tryz.func21, Tryz.ntmps21
  go_wp2_with fail
  go_region
  go_wp2_with fail
  go_ret
  exact ⟨rfl, ⟨_, rfl⟩⟩
end

theorem lnext_nil (W : World) : Calls Tryz.prog 11 #[.pointer none] W fun e W' => e = .returned (.int .u64 0) ∧ W' = W := by
  go_enter Tryz.func11, Tryz.ntmps11
  go_wp2_with fail
  go_ret
  exact ⟨rfl, rfl⟩

theorem lsure_nil (W : World) : Calls Tryz.prog 21 #[.pointer none] W fun e W' => e = .returned (.int .u64 0) ∧ W' = W := by
  go_enter Tryz.func21, Tryz.ntmps21
  go_wp2_with fail
  go_ret
  exact ⟨rfl, rfl⟩

theorem lwaits_nil (W : World) : Calls Tryz.prog 22 #[.pointer none] W fun e W' => e = .returned (.int .i64 0) ∧ W' = W := by
  go_enter Tryz.func22, Tryz.ntmps22
  go_wp2_with fail
  go_ret
  exact ⟨rfl, rfl⟩

theorem lcommit_nil (W : World) : Calls Tryz.prog 14 #[.pointer none] W fun e W' => e = .returned (.int .i64 8) ∧ W' = W := by
  go_enter Tryz.func14, Tryz.ntmps14
  go_wp2_with fail
  go_ret
  exact ⟨rfl, rfl⟩

theorem lput_nil (W : World) (s : Nat) (k : Int) (X : ByteArray) (l n b : Nat) : Calls Tryz.prog 12 #[.pointer none, rcV s k X l n b] W fun e W' => e = .returned (.tuple #[.int .u64 0, .int .i64 8]) ∧ Below W.heap.size W W' := by
  unfold rcV
  go_enter Tryz.func12, Tryz.ntmps12
  go_wp2_with fail
  go_ret2
  exact ⟨rfl, (Below.refl _ _).alloc (Nat.le_refl _) _⟩

theorem ldrop_nil (W : World) (s : Nat) : Calls Tryz.prog 25 #[.pointer none, .int .u64 ((s : Nat) : Int)] W fun e W' => e = .returned (.int .i64 8) ∧ W' = W := by
  go_enter Tryz.func25, Tryz.ntmps25
  go_wp2_with fail
  go_ret
  exact ⟨rfl, rfl⟩

end Go.Proofs.YthjikbhjciphiaaGreatDoor

/-
  The program's journal: Put.
-/
namespace Go.Proofs.YthjikbhjciphiaaGreatDoor
open Go.RowKit
set_option linter.unusedVariables false
set_option linter.unusedSimpArgs false

/-- A record appended, its number told. -/
theorem lput_tail {w w1 : World} {T : Nat → Prop} {p q c : Nat} {j : Jn} {A : Option Addr} {v' : Value} {m x : Nat} (h : LDat w T p q j A c) (r : Rc) (hm : j.buf.length = m) (hx : j.next = x) (hown : w1.ownsRow (p + 1) 35 6 v' (m + 1) (rcCells j.buf ++ r.cells))
    (hgr : w.grownBy w1 (Value.slice A m c).ownBlock) (hat : v'.ownBlock = (Value.slice A m c).ownBlock ∨ v'.ownBlock = some w.heap.size) (hs : x + 1 < 18446744073709551616) :
    (w1.cell? ⟨p, 2, none⟩ = some (.slice A m c) ∧ w1.frozen? ⟨p, 2, none⟩ = false) ∧ (w1.cell? ⟨p, 1, none⟩ = some (.int .u64 ((x : Nat) : Int)) ∧ w1.frozen? ⟨p, 1, none⟩ = false) ∧ p < w1.heap.size ∧ (∃ A' c', v' = .slice A' (m + 1) c') ∧
    ∃ T' A' c', LDat ((w1.setCell ⟨p, 2, none⟩ v').setCell ⟨p, 1, none⟩ (.int .u64 (((x + 1 : Nat) : Nat) : Int))) T' p q ⟨j.own, j.next + 1, j.sure, j.buf ++ [r], j.size⟩ A' c' ∧ (∀ k, T' k → T k ∨ w.heap.size ≤ k) ∧ Turn T w ((w1.setCell ⟨p, 2, none⟩ v').setCell ⟨p, 1, none⟩ (.int .u64 (((x + 1 : Nat) : Nat) : Int))) := by
  subst hm hx
  have hb1 : Turn (fun k => ∃ a, A = some a ∧ a.block = k) w w1 := by
    refine ⟨hgr.os, hgr.tape, hgr.output, hgr.size, fun k hk hne => hgr.block k hk fun e => hne ?_⟩
    cases hA : A with
    | none => rw [hA] at e; cases e
    | some a => rw [hA] at e; exact ⟨a, rfl, Option.some.inj e.symm⟩
  have hB := hb1.blk h.blk (fun ⟨a, ha, e⟩ => by have := ((own_lenA h.own).2.2.2 a ha).1; omega)
  obtain ⟨A', c', rfl, hf1, hf2, hf3⟩ := own_formk hown
  have ht2 : Turn (fun k => k = p) w1 ((w1.setCell ⟨p, 2, none⟩ (.slice A' (j.buf.length + 1) c')).setCell ⟨p, 1, none⟩ (.int .u64 (((j.next + 1 : Nat) : Nat) : Int))) :=
    ((Turn.refl (fun k => k = p) w1).setCell (p := ⟨p, 2, none⟩) rfl _).setCell (p := ⟨p, 1, none⟩) rfl _
  have ht : Turn T w ((w1.setCell ⟨p, 2, none⟩ (.slice A' (j.buf.length + 1) c')).setCell ⟨p, 1, none⟩ (.int .u64 (((j.next + 1 : Nat) : Nat) : Int))) :=
    (hb1.mono fun k hk => (h.sp k).2 (.inr hk)).trans (ht2.mono fun k hk => (h.sp k).2 (.inl hk))
  have hlen : (j.buf ++ [r]).length = j.buf.length + 1 := by rw [List.length_append, List.length_singleton]
  have hat2 : ∀ a, A' = some a → (∃ b, A = some b ∧ b.block = a.block) ∨ a.block = w.heap.size := by
    intro a ha
    subst ha
    rcases hat with e | e
    · left
      cases hA : A with
      | none => rw [hA] at e; cases e
      | some a2 => rw [hA] at e; exact ⟨a2, rfl, (Option.some.inj e).symm⟩
    · right
      exact Option.some.inj e
  refine ⟨⟨hB.cell 2, hB.frozen 2⟩, ⟨hB.cell 1, hB.frozen 1⟩, hB.lt, ⟨A', c', rfl⟩, fun k => k = p ∨ ∃ a, A' = some a ∧ a.block = k, A', c', ⟨?_, ?_, fun k => Iff.rfl, ?_, ?_⟩, fun k hk => ?_, ht⟩
  · show Blk _ p _ (lgL q ⟨j.own, j.next + 1, j.sure, j.buf ++ [r], j.size⟩ A' c')
    unfold lgL
    simp only
    rw [hlen]
    exact (hB.set 2 (.slice A' (j.buf.length + 1) c')).set 1 (.int .u64 (((j.next + 1 : Nat) : Nat) : Int))
  · show World.ownsRow _ (p + 1) _ 6 (.slice A' (j.buf ++ [r]).length c') (j.buf ++ [r]).length (rcCells (j.buf ++ [r]))
    rw [hlen, rcCells_snoc]
    exact own_turn hown ht2 fun a ha e => by
      have := ((own_lenA hown).2.2.2 a ha).1
      have e' : a.block = p := e
      omega
  · show j.next + 1 = j.sure + 1 + (j.buf ++ [r]).length
    rw [hlen, h.next]
    omega
  · exact ⟨hs, h.small.2.1, h.small.2.2⟩
  · rcases hk with rfl | ⟨a, ha, rfl⟩
    · exact .inl ((h.sp _).2 (.inl rfl))
    · rcases hat2 a ha with ⟨b, hb, e⟩ | e
      · exact .inl ((h.sp _).2 (.inr ⟨b, hb, e⟩))
      · exact .inr (by omega)

set_option maxRecDepth 100000 in
set_option maxHeartbeats 2000000 in
theorem lput_any (W : World) (T : Nat → Prop) (p q c : Nat) (j : Jn) (A : Option Addr) (s : Nat) (k : Int) (X : ByteArray) (l n b : Nat) (h : LDat W T p q j A c) (hD : DK W) (hs : j.next + 1 < 18446744073709551616) (hbl : j.buf.length ≤ 200) (ho : (⟨s, k, X.data.toList, l, n, b⟩ : Rc).okay) (hX : X.size ≤ 10000) :
    Calls Tryz.prog 12 #[.pointer (some ⟨p, 0, none⟩), rcV s k X l n b] W fun e W' => ∃ T' A' c', e = .returned (.tuple #[.int .u64 ((putJ j ⟨s, k, X.data.toList, l, n, b⟩).1.1 : Nat), .int .i64 (putJ j ⟨s, k, X.data.toList, l, n, b⟩).1.2]) ∧ LDat W' T' p q (putJ j ⟨s, k, X.data.toList, l, n, b⟩).2 A' c' ∧ (∀ k, T' k → T k ∨ W.heap.size ≤ k) ∧ Turn T W W' := by
  obtain ⟨i0, hi, hz0, hz1, hz2⟩ := info_parts Tryz.infoRc
  have hpj : putJ j ⟨s, k, X.data.toList, l, n, b⟩ = if checkC ⟨j.next, k, X.data.toList, l, n, b⟩ = 0 then ((j.next, 0), ⟨j.own, j.next + 1, j.sure, j.buf ++ [⟨j.next, k, X.data.toList, l, n, b⟩], j.size⟩) else ((0, checkC ⟨j.next, k, X.data.toList, l, n, b⟩), j) := rfl
  have c1 : W.cell? ⟨p, 1, none⟩ = some (.int .u64 ((j.next : Nat) : Int)) := h.blk.cell 1
  have hplt := h.blk.lt
  obtain ⟨x, hx⟩ : ∃ x, j.next = x := ⟨_, rfl⟩
  obtain ⟨m, hm⟩ : ∃ m, j.buf.length = m := ⟨_, rfl⟩
  rw [hm] at hbl
  rw [hx] at c1 hs
  have hC := fun w (hw : DK w) => check_any x k X l n b (by unfold maxLen; omega) ho.2.2.2.2.2 w hw
  obtain ⟨ck, hck⟩ : ∃ ck, checkC ⟨x, k, X.data.toList, l, n, b⟩ = ck := ⟨_, rfl⟩
  rw [hx, hck] at hpj
  rw [hck] at hC
  have HH := Lib.hid (And.intro h (And.intro hD (And.intro hx (And.intro hm ho))))
  unfold rcV at hC ⊢
  rw [hpj]
  clear h hD hx hm ho hpj hck
  by_cases h0 : ck = 0
  · subst h0
    rw [if_pos rfl]
    go_enter Tryz.func12, Tryz.ntmps12
    go_wp2_with fail
    refine (hC _ (dk_below HH.out.2.1 (by first | exact (Below.refl _ W).alloc (Nat.le_refl _) _) (Nat.le_refl _))).mono ?_
    rintro e w1 ⟨rfl, hb1⟩
    have hBk := (Blk.new W 35 #[.int .u64 (x : Nat), .int .i64 k, .string X, .int .u64 (l : Nat), .int .u64 (n : Nat), .int .u64 (b : Nat)] (cs := [.int .u64 (x : Nat), .int .i64 k, .string X, .int .u64 (l : Nat), .int .u64 (n : Nat), .int .u64 (b : Nat)]) rfl).below hb1 (by simp)
    have d0 : w1.cell? ⟨W.heap.size, 0, none⟩ = some (.int .u64 (x : Nat)) := hBk.cell 0
    have d1 : w1.cell? ⟨W.heap.size, 1, none⟩ = some (.int .i64 k) := hBk.cell 1
    have d2 : w1.cell? ⟨W.heap.size, 2, none⟩ = some (.string X) := hBk.cell 2
    have d3 : w1.cell? ⟨W.heap.size, 3, none⟩ = some (.int .u64 (l : Nat)) := hBk.cell 3
    have d4 : w1.cell? ⟨W.heap.size, 4, none⟩ = some (.int .u64 (n : Nat)) := hBk.cell 4
    have d5 : w1.cell? ⟨W.heap.size, 5, none⟩ = some (.int .u64 (b : Nat)) := hBk.cell 5
    have hb2 : Below W.heap.size W w1 := bthen ((Below.refl _ W).alloc (Nat.le_refl _) _) hb1
    have h1 := HH.out.1.turn (Turn.of_below (S := fun _ => False) hb2) (fun _ h => h.elim)
    have e2 : w1.cell? ⟨p, 2, none⟩ = some (.slice A m c) := by rw [← HH.out.2.2.2.1]; exact h1.blk.cell 2
    have hlt1 : W.heap.size < w1.heap.size := hBk.lt
    have hplt1 : p < w1.heap.size := by omega
    have hown := h1.own
    rw [HH.out.2.2.2.1] at hown
    have HNE : Hid (some W.heap.size ≠ (Value.slice A m c).ownBlock) := Lib.hid (fun e => by
      cases hA : A with
      | none => rw [hA] at e; cases e
      | some a =>
        rw [hA] at e
        have e2 : W.heap.size = a.block := Option.some.inj e
        have := ((own_lenA HH.out.1.own).2.2.2 a hA).2
        omega)
    have hw : IntKind.u64.wrap ((x : Int) + 1) = ((x + 1 : Nat) : Int) := by rw [IntKind.wrap_u64]; omega
    have H1 := Lib.hid (And.intro h1 (And.intro hb2 hBk))
    clear hC hb1 hBk hb2 h1
    go_wp2_with fail
    go_region_law (refine step_append_own rfl (.tmp 23) (.tmp 25) 29 rfl (p + 1) 35 i0 _ 6 56 Tryz.underlying29 hi hz0 hz1 hz2 rfl (by decide) (Value.slice A m c) m (rcCells j.buf) rfl (by first | exact hown.alloc _ | exact hown.drew.alloc _ | exact (hown.alloc _).drew) ⟨w1.heap.size, 0, none⟩ 1 1 [.int .u64 (x : Nat), .int .i64 k, .string X, .int .u64 (l : Nat), .int .u64 (n : Nat), .int .u64 (b : Nat)] rfl rfl (fun y u hu => by
        rw [Addr.add_lit, Nat.zero_add]
        first | (show (w1.alloc _).cell? _ = _; rw [World.cell?_alloc_new]; simpa using hu) | (show (w1.drew.alloc _).cell? ⟨w1.drew.heap.size, y, none⟩ = _; rw [World.cell?_alloc_new]; simpa using hu)) (by simp [Value.oneCell']) (by unfold maxLen; omega) (by omega) (by first | (simp; omega) | (show p + 1 ≤ _; simp; omega)) ?_; intro v4 w4 hown4 hgr hat; obtain ⟨⟨y0, yz⟩, ⟨y1, yw⟩, y5, ⟨A4, c4, rfl⟩, y6⟩ := lput_tail (H1.out.1.turn (S' := fun _ => False) (by first | exact Turn.of_below ((Below.refl _ w1).alloc (Nat.le_refl _) _) | exact Turn.of_below (below_drew ((Below.refl _ w1).alloc (Nat.le_refl _) _)) | exact Turn.of_below ((below_drew (Below.refl _ w1)).alloc (Nat.le_refl _) _)) (fun _ h => h.elim)) ⟨x, k, X.data.toList, l, n, b⟩ HH.out.2.2.2.1 HH.out.2.2.1 hown4 hgr hat hs; have z0 : w4.cell? ⟨W.heap.size, 0, none⟩ = some (.int .u64 (x : Nat)) := Blk.cell ((hgr.block W.heap.size (by first | (simp; omega) | (show W.heap.size < _; simp; omega)) HNE.out).trans (by first | exact H1.out.2.2.alloc _ | exact (H1.out.2.2.alloc _).drew | exact H1.out.2.2.drew.alloc _)) 0; have H6 := Lib.hid y6; have hsz4 := Lib.hid hgr.size; clear y6 hown4 hgr hat)
    all_goals
      go_wp2_with fail
      go_ret2
      obtain ⟨T', A', c', q1, q2, q3⟩ := H6.out
      rw [HH.out.2.2.1] at q1
      refine ⟨T', A', c', rfl, q1, fun k hk => ?_, (Turn.of_below H1.out.2.1 : Turn T W w1).trans (Turn.trans (by first | exact Turn.of_below ((Below.refl _ w1).alloc (Nat.le_refl _) _) | exact Turn.of_below (below_drew ((Below.refl _ w1).alloc (Nat.le_refl _) _)) | exact Turn.of_below ((below_drew (Below.refl _ w1)).alloc (Nat.le_refl _) _)) q3)⟩
      rcases q2 k hk with h | h
      · exact .inl h
      · refine .inr (Nat.le_trans ?_ h)
        first | (simp; omega) | (show W.heap.size ≤ _; simp; omega)
  · rw [if_neg h0]
    go_enter Tryz.func12, Tryz.ntmps12
    go_wp2_with fail
    refine (hC _ (dk_below HH.out.2.1 (by first | exact (Below.refl _ W).alloc (Nat.le_refl _) _) (Nat.le_refl _))).mono ?_
    rintro e w1 ⟨rfl, hb1⟩
    have hb2 : Below W.heap.size W w1 := bthen ((Below.refl _ W).alloc (Nat.le_refl _) _) hb1
    have H1 := Lib.hid hb2
    clear hC hb1 hb2
    go_wp2_with fail
    go_ret2
    exact ⟨T, A, c, rfl, HH.out.1.turn (Turn.of_below (S := fun _ => False) H1.out) (fun _ h => h.elim), fun k hk => .inl hk, Turn.of_below H1.out⟩

end Go.Proofs.YthjikbhjciphiaaGreatDoor
