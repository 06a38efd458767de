/-
  Package name: bytes as digits; the reference's.
-/
import Derived.Test.YtpjjmnkiepdllaaGreatDoorNaI
import Derived.Test.YtpjjmnkiepdllaaGreatDoorNaB
import Derived.Test.YtpjjmnkiepdllaaGreatDoorOctA
import Derived.Test.YtpjjmnkiepdllaaGreatDoorMkByt
import Derived.Deep.RegionHeld3
import Derived.Deep.AppendLies
namespace Go.Proofs.YtpjjmnkiepdllaaGreatDoor
open Go.RowKit
set_option linter.unusedVariables false
set_option linter.unusedSimpArgs false

/-- A digit's sign. -/
def hx (d : Nat) : UInt8 := hexT.data.toList.getD d 0
/-- Bytes as digits, two each. -/
def hexB : List UInt8 → List UInt8
  | [] => []
  | b :: l => hx (b.toNat / 16) :: hx (b.toNat % 16) :: hexB l
/-- Bytes as digits; of none a sign of its own. -/
def hexS (l : List UInt8) : List UInt8 := if l.length = 0 then [45] else hexB l

theorem hexB_append (l r : List UInt8) : hexB (l ++ r) = hexB l ++ hexB r := by
  induction l with
  | nil => rfl
  | cons b l ih => simp [hexB, ih]
theorem hexB_take (l : List UInt8) (k : Nat) (b : UInt8) (h : l[k]? = some b) : hexB (l.take (k + 1)) = hexB (l.take k) ++ [hx (b.toNat / 16), hx (b.toNat % 16)] := by
  rw [List.take_add_one, h, hexB_append]
  rfl
theorem hexB_len (l : List UInt8) : (hexB l).length = 2 * l.length := by
  induction l with
  | nil => rfl
  | cons b l ih => simp [hexB, ih]; omega

theorem hx_at : ∀ d : Fin 16, ∃ h : d.val < hexT.size, hexT[d.val]'h = hx d.val := by decide +kernel

theorem hexT_index {P : Program} (w : World) (t : TypeId) (k : IntKind) (d : Nat) (i : Int) (hi : i = (d : Int)) (hd : d < 16) (h : P.underlying t = some .string) :
    (Instr.index t (.string ⟨#[48, 49, 50, 51, 52, 53, 54, 55, 56, 57, 97, 98, 99, 100, 101, 102]⟩) (.int k i)).run P w = .ok (.int .u8 (((hx d).toNat : Nat) : Int)) w := by
  subst hi
  rw [run_index_string w t _ k _ h]
  obtain ⟨h1, h2⟩ := hx_at ⟨d, hd⟩
  rw [dif_pos ⟨by omega, by show (d : Int) < ((16 : Nat) : Int); omega⟩]
  have e : ∀ (j : Nat) (hj : j < hexT.size), j = d → hexT[j]'hj = hx d := by
    intro j hj ej
    subst ej
    exact h2
  have := e ((d : Int)).toNat (by show _ < 16; omega) (by omega)
  rw [← this]
  rfl

theorem Byt.of_own_any {w : World} {base n : Nat} {e : TypeId} {v : Value} {l : List UInt8} (h : w.ownsRow base e 1 v n (l.map bv)) : ∃ A c, v = .slice A n c ∧ Byt w w.heap.size A n l := by
  obtain ⟨A, c, rfl, _⟩ := own_form h
  exact ⟨A, c, rfl, Byt.of_own h⟩

theorem u8_and15 (x : UInt8) : bits .and .u8 ((x.toNat : Nat) : Int) 15 = ((x.toNat : Nat) : Int) % 16 := by
  have h := x.toNat_lt
  have e : ∀ d : Fin 256, bits .and .u8 ((d.val : Nat) : Int) 15 = ((d.val : Nat) : Int) % 16 := by decide +kernel
  exact e ⟨x.toNat, h⟩

set_option maxRecDepth 100000 in
set_option maxHeartbeats 2000000 in
theorem hex_any (A : Option Addr) (n c : Nat) (l : List UInt8) (B : Nat) (W : World) (hl : Byt W B A n l) (hB : B ≤ W.heap.size) (hn : n ≤ 10000) :
    Calls Tryz.prog 24 #[.slice A n c] W fun e W' => e = .returned (.string ⟨(hexS l).toArray⟩) ∧ Below W.heap.size W W' := by
  obtain ⟨i0, hi, hz0, hz1, hz2⟩ := info_parts Tryz.info5
  have hln := hl.1
  have HS : Hid (hexS l = if n = 0 then [45] else hexB l) := Lib.hid (by rw [← hln]; rfl)
  have HLN := Lib.hid hln
  clear hln
  by_cases h0 : n = 0
  · have h0' : ((n : Int) == 0) = true := by simp; omega
    have HH : Hid (hexS l = [45]) := Lib.hid (by rw [HS.out, if_pos h0])
    clear h0 HS
    go_enter Tryz.func24, Tryz.ntmps24
    go_wp2
    go_ret
    exact ⟨by rw [HH.out]; rfl, Below.refl _ _⟩
  · have h0' : ((n : Int) == 0) = false := by simp; omega
    have HH : Hid (hexS l = hexB l) := Lib.hid (by rw [HS.out, if_neg h0])
    have HC : (2 * (n : Int)) = ((2 * n : Nat) : Int) := by omega
    obtain ⟨m, hm⟩ : ∃ m, m = 2 * n := ⟨_, rfl⟩
    have hm1 : 2 * (n : Int) = (m : Int) := by omega
    have hm2 : m ≤ 20000 := by omega
    have HM := Lib.hid hm
    clear h0 HS HC hm
    go_enter Tryz.func24, Tryz.ntmps24
    go_wp2_with (first
      | (at_make; refine wpList_make_byt _ rfl _ _ 34 rfl W.heap.size 5 i0 Tryz.underlying34 hi hz0 hz1 hz2 .i64 .i64 _ _ 0 m rfl rfl rfl rfl (by omega) (by omega) (Nat.le_refl _) ?_;
         intro w1 hown1 hg1;
         have hb1 : Below W.heap.size W w1 := (Below.refl _ _).grown hg1 (Nat.le_refl _) (by intro k h; cases h);
         clear hg1))
    go_loopw [3, 15] (fun v i wr => ∃ k : Nat, k ≤ n ∧ i = .int .i64 k ∧ wr.ownsRow W.heap.size 5 1 v (2 * k) ((hexB (l.take k)).map bv) ∧ Below W.heap.size W wr)
      (fun _ i _ => n - (intOf i).toNat)
    case atStart => exact ⟨0, by omega, rfl, by simpa [hexB] using hown1, hb1⟩
    case round =>
      obtain ⟨k, hk, rfl, hown, hb⟩ := hrel
      have hs := hb.size
      clear hown1 hb1
      by_cases hkn : k < n
      · obtain ⟨b, o, x, rfl, hbB, hkx, hcx⟩ := hl.at_ hkn
        have hc2 : wr.cell? ⟨b, o + k, none⟩ = some (.int .u8 ((x.toNat : Nat) : Int)) := by rw [hb.cell (by show b < _; omega)]; exact hcx
        have hx1 := x.toNat_lt
        have HT := Lib.hid (hexB_take l k x hkx)
        have hand := u8_and15 x
        have hi1 := fun w => hexT_index (P := Tryz.prog) w 9 .u8 (x.toNat / 16) (((x.toNat : Nat) : Int) / 16) (by omega) (by omega) Tryz.underlying9
        have hi2 := fun w => hexT_index (P := Tryz.prog) w 9 .u8 (x.toNat % 16) (((x.toNat : Nat) : Int) % 16) (by omega) (by omega) Tryz.underlying9
        obtain ⟨y1, hy1⟩ : ∃ y, hx (x.toNat / 16) = y := ⟨_, rfl⟩
        obtain ⟨y2, hy2⟩ : ∃ y, hx (x.toNat % 16) = y := ⟨_, rfl⟩
        rw [hy1] at hi1
        rw [hy2] at hi2
        rw [hy1, hy2] at HT
        clear hkx hcx hy1 hy2
        go_wp2_with fail
        go_region_held3 (fun _ => True) (trivial)
          ((refine step_append_lies _ (by rfl) _ _ _ (by rfl) W.heap.size 5 i0 _ 1 1 Tryz.underlying34 hi hz0 hz1 hz2 rfl (by omega) u3 (2 * k) _ (by rfl) ((hown.alloc _).drew)
              ⟨wr.heap.size, 0, none⟩ 2 2 [bv y1, bv y2] (by rfl) (by rfl) (World.news_of_block (cs := #[bv y1, bv y2]) (t := 5) (fr := (0, 0)) (heap_alloc_new wr _)) (by simp [bv, Value.oneCell'])
              (by omega) (by unfold maxLen; omega) (by omega) (by simp; omega) (wr.heap.size + 1) (by simp) ?_; intro gg cap w2 hown2 hgrow hat hlt))
        all_goals
          have hb' := own_step (o := .cells #[bv y1, bv y2] 5) (below_drew hb) (Nat.le_refl _) (hown.drew) hgrow
          have HO := Lib.hid hown2
          clear hown2 hgrow hown
          go_wp2
          go_roundw
          case rel => exact ⟨k + 1, by omega, by go_num, by have := HO.out; rw [HT.out, List.map_append]; exact this, hb'⟩
          case measure => simp [intOf]; omega
      · have hkk : k = n := by omega
        have HO := Lib.hid hown
        have hx := Byt.of_own_any hown
        obtain ⟨A2, c2, rfl, hA2⟩ := hx
        have hcv := fun w3 (h : Byt w3 wr.heap.size A2 (2 * k) (hexB (l.take k))) => run_string_byt (P := Tryz.prog) (w := w3) (c := c2) 34 9 5 Tryz.underlying34 Tryz.underlying5 Tryz.underlying9 h
        have hcv' := hcv wr hA2
        have HL : Hid (hexB (l.take k) = hexB l) := Lib.hid (by rw [List.take_of_length_le (by rw [HLN.out]; omega)])
        clear hcv hA2 hown hkk
        go_wp2
        go_ret
        exact ⟨by rw [HH.out, ← HL.out]; rfl, hb⟩

end Go.Proofs.YtpjjmnkiepdllaaGreatDoor
