/-
  Bytes as digits: the reference's Hex and Hexes.
-/
import Derived.Test.YtpjjmnkiepdllaaGreatDoorNaH
import Derived.Laws.Concat
import Derived.Laws.DeepStrings4
namespace Go.Proofs.YtpjjmnkiepdllaaGreatDoor
open Go.RowKit
set_option linter.unusedVariables false
set_option linter.unusedSimpArgs false

theorem hexT_slice {P : Program} (w : World) (t : TypeId) (k k' : IntKind) (d : Nat) (i j : Int) (hi : i = (d : Int)) (hj : j = (d : Int) + 1) (hd : d < 16) (h : P.underlying t = some .string) :
    (Instr.slice t (.string ⟨#[48, 49, 50, 51, 52, 53, 54, 55, 56, 57, 97, 98, 99, 100, 101, 102]⟩) (some (.int k i)) (some (.int k' j)) none).run P w = .ok (.string ⟨[hx d].toArray⟩) w := by
  subst hi; subst hj
  rw [run_slice_string_if w t _ k k' _ _ h, if_pos ⟨by omega, by show _ ≤ ((16 : Nat) : Int); omega⟩, if_pos ⟨by omega, by omega⟩]
  congr 1
  have e : ∀ d : Fin 16, hexT.extract d.val (d.val + 1) = ⟨[hx d.val].toArray⟩ := by decide +kernel
  have := e ⟨d, hd⟩
  rw [show ((d : Int)).toNat = d by omega, show ((d : Int) + 1).toNat = d + 1 by omega]
  exact congrArg Value.string this

/-- Two texts, one behind the other. -/
theorem add_texts {P : Program} (x y z : List UInt8) (hz : z = x ++ y) (hx : (x.length : Int) ≤ 8388608) (hy : (y.length : Int) ≤ 8388608) (w : World) :
    (Op.stringOp .add ⟨x.toArray⟩ ⟨y.toArray⟩).run P w = .ok (.string ⟨z.toArray⟩) w := by
  subst hz
  exact run_string_add_lists w x y hx hy

set_option maxRecDepth 100000 in
set_option maxHeartbeats 2000000 in
theorem refHex_any (A : Option Addr) (n c : Nat) (l : List UInt8) (B : Nat) (W : World) (hl : Byt W B A n l) (hn : n ≤ 10000) :
    Calls Tryz.prog 29 #[.slice A n c] W fun e W' => e = .returned (.string ⟨(hexS l).toArray⟩) ∧ Below W.heap.size W W' := by
  have hln := hl.1
  have HS : Hid (hexS l = if n = 0 then [45] else hexB l) := Lib.hid (by rw [← hln]; rfl)
  have HLN := Lib.hid hln
  clear hln
  by_cases h0 : n = 0
  · have h0' : ((n : Int) == 0) = true := by simp; omega
    have HH : Hid (hexS l = [45]) := Lib.hid (by rw [HS.out, if_pos h0])
    clear h0 HS
    go_enter Tryz.func29, Tryz.ntmps29
    go_wp2
    go_ret
    exact ⟨by rw [HH.out]; rfl, Below.refl _ _⟩
  · have h0' : ((n : Int) == 0) = false := by simp; omega
    have HH : Hid (hexS l = hexB l) := Lib.hid (by rw [HS.out, if_neg h0])
    clear h0 HS
    go_enter Tryz.func29, Tryz.ntmps29
    go_wp2
    go_loopw [4, 5] (fun v i wr => ∃ k : Nat, k ≤ n ∧ i = .int .i64 k ∧ (∃ L, L = hexB (l.take k) ∧ v = .string ⟨L.toArray⟩) ∧ Below W.heap.size W wr ∧ Byt wr B A n l)
      (fun _ i _ => n - (intOf i).toNat)
    case atStart => exact ⟨0, by omega, rfl, ⟨[], rfl, rfl⟩, Below.refl _ _, hl⟩
    case round =>
      obtain ⟨k, hk, rfl, ⟨L, hL, rfl⟩, hb, hlr⟩ := hrel
      have hLL : L.length = 2 * k := by rw [hL, hexB_len, List.length_take, HLN.out, Nat.min_eq_left hk]
      have hLn : (L.length : Int) ≤ 8388608 := by omega
      by_cases hkn : k < n
      · obtain ⟨b, o, x, rfl, hbB, hkx, hcx⟩ := hlr.at_ hkn
        have HR := Lib.hid hlr
        have hx1 := x.toNat_lt
        have HT := Lib.hid (hexB_take l k x hkx)
        obtain ⟨d1, hd1⟩ : ∃ d, x.toNat / 16 = d := ⟨_, rfl⟩
        obtain ⟨d2, hd2⟩ : ∃ d, x.toNat % 16 = d := ⟨_, rfl⟩
        have hq1 : IntKind.u8.wrap (d1 : Int) = (d1 : Int) := wraps_u8 _ (by omega) (by omega)
        have hq2 : IntKind.u8.wrap (d2 : Int) = (d2 : Int) := wraps_u8 _ (by omega) (by omega)
        have hq0 : ((x.toNat : Nat) : Int) % 16 = (d2 : Int) := by omega
        have hq5 : ((x.toNat : Nat) : Int) / 16 = (d1 : Int) := by omega
        have hl1 : (d1 : Int) < 16 := by omega
        have hl2 : (d2 : Int) < 16 := by omega
        have hq3 : IntKind.u8.wrap ((d1 : Int) + 1) = (d1 : Int) + 1 := wraps_u8 _ (by omega) (by omega)
        have hq4 : IntKind.u8.wrap ((d2 : Int) + 1) = (d2 : Int) + 1 := wraps_u8 _ (by omega) (by omega)
        rw [hd1, hd2] at HT
        have hi1 := fun w => hexT_slice (P := Tryz.prog) w 9 .u8 .u8 d1 (d1 : Int) ((d1 : Int) + 1) rfl rfl (by omega) Tryz.underlying9
        have hi2 := fun w => hexT_slice (P := Tryz.prog) w 9 .u8 .u8 d2 (d2 : Int) ((d2 : Int) + 1) rfl rfl (by omega) Tryz.underlying9
        obtain ⟨y1, hy1⟩ : ∃ y, hx d1 = y := ⟨_, rfl⟩
        obtain ⟨y2, hy2⟩ : ∃ y, hx d2 = y := ⟨_, rfl⟩
        rw [hy1] at hi1
        rw [hy2] at hi2
        rw [hy1, hy2, ← hL] at HT
        obtain ⟨L1, hL1⟩ : ∃ L1, L1 = L ++ [y1] := ⟨_, rfl⟩
        obtain ⟨L2, hL2⟩ : ∃ L2, L2 = L1 ++ [y2] := ⟨_, rfl⟩
        have ha1 := fun w => add_texts (P := Tryz.prog) L [y1] L1 hL1 hLn (by simp) w
        have ha2 := fun w => add_texts (P := Tryz.prog) L1 [y2] L2 hL2 (by rw [hL1]; simp; omega) (by simp) w
        have HT2 : Hid (hexB (l.take (k + 1)) = L2) := Lib.hid (by rw [HT.out, hL2, hL1]; simp)
        clear hL1 hL2 HT
        clear hkx hy1 hy2 hL hLn hLL hlr hd1 hd2
        go_wp2_with fail
        go_quiet (fail)
        have hb' : Below W.heap.size W (wr.drewN nq) := below_drewN hb _
        have HR' : Hid (Byt (wr.drewN nq) B (some ⟨b, o, none⟩) n l) := HR
        revert hb' HR'
        generalize wr.drewN nq = w2
        intro hb' HR'
        go_wp2
        go_roundw
        case rel => exact ⟨k + 1, by omega, by go_num, ⟨L2, HT2.out.symm, rfl⟩, hb', HR'.out⟩
        case measure => simp [intOf]; omega
      · have HL : Hid (L = hexB l) := Lib.hid (by rw [hL, List.take_of_length_le (by rw [HLN.out]; omega)])
        clear hL hLn hLL
        go_wp2
        go_ret
        exact ⟨by rw [HH.out, ← HL.out]; rfl, hb⟩

end Go.Proofs.YtpjjmnkiepdllaaGreatDoor
