/-
  The library's search of a rune in a text of signs below 128: a greater rune isn't there.
-/
import Derived.Test.YtpjjmnkiepdllaaGreatDoorNaA
import Derived.Test.YtpjjmnkiepdllaaGreatDoorShelf
import Derived.BigRegion
import Derived.WalkMore
namespace Go.Proofs.YtpjjmnkiepdllaaGreatDoor
open Go.RowKit
set_option linter.unusedVariables false
set_option linter.unusedSimpArgs false

set_option maxRecDepth 10000 in
/-- The last byte of a greater rune is no sign below 128. -/
theorem encode_high (r : Nat) (h : 128 ≤ r) (E : ByteArray) (hE : Utf8.encode ((r : Nat) : Int) = E) : ∃ (m : Nat) (x : UInt8), E.data.toList.length = m + 1 ∧ 1 ≤ m ∧ m ≤ 3 ∧ E.data.toList[m]? = some x ∧ 128 ≤ x.toNat := by
  obtain ⟨c, hc⟩ : ∃ c, (if Utf8.valid ((r : Nat) : Int) then ((r : Nat) : Int).toNat else Utf8.runeError) = c := ⟨_, rfl⟩
  have hc128 : 128 ≤ c := by
    rw [← hc]
    split
    · omega
    · decide
  have hx : 128 ≤ (UInt8.ofNat (128 + c % 64)).toNat := by
    rw [UInt8.toNat_ofNat']
    omega
  subst hE
  unfold Utf8.encode
  simp only [hc]
  rw [if_neg (by omega)]
  split
  · exact ⟨1, UInt8.ofNat (128 + c % 64), rfl, by omega, by omega, rfl, hx⟩
  · split
    · exact ⟨2, UInt8.ofNat (128 + c % 64), rfl, by omega, by omega, rfl, hx⟩
    · exact ⟨3, UInt8.ofNat (128 + c % 64), rfl, by omega, by omega, rfl, hx⟩

theorem indexByte_none (l : List UInt8) (c : UInt8) (h : ∀ b ∈ l, b ≠ c) : Lib.indexByte l c = -1 := by
  induction l with
  | nil => rfl
  | cons b l ih =>
    unfold Lib.indexByte
    have h1 := h b (by simp)
    have h2 := ih fun x hx => h x (by simp [hx])
    rw [if_neg (by simpa using h1), if_pos (by simp [h2])]

theorem mem_extract (s : ByteArray) (i j : Nat) (b : UInt8) (h : b ∈ (s.extract i j).data.toList) : ∃ (k : Nat) (h : k < s.size), (s[k]'h) = b := by
  have h1 : b ∈ s.data.toList := by
    have e : (s.extract i j).data = s.data.extract i j := by simp
    rw [e] at h
    have h2 : b ∈ s.data.extract i j := Array.mem_toList_iff.1 h
    obtain ⟨k, hk, hb⟩ := Array.mem_iff_getElem.1 h2
    rw [Array.getElem_extract] at hb
    exact Array.mem_toList_iff.2 (hb ▸ Array.getElem_mem _)
  obtain ⟨k, hk, hb⟩ := List.mem_iff_getElem.1 h1
  have hk' : k < s.size := by simpa using hk
  exact ⟨k, hk', hb⟩

theorem toUInt8_self (x : UInt8) : (((x.toNat : Nat) : Int)).toNat.toUInt8 = x := by simp

theorem extract_low (s : ByteArray) (ha : ∀ (j : Nat) (h : j < s.size), (s[j]'h).toNat < 128) (i j : Nat) (x : UInt8) (hx : 128 ≤ x.toNat) : ∀ b ∈ (s.extract i j).data.toList, b ≠ (((x.toNat : Nat) : Int)).toNat.toUInt8 := by
  intro b hb
  obtain ⟨k, hk, e⟩ := mem_extract s i j b hb
  rw [toUInt8_self]
  intro h
  have := ha k hk
  rw [e, h] at this
  omega

set_option maxRecDepth 100000 in
set_option maxHeartbeats 4000000 in
theorem indexRune_high (s : ByteArray) (hs : s.size ≤ 10000) (ha : ∀ (j : Nat) (h : j < s.size), (s[j]'h).toNat < 128) (r : Nat) (h1 : 128 ≤ r) (h2 : r ≤ 1114111) (W : World) :
    Calls Tryz.prog 53 #[.string s, .int .i32 ((r : Nat) : Int)] W fun e W' => e = .returned (.int .i64 (-1)) ∧ Below W.heap.size W W' := by
  have h3 : ((0 : Int) ≤ (r : Int)) := by omega
  have h4 : ¬ ((r : Int) < 128) := by omega
  by_cases he : r = 65533
  · subst he
    go_enter Tryz.func53, Tryz.ntmps53
    go_wp2_with fail
    go_loopw [] (fun wr => ∃ pos : Nat, wr.heap[W.heap.size]? = some (.stringIter s pos) ∧ Below W.heap.size W wr) (fun wr => s.size - wr.iterPos W.heap.size)
    case atStart =>
      refine ⟨0, ?_, (Below.refl _ W).alloc (Nat.le_refl _) _⟩
      have := World.iter_heap W s 0
      simpa using this
    case round =>
      obtain ⟨pos, hit, hbw⟩ := hrel
      by_cases hp' : pos < s.size
      · have hnx : ∀ ty, (Instr.next (.pointer (some ⟨W.heap.size, 0, none⟩)) true ty).run Tryz.prog wr = _ := fun ty => Lib.run_next_ascii_at wr W.heap.size s pos ty hit hp' (ha pos hp')
        have hit2 := Lib.iterAt_heap wr W.heap.size s pos (pos + 1) hit
        have hbw2 := Lib.below_iterAt hbw (k := W.heap.size) (Nat.le_refl _) s (pos + 1)
        have hb := ha pos hp'
        obtain ⟨x, hx⟩ : ∃ x, s[pos]'hp' = x := ⟨_, rfl⟩
        rw [hx] at hnx hb
        have hne : (((x.toNat : Nat) : Int) == 65533) = false := by simp; omega
        clear hx
        go_wp2
        go_roundw
        case rel => exact ⟨pos + 1, hit2, hbw2⟩
        case measure =>
          rw [iterPos_of hit2, iterPos_of hit]
          omega
      · have hnx : ∀ ty, (Instr.next (.pointer (some ⟨W.heap.size, 0, none⟩)) true ty).run Tryz.prog wr = _ := fun ty => Lib.run_next_end_at wr W.heap.size s pos ty hit hp'
        go_wp2
        go_ret
        exact ⟨rfl, hbw⟩
  · have h5 : (((r : Nat) : Int) == 65533) = false := by simp; omega
    go_enter Tryz.func53, Tryz.ntmps53
    go_wp2_with fail
    refine (Tryz.utf8_ValidRune _ _).mono ?_
    rintro e W1 ⟨rfl, rfl⟩
    cases hv : Lib.validRune ((r : Nat) : Int)
    · go_wp2
      go_ret
      exact ⟨rfl, Below.refl _ _⟩
    · obtain ⟨E, hE⟩ : ∃ E, Utf8.encode ((r : Nat) : Int) = E := ⟨_, rfl⟩
      obtain ⟨m, x, hm, hm1, hm3, hm4, hm5⟩ := encode_high r h1 E hE
      have hcv : ∀ w : World, (convert 21 9 (.int .i32 ((r : Nat) : Int))).run Tryz.prog w = .ok (.string E) w := fun w => by
        rw [← hE]; exact run_convert_int_string w _ _ _ _ (by kernel_rfl) (by kernel_rfl)
      have hm6 : E.size = m + 1 := by simpa using hm
      have hm7 : ((E.size : Nat) : Int) - 1 = (m : Int) := by omega
      have hlt : m < E.size := by omega
      have hix : (E[m]'hlt) = x := by
        have := byte_at E m hlt
        rw [hm4] at this
        exact (Option.some.inj this).symm
      clear hE hm hm4
      go_wp2_with fail
      go_step3
      go_wp2_with fail
      go_loop [9, 10] (fun i f => i = .int .i64 ((m : Nat) : Int) ∧ f = .int .i64 0) (fun _ _ => 0)
      case atStart => exact ⟨rfl, rfl⟩
      case round =>
        obtain ⟨rfl, rfl⟩ := hrel
        by_cases hl : m < s.size
        · have hsx := ha m hl
          obtain ⟨y, hy⟩ : ∃ y, s[m]'hl = y := ⟨_, rfl⟩
          rw [hy] at hsx
          have hne : (y.toNat : Int) ≠ (x.toNat : Int) := by omega
          have hnb : ((y.toNat : Int) != (x.toNat : Int)) = true := by simpa using hne
          have hno : ∀ w : World, Calls Tryz.prog 65 #[.string (s.extract (m + 1) s.size), .int .u8 ((x.toNat : Nat) : Int)] w fun e w' => e = .returned (.int .i64 (-1)) ∧ w' = w := fun w =>
            (Tryz.strings_IndexByte _ _ _).mono fun e w' h => ⟨h.1.trans (by rw [indexByte_none _ _ (extract_low s ha (m + 1) s.size x hm5)]), h.2⟩
          go_wp2_with fail
          go_step3
          go_wp2_with fail
          go_quiet (fail)
          have hb2 : Below W1.heap.size W1 (W1.drewN nq) := below_drewN (Below.refl _ _) _
          revert hb2
          generalize W1.drewN nq = W2
          intro hb2
          go_wp2_with fail
          go_quiet ((go_at_call 65; exact Calls.quiet_of_same (hno _)))
          have hb3 : Below W1.heap.size W1 (W2.drewN nq) := below_drewN hb2 _
          revert hb3
          generalize W2.drewN nq = W3
          intro hb3
          go_wp2_with fail
          rw [Exit.noGoto_ret]
          go_wp2_with fail
          try rw [Exit.noGoto_ret]
          go_ret
          exact ⟨rfl, hb3⟩
        · go_wp2_with fail
          go_ret
          exact ⟨rfl, Below.refl _ _⟩

/-- The digits' signs. -/
def hexT : ByteArray := ⟨#[48, 49, 50, 51, 52, 53, 54, 55, 56, 57, 97, 98, 99, 100, 101, 102]⟩
/-- Where a sign stands among the digits. -/
def hexIx (r : Int) : Int := if digR r then r - 48 else if hexR r then r - 87 else -1

theorem hexIx_low : ∀ r : Fin 128, Lib.indexByte hexT.data.toList (((r.val : Nat) : Int)).toNat.toUInt8 = hexIx ((r.val : Nat) : Int) := by decide +kernel
theorem hexT_low : ∀ (j : Nat) (h : j < hexT.size), (hexT[j]'h).toNat < 128 := by decide +kernel

theorem hexIx_high (r : Int) (h : 128 ≤ r) : hexIx r = -1 := by simp [hexIx, digR_high r h, hexR_high r h]
theorem hexIx_is (r : Int) : decide (0 ≤ hexIx r) = hexR r := by
  unfold hexIx
  cases h1 : digR r
  · cases h2 : hexR r
    · rfl
    · rw [if_neg (by simp), if_pos rfl]
      simp only [hexR, h1, Bool.false_or, Bool.and_eq_true, decide_eq_true_eq] at h2
      exact decide_eq_true (by omega)
  · rw [if_pos rfl]
    have h2 : hexR r = true := by simp [hexR, h1]
    rw [h2]
    simp only [digR, Bool.and_eq_true, decide_eq_true_eq] at h1
    exact decide_eq_true (by omega)

theorem indexHex_any (r : Nat) (h2 : r ≤ 1114111) (W : World) :
    Calls Tryz.prog 53 #[.string hexT, .int .i32 ((r : Nat) : Int)] W fun e W' => e = .returned (.int .i64 (hexIx ((r : Nat) : Int))) ∧ Below W.heap.size W W' := by
  by_cases h : r < 128
  · refine (Tryz.strings_IndexRune_ascii hexT ((r : Nat) : Int) W (by omega) (by omega)).mono ?_
    rintro e W' ⟨rfl, rfl⟩
    exact ⟨by rw [hexIx_low ⟨r, h⟩], Below.refl _ _⟩
  · rw [hexIx_high _ (by omega)]
    exact indexRune_high hexT (by decide) hexT_low r (by omega) h2 W

set_option maxRecDepth 100000 in
theorem isHexDigit_any (r : Nat) (h2 : r ≤ 1114111) (W : World) :
    Calls Tryz.prog 52 #[.int .i32 ((r : Nat) : Int)] W fun e W' => e = .returned (.bool (hexR ((r : Nat) : Int))) ∧ Below W.heap.size W W' := by
  have hC : ∀ w : World, Calls Tryz.prog 64 #[.string hexT, .int .i32 ((r : Nat) : Int)] w fun e w' => e = .returned (.bool (hexR ((r : Nat) : Int))) ∧ Below w.heap.size w w' := by
    intro w
    go_enter Tryz.func64, Tryz.ntmps64
    go_wp2_with fail
    refine (indexHex_any r h2 w).mono ?_
    rintro e w1 ⟨rfl, hb⟩
    have hi := Lib.hid (hexIx_is ((r : Nat) : Int))
    generalize hexIx ((r : Nat) : Int) = q at hi ⊢
    go_wp2_with fail
    go_ret
    exact ⟨by rw [← hi.out]; rfl, hb⟩
  go_enter Tryz.func52, Tryz.ntmps52
  go_wp2_with fail
  refine (hC W).mono ?_
  rintro e w1 ⟨rfl, hb⟩
  go_wp2_with fail
  go_ret
  exact ⟨rfl, hb⟩

end Go.Proofs.YtpjjmnkiepdllaaGreatDoor
