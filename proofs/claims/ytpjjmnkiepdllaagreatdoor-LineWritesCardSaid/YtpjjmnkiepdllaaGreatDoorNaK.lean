/-
  Digits as bytes: the reference's Hexes, the program's Bytes.
-/
import Derived.Test.YtpjjmnkiepdllaaGreatDoorNaJ
namespace Go.Proofs.YtpjjmnkiepdllaaGreatDoor
open Go.RowKit
set_option linter.unusedVariables false
set_option linter.unusedSimpArgs false

theorem allIn_hex (l : List UInt8) : allIn l hexT.data.toList = allR hexR l := allIn_of hexR _ (by decide +kernel) l

/-- Whether a text is the digits of some bytes. -/
def okHex (l : List UInt8) : Bool := decide (l = [45]) || (decide (0 < l.length) && decide (l.length % 2 = 0) && allR hexR l)

set_option maxRecDepth 100000 in
set_option maxHeartbeats 1000000 in
theorem refHexes_any (s : ByteArray) (hs : s.size ≤ 10000) (W : World) :
    Calls Tryz.prog 33 #[.string s] W fun e W' => e = .returned (.bool (okHex s.data.toList)) ∧ W' = W := by
  have HO : Hid (okHex s.data.toList = (decide (s.data.toList = [45]) || (decide (0 < s.size) && decide (s.size % 2 = 0) && allR hexR s.data.toList))) := Lib.hid (by
    unfold okHex
    rw [show s.data.toList.length = s.size by simp])
  go_enter Tryz.func33, Tryz.ntmps33
  have hL : s.toList = s.data.toList := ByteArray.toList_eq s
  by_cases h45 : s.data.toList = [45]
  · have e45 : (s.toList == [45]) = true := by rw [hL, h45]; rfl
    have HH : Hid (okHex s.data.toList = true) := Lib.hid (by rw [HO.out, decide_eq_true h45]; rfl)
    clear h45 hL HO
    go_wp2_with fail
    go_ret
    exact ⟨by rw [HH.out]; rfl, rfl⟩
  · have e45 : (s.toList == [45]) = false := by rw [hL]; simpa using h45
    have HH : Hid (okHex s.data.toList = (decide (0 < s.size) && decide (s.size % 2 = 0) && allR hexR s.data.toList)) := Lib.hid (by rw [HO.out, decide_eq_false h45]; rfl)
    clear h45 hL HO
    by_cases h0 : 0 < s.size
    · by_cases h2 : s.size % 2 = 0
      · have e2 : ((s.size : Int) % 2 == 0) = true := by simp; omega
        have H3 : Hid (okHex s.data.toList = allR hexR s.data.toList) := Lib.hid (by rw [HH.out, decide_eq_true h0, decide_eq_true h2]; rfl)
        have e3 : ((s.size : Int) % 2) = 0 := by omega
        clear HH h2
        go_wp2_with fail
        refine (refOnly_any s hexT hs (by decide) _).mono ?_
        rintro e W1 ⟨rfl, rfl⟩
        rw [allIn_hex]
        generalize allR hexR s.data.toList = q at H3 ⊢
        go_wp2_with fail
        go_ret
        exact ⟨by rw [H3.out]; rfl, rfl⟩
      · have e2 : ((s.size : Int) % 2 == 0) = false := by simp; omega
        have H3 : Hid (okHex s.data.toList = false) := Lib.hid (by rw [HH.out, decide_eq_false h2, Bool.and_false, Bool.false_and])
        clear HH h2
        go_wp2_with fail
        go_ret
        exact ⟨by rw [H3.out]; rfl, rfl⟩
    · have H3 : Hid (okHex s.data.toList = false) := Lib.hid (by rw [HH.out, decide_eq_false h0]; rfl)
      clear HH
      go_wp2_with fail
      go_ret
      exact ⟨by rw [H3.out]; rfl, rfl⟩

/-- What a digit counts. -/
def hv (b : UInt8) : Nat := (hexIx ((b.toNat : Nat) : Int)).toNat
/-- The number at place j, once i digits are read. -/
def outAt (l : List UInt8) (i j : Nat) : Nat := if 2 * j + 1 < i then 16 * hv (l.getD (2 * j) 0) + hv (l.getD (2 * j + 1) 0) else if 2 * j < i then hv (l.getD (2 * j) 0) else 0
def outL (l : List UInt8) (i m : Nat) : List UInt8 := (List.range m).map fun j => UInt8.ofNat (outAt l i j)
/-- The bytes of digits. -/
def unhex (l : List UInt8) : List UInt8 := outL l l.length (l.length / 2)

theorem outL_len (l : List UInt8) (i m : Nat) : (outL l i m).length = m := by simp [outL]
theorem outL_zero (l : List UInt8) (m : Nat) : outL l 0 m = List.replicate m 0 := by
  apply List.ext_getElem?
  intro j
  unfold outL
  rw [List.getElem?_map, List.getElem?_replicate]
  by_cases h : j < m
  · rw [List.getElem?_range h, if_pos h]
    simp [outAt]
  · rw [List.getElem?_eq_none (by simp; omega), if_neg h]
    rfl
theorem outL_at (l : List UInt8) (i m j : Nat) (h : j < m) : (outL l i m)[j]? = some (UInt8.ofNat (outAt l i j)) := by
  unfold outL
  rw [List.getElem?_map, List.getElem?_range h]
  rfl
theorem outL_step (l : List UInt8) (i m : Nat) (h : i / 2 < m) : outL l (i + 1) m = (outL l i m).set (i / 2) (UInt8.ofNat (outAt l (i + 1) (i / 2))) := by
  apply List.ext_getElem?
  intro j
  rw [List.getElem?_set]
  by_cases hj : j < m
  · rw [outL_at l _ m j hj, outL_at l _ m j hj, outL_len]
    by_cases e : i / 2 = j
    · rw [if_pos e, if_pos (by omega), e]
    · rw [if_neg e]
      congr 2
      unfold outAt
      by_cases h1 : 2 * j + 1 < i
      · rw [if_pos h1, if_pos (by omega)]
      · rw [if_neg h1, if_neg (by omega)]
        by_cases h2 : 2 * j < i
        · omega
        · rw [if_neg h2, if_neg (by omega)]
  · rw [if_neg (by omega), List.getElem?_eq_none (by rw [outL_len]; omega), List.getElem?_eq_none (by rw [outL_len]; omega)]
theorem hv_lt : ∀ b : Fin 256, hv (UInt8.ofNat b.val) < 16 := by decide +kernel
theorem hv_lt16 (b : UInt8) : hv b < 16 := by
  have := hv_lt ⟨b.toNat, b.toNat_lt⟩
  simpa using this
theorem outAt_now (l : List UInt8) (i : Nat) (b : UInt8) (h : l[i]? = some b) : outAt l (i + 1) (i / 2) = 16 * outAt l i (i / 2) + hv b ∧ outAt l i (i / 2) < 16 := by
  have hg : l.getD i 0 = b := by simp [List.getD, h]
  rcases Nat.mod_two_eq_zero_or_one i with h2 | h2
  · have e : 2 * (i / 2) = i := by omega
    unfold outAt
    rw [e, if_neg (by omega), if_pos (by omega), if_neg (by omega), if_neg (by omega), hg]
    exact ⟨by omega, by omega⟩
  · have e : 2 * (i / 2) + 1 = i := by omega
    have e2 : 2 * (i / 2) = i - 1 := by omega
    unfold outAt
    rw [e, if_pos (by omega), if_neg (by omega), if_pos (by omega), hg]
    exact ⟨by omega, hv_lt16 _⟩
theorem u8_or16 : ∀ a b : Fin 16, bits .or .u8 ((16 * a.val : Nat) : Int) ((b.val : Nat) : Int) = ((16 * a.val + b.val : Nat) : Int) := by decide +kernel

theorem own_iterAt {w : World} {base g c n : Nat} {e : TypeId} {xs : List Value} (h : w.ownsRow base e 1 (.slice (some ⟨g, 0, none⟩) n c) n xs) {k : Nat} (hk : k ≠ g) (s : ByteArray) (pos : Nat) : (w.iterAt k s pos).ownsRow base e 1 (.slice (some ⟨g, 0, none⟩) n c) n xs :=
  h.kept (w' := w.iterAt k s pos) (row := some k) ⟨rfl, rfl, rfl, by rw [Lib.iterAt_size]; exact Nat.le_refl _, fun j _ hj => Lib.iterAt_other w k j s pos (fun h => hj (by rw [h]))⟩ (by simp [Value.ownBlock]; omega)

end Go.Proofs.YtpjjmnkiepdllaaGreatDoor
