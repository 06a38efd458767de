/-
  Package name: whether a text is a line, and its words.
-/
import Derived.Test.YtpjjmnkiepdllaaGreatDoorNaU
import Derived.Test.YtpjjmnkiepdllaaGreatDoorNaA
import Derived.Test.YtpjjmnkiepdllaaGreatDoorVals
import Derived.Test.YtpjjmnkiepdllaaGreatDoorShelf
namespace Go.Proofs.YtpjjmnkiepdllaaGreatDoor
open Go.RowKit
set_option linter.unusedVariables false
set_option linter.unusedSimpArgs false

/-- The library's variable that the search reads. -/
def MV (W : World) : Prop := ∃ m, W.cell? ⟨0, 0, none⟩ = some (.int .i64 m)
theorem MV.below {W W' : World} (h : MV W) (b : Below W.heap.size W W') : MV W' := by
  obtain ⟨m, hm⟩ := h
  refine ⟨m, ?_⟩
  rw [b.cell (by show _ < W.heap.size; exact Lib.lt_of_cell hm)]
  exact hm

set_option maxRecDepth 100000 in
set_option maxHeartbeats 2000000 in
theorem isLine_any (s : ByteArray) (W : World) :
    Calls Tryz.prog 34 #[.string s] W fun e W' => e = .returned (.bool (lineB true s.data.toList)) ∧ Below W.heap.size W W' := by
  go_enter Tryz.func34, Tryz.ntmps34
  go_wp2
  go_loopw [3] (fun av wr => ∃ (pos : Nat) (a : Int), av = .int .i32 a ∧ wr.heap[W.heap.size]? = some (.stringIter s pos) ∧ Below W.heap.size W wr ∧ Hid (lineB true s.data.toList = lineB (decide (a = 32)) (s.data.toList.drop pos))) (fun _ wr => s.size - wr.iterPos W.heap.size)
  case atStart =>
    refine ⟨0, 32, rfl, ?_, (Below.refl _ W).alloc (Nat.le_refl _) _, Lib.hid (by simp)⟩
    have := World.iter_heap W s 0
    simpa using this
  case round =>
    obtain ⟨pos, a, rfl, hit, hbw, HL⟩ := hrel
    have hsz : W.heap.size < wr.heap.size := (Array.getElem?_eq_some_iff.1 hit).1
    by_cases hp' : pos < s.size
    · have hnx : ∀ ty, (Instr.next (.pointer (some ⟨W.heap.size, 0, none⟩)) true ty).run Tryz.prog wr = _ := fun ty => Lib.run_next_any_at wr W.heap.size s pos ty hit hp'
      have hit2 := Lib.iterAt_heap wr W.heap.size s pos (pos + (Utf8.decode s pos).2) hit
      have hbw2 := Lib.below_iterAt hbw (k := W.heap.size) (Nat.le_refl _) s (pos + (Utf8.decode s pos).2)
      have hby := byte_at s pos hp'
      by_cases ha : (s[pos]'hp').toNat < 128
      · have hd := decode_ascii s pos hp' ha
        rw [hd] at hnx hit2 hbw2
        dsimp only at hnx hit2 hbw2
        obtain ⟨x, hx⟩ : ∃ x, s[pos]'hp' = x := ⟨_, rfl⟩
        rw [hx] at hnx hby ha
        clear hd hx
        have hst := lineB_step _ (decide (a = 32)) pos x hby
        by_cases h32 : x.toNat < 32
        · have d1 : decide (((x.toNat : Nat) : Int) < 32) = true := decide_eq_true (by omega)
          rw [if_pos h32] at hst
          have HF : Hid (lineB true s.data.toList = false) := Lib.hid (by rw [HL.out, hst])
          clear hst hby HL
          go_wp2
          go_ret
          exact ⟨by rw [HF.out]; rfl, hbw2⟩
        · have d1 : decide (((x.toNat : Nat) : Int) < 32) = false := decide_eq_false (by omega)
          rw [if_neg h32] at hst
          by_cases he : x.toNat = 32
          · have d2 : (((x.toNat : Nat) : Int) == 32) = true := by simp; omega
            rw [if_pos he] at hst
            by_cases ha32 : a = 32
            · have d3 : (a == 32) = true := by simpa using ha32
              have HF : Hid (lineB true s.data.toList = false) := Lib.hid (by rw [HL.out, hst, if_pos (decide_eq_true ha32)])
              clear hst hby HL he ha32
              go_wp2
              go_ret
              exact ⟨by rw [HF.out]; rfl, hbw2⟩
            · have d3 : (a == 32) = false := by simpa using ha32
              have HF : Hid (lineB true s.data.toList = lineB true (s.data.toList.drop (pos + 1))) := Lib.hid (by rw [HL.out, hst, if_neg (by simpa using ha32)])
              have HE := Lib.hid he
              clear hst hby HL he ha32
              go_wp2
              go_roundw
              case rel => exact ⟨pos + 1, _, rfl, hit2, hbw2, Lib.hid (by rw [HF.out, HE.out]; rfl)⟩
              case measure =>
                rw [iterPos_of hit2, iterPos_of hit]
                omega
          · have d2 : (((x.toNat : Nat) : Int) == 32) = false := by simp; omega
            rw [if_neg he] at hst
            have HF : Hid (lineB true s.data.toList = lineB (decide (((x.toNat : Nat) : Int) = 32)) (s.data.toList.drop (pos + 1))) := Lib.hid (by rw [HL.out, hst, decide_eq_false (show ¬ ((x.toNat : Nat) : Int) = 32 by omega)])
            clear hst hby HL he
            go_wp2
            go_roundw
            case rel => exact ⟨pos + 1, _, rfl, hit2, hbw2, HF⟩
            case measure =>
              rw [iterPos_of hit2, iterPos_of hit]
              omega
      · have hd := decode_high s pos hp' (by omega)
        have hall := decode_bytes s pos hp' (by omega)
        obtain ⟨r, hr⟩ : ∃ r, (Utf8.decode s pos).1 = r := ⟨_, rfl⟩
        obtain ⟨k, hk⟩ : ∃ k, (Utf8.decode s pos).2 = k := ⟨_, rfl⟩
        rw [hr] at hnx hd
        rw [hk] at hnx hit2 hbw2 hd hall
        have hst := lineB_high s.data.toList (decide (a = 32)) pos k hd.2 (fun j hj => by
          by_cases h0 : j = 0
          · subst h0
            exact ⟨_, hby, by omega⟩
          · obtain ⟨hj2, hj3⟩ := hall j (by omega) hj
            exact ⟨_, byte_at s (pos + j) hj2, hj3⟩)
        have HF : Hid (lineB true s.data.toList = lineB (decide (((r : Nat) : Int) = 32)) (s.data.toList.drop (pos + k))) := Lib.hid (by rw [HL.out, hst, decide_eq_false (show ¬ ((r : Nat) : Int) = 32 by omega)])
        have hr1 := hd.1
        have hk1 := hd.2
        have d1 : decide (((r : Nat) : Int) < 32) = false := decide_eq_false (by omega)
        have d2 : (((r : Nat) : Int) == 32) = false := by simp; omega
        clear hr hk hst hall hby HL hd ha
        go_wp2
        go_roundw
        case rel => exact ⟨pos + k, _, rfl, hit2, hbw2, HF⟩
        case measure =>
          rw [iterPos_of hit2, iterPos_of hit]
          omega
    · have hnx : ∀ ty, (Instr.next (.pointer (some ⟨W.heap.size, 0, none⟩)) true ty).run Tryz.prog wr = _ := fun ty => Lib.run_next_end_at wr W.heap.size s pos ty hit hp'
      have HF : Hid (lineB true s.data.toList = (a != 32)) := Lib.hid (by
        rw [HL.out, lineB_end _ _ _ (by simp; omega)]
        by_cases h : a = 32 <;> simp [h])
      go_wp2
      go_ret
      exact ⟨by rw [HF.out]; rfl, hbw⟩

/-- Texts as values. -/
def wsV (L : List (List UInt8)) : List Value := L.map fun w => .string ⟨w.toArray⟩

theorem split_texts (s : ByteArray) : (Lib.splitB ⟨#[32]⟩ 0 (Lib.countB s ⟨#[32]⟩) s).map Value.string = wsV (cutL s.data.toList) := by
  have h := Lib.splitB_data ⟨#[32]⟩ 0 (Lib.countB s ⟨#[32]⟩) s
  have h2 : Lib.splitK [32] 0 (Lib.count s.data.toList [32]) s.data.toList = cutL s.data.toList := split_cut _
  rw [show (⟨#[32]⟩ : ByteArray).data.toList = [32] from rfl] at h
  rw [← h2]
  unfold wsV
  rw [show Lib.countB s ⟨#[32]⟩ = Lib.count s.data.toList [32] from rfl] at h ⊢
  rw [← h, List.map_map]
  congr 1

/-- What a list of texts is behind a call: a slice that reads as them. -/
def WordsPost (L : List (List UInt8)) (W : World) (v : Value) (W' : World) : Prop := ∃ A n c, v = .slice A n c ∧ Vals W' W'.heap.size A n (wsV L) ∧ Below W.heap.size W W'
/-- Which words, and what is wrong. -/
def lineW (l : List UInt8) : List (List UInt8) := (wordsL l).getD []
def lineE (l : List UInt8) : Int := if (wordsL l).isSome then 0 else 2

set_option maxRecDepth 100000 in
set_option maxHeartbeats 1000000 in
theorem words_any (s : ByteArray) (hs : s.size ≤ 10000) (W : World) (hM : MV W) :
    Calls Tryz.prog 19 #[.string s] W fun e W' => ∃ v, e = .returned (.tuple #[v, .int .i64 (lineE s.data.toList)]) ∧ WordsPost (lineW s.data.toList) W v W' := by
  have hL := ByteArray.toList_eq s
  have hlen : s.data.toList.length = s.size := by simp
  by_cases h0 : s.data.toList = []
  · have e0 : (s.toList == []) = true := by rw [hL, h0]; rfl
    have h1 : Hid (lineE s.data.toList = 0 ∧ lineW s.data.toList = []) := Lib.hid (by rw [h0]; exact ⟨rfl, rfl⟩)
    clear hL h0 hlen
    go_enter Tryz.func19, Tryz.ntmps19
    go_wp2_with fail
    go_ret2
    exact ⟨_, by rw [h1.out.1]; rfl, none, 0, 0, rfl, by rw [h1.out.2]; exact Vals.nil, Below.refl _ _⟩
  · have e0 : (s.toList == []) = false := by rw [hL]; simpa using h0
    have h1 := wordsL_eq _ h0
    have hI := fun w => isLine_any s w
    cases hl : lineB true s.data.toList
    · rw [hl] at h1 hI
      have H1 : Hid (lineE s.data.toList = 2 ∧ lineW s.data.toList = []) := Lib.hid ⟨by unfold lineE; rw [h1]; rfl, by unfold lineW; rw [h1]; rfl⟩
      clear hL h0 hlen h1 hl
      go_enter Tryz.func19, Tryz.ntmps19
      go_wp2_with fail
      refine (hI _).mono ?_
      rintro e W1 ⟨rfl, hb1⟩
      go_wp2_with fail
      go_ret2
      exact ⟨_, by rw [H1.out.1]; rfl, none, 0, 0, rfl, by rw [H1.out.2]; exact Vals.nil, hb1⟩
    · rw [hl] at h1 hI
      have H1 : Hid (lineE s.data.toList = 0 ∧ lineW s.data.toList = cutL s.data.toList) := Lib.hid ⟨by unfold lineE; rw [h1]; rfl, by unfold lineW; rw [h1]; rfl⟩
      have hS := fun m w hm => Tryz.strings_Split s ⟨#[32]⟩ m w (by omega) hm (by decide)
      rw [split_texts] at hS
      have hcl : (wsV (cutL s.data.toList)).length = Lib.countB s ⟨#[32]⟩ + 1 := by
        rw [← split_texts, List.length_map]
        exact Lib.splitB_all ⟨#[32]⟩ (by decide) 0 _ s rfl
      have HC := Lib.hid hcl
      generalize Lib.countB s ⟨#[32]⟩ = n at hS HC
      clear hL h0 hlen h1 hl hcl
      go_enter Tryz.func19, Tryz.ntmps19
      go_wp2_with fail
      refine (hI _).mono ?_
      rintro e W1 ⟨rfl, hb1⟩
      obtain ⟨m, hm⟩ := hM.below hb1
      go_wp2_with fail
      refine (hS m _ hm).mono ?_
      rintro e W2 ⟨rfl, hw2⟩
      have hb2 : Below W1.heap.size W1 W2 := by rw [hw2]; exact (Below.refl _ _).alloc (Nat.le_refl _) _
      have HV : Hid (Vals W2 W2.heap.size (some ⟨W1.heap.size, 0, none⟩) (n + 1) (wsV (cutL s.data.toList))) := Lib.hid (by
        refine ⟨HC.out, fun _ => ⟨W1.heap.size, 0, rfl, by rw [hw2]; simp, fun j x hx => ?_⟩⟩
        rw [hw2, Nat.zero_add, World.cell?_alloc_new]
        simpa using hx)
      clear hw2 hS hI hM hm
      go_wp2_with fail
      go_ret2
      exact ⟨_, by rw [H1.out.1]; rfl, _, _, _, rfl, by rw [H1.out.2]; exact HV.out, bthen hb1 hb2⟩

end Go.Proofs.YtpjjmnkiepdllaaGreatDoor
