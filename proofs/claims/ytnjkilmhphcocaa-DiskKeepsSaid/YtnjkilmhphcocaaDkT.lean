/-
  Steps in memory; the reference's answer: are there too many, or too long ones?
-/
import Derived.Test.YtnjkilmhphcocaaDkS
namespace Go.Proofs.Ytnjkilmhphcocaa
open Go.RowKit
set_option linter.unusedVariables false
set_option linter.unusedSimpArgs false

/-- The value of a step, its bytes off S. -/
def SpV (w : World) (S : Nat → Prop) (v : Value) (s : Sp) : Prop :=
  ∃ A n c, v = spV s A n c ∧ BytS w S A n s.data ∧ (A = none → n = 0 ∧ c = 0) ∧ n ≤ c ∧ c ≤ maxLen
/-- The slice value '.slice A n c' reads as the steps ss, all of it off S. -/
def Sps (w : World) (S : Nat → Prop) (A : Option Addr) (n : Nat) (ss : List Sp) : Prop :=
  ss.length = n ∧ (0 < n → ∃ b o, A = some ⟨b, o, none⟩ ∧ ¬ S b ∧ ∀ (j : Nat) (s : Sp), ss[j]? = some s → ∃ y0 y1 y2 y3 y4 y5, (w.cell? ⟨b, o + j * 6, none⟩ = some y0 ∧ w.cell? ⟨b, o + j * 6 + 1, none⟩ = some y1 ∧ w.cell? ⟨b, o + j * 6 + 2, none⟩ = some y2 ∧ w.cell? ⟨b, o + j * 6 + 3, none⟩ = some y3 ∧ w.cell? ⟨b, o + j * 6 + 4, none⟩ = some y4 ∧ w.cell? ⟨b, o + j * 6 + 5, none⟩ = some y5) ∧ SpV w S (.agg #[y0, y1, y2, y3, y4, y5]) s)
theorem SpV.turn {w w' : World} {S : Nat → Prop} {v : Value} {s : Sp} (h : SpV w S v s) (ht : Turn S w w') : SpV w' S v s := by
  obtain ⟨A, n, c, h1, h2, h3⟩ := h
  exact ⟨A, n, c, h1, h2.turn ht, h3⟩
theorem SpV.more {w : World} {S S' : Nat → Prop} {v : Value} {s : Sp} (h : SpV w S v s) (hs : ∀ k, S' k → k < w.heap.size → S k) : SpV w S' v s := by
  obtain ⟨A, n, c, h1, h2, h3⟩ := h
  exact ⟨A, n, c, h1, h2.more hs, h3⟩
theorem Sps.turn {w w' : World} {S : Nat → Prop} {n : Nat} {A : Option Addr} {ss : List Sp} (h : Sps w S A n ss) (ht : Turn S w w') : Sps w' S A n ss :=
  ⟨h.1, fun hn => by
    obtain ⟨b, o, e, hb, hf⟩ := h.2 hn
    refine ⟨b, o, e, hb, fun j s hj => ?_⟩
    obtain ⟨y0, y1, y2, y3, y4, y5, ⟨h0, h1, h2, h3, h4, h5⟩, hv⟩ := hf j s hj
    exact ⟨y0, y1, y2, y3, y4, y5, ⟨ht.at_ h0 hb, ht.at_ h1 hb, ht.at_ h2 hb, ht.at_ h3 hb, ht.at_ h4 hb, ht.at_ h5 hb⟩, hv.turn ht⟩⟩
theorem Sps.more {w : World} {S S' : Nat → Prop} {n : Nat} {A : Option Addr} {ss : List Sp} (h : Sps w S A n ss) (hs : ∀ k, S' k → k < w.heap.size → S k) : Sps w S' A n ss :=
  ⟨h.1, fun hn => by
    obtain ⟨b, o, e, hb, hf⟩ := h.2 hn
    have hb2 : ¬ S' b := fun x => hb (hs b x (by
      obtain ⟨_, _, _, _, _, _, ⟨h0, _⟩, _⟩ := hf 0 _ (List.getElem?_eq_getElem (by have := h.1; omega))
      exact block_lt_of_cell h0))
    refine ⟨b, o, e, hb2, fun j s hj => ?_⟩
    obtain ⟨y0, y1, y2, y3, y4, y5, hc, hv⟩ := hf j s hj
    exact ⟨y0, y1, y2, y3, y4, y5, hc, hv.more hs⟩⟩
theorem sp_parts {y0 y1 y2 y3 y4 y5 : Value} {w : World} {S : Nat → Prop} {s : Sp} (h : SpV w S (.agg #[y0, y1, y2, y3, y4, y5]) s) :
    ∃ A n c, y0 = .int .i64 s.kind ∧ y1 = .string ⟨s.name.toArray⟩ ∧ y2 = .string ⟨s.to.toArray⟩ ∧ y3 = .slice A n c ∧ y4 = .int .u64 ((s.n : Nat) : Int) ∧ y5 = .int .i64 s.m ∧ BytS w S A n s.data ∧ (A = none → n = 0 ∧ c = 0) ∧ n ≤ c ∧ c ≤ maxLen := by
  obtain ⟨A, n, c, e, h1⟩ := h
  have e2 : y0 = .int .i64 s.kind ∧ y1 = .string ⟨s.name.toArray⟩ ∧ y2 = .string ⟨s.to.toArray⟩ ∧ y3 = .slice A n c ∧ y4 = .int .u64 ((s.n : Nat) : Int) ∧ y5 = .int .i64 s.m := by simpa [spV] using e
  exact ⟨A, n, c, e2.1, e2.2.1, e2.2.2.1, e2.2.2.2.1, e2.2.2.2.2.1, e2.2.2.2.2.2, h1⟩

def smallS (s : Sp) : Bool := decide (s.data.length ≤ 200) && (decide (s.name.length ≤ 100) && decide (s.to.length ≤ 100))
def largeS (ss : List Sp) : Bool := !((ss.take 90).all smallS) || decide (90 < ss.length)
theorem largeS_false (ss : List Sp) (h : largeS ss = false) : ss.length ≤ 90 ∧ ∀ s ∈ ss, s.data.length ≤ 200 ∧ s.name.length ≤ 100 ∧ s.to.length ≤ 100 := by
  unfold largeS at h
  rw [Bool.or_eq_false_iff] at h
  obtain ⟨h1, h2⟩ := h
  have h3 : ss.length ≤ 90 := by
    have := of_decide_eq_false h2
    omega
  refine ⟨h3, fun s hs => ?_⟩
  rw [List.take_of_length_le h3] at h1
  have h4 : ss.all smallS = true := by simpa using h1
  have := List.all_eq_true.1 h4 s hs
  simpa [smallS] using this
theorem largeS_out (ss : List Sp) (k : Nat) (s : Sp) (hk : k < 90) (hs : ss[k]? = some s) (h : smallS s = false) : largeS ss = true := by
  unfold largeS
  have : (ss.take 90).all smallS = false := by
    rw [List.all_eq_false]
    exact ⟨s, List.mem_of_getElem? (i := k) (by rw [List.getElem?_take_of_lt hk]; exact hs), by simp [h]⟩
  rw [this]
  rfl
theorem largeS_end (ss : List Sp) (k : Nat) (h : (ss.take k).all smallS = true) (hk : k = ss.length ∧ k ≤ 90 ∨ k = 90) : largeS ss = decide (90 < ss.length) := by
  unfold largeS
  have : (ss.take 90).all smallS = true := by
    rcases hk with ⟨rfl, h2⟩ | rfl
    · rw [List.take_of_length_le h2]
      rw [List.take_length] at h
      exact h
    · exact h
  rw [this]
  rfl

set_option maxRecDepth 100000 in
set_option maxHeartbeats 2000000 in
theorem large9_any (A : Option Addr) (n c : Nat) (ss : List Sp) (S : Nat → Prop) (W : World) (hss : Sps W S A n ss) (hn : n ≤ maxLen) :
    Calls Try.prog 6 #[.slice A n c] W fun e W' => e = .returned (.bool (largeS ss)) ∧ W' = W := by
  unfold maxLen at hn
  have HL : Hid (ss.length = n) := Lib.hid hss.1
  have HF := Lib.hid hss
  clear hss
  go_enter Try.func6, Try.ntmps6
  go_wp2
  go_loop [3] (fun i => ∃ k : Nat, k ≤ n ∧ k ≤ 90 ∧ i = .int .i64 k ∧ (ss.take k).all smallS = true) (fun i => n - (intOf i).toNat)
  case atStart => exact ⟨0, Nat.zero_le _, by omega, rfl, rfl⟩
  case round =>
    obtain ⟨k, hk, hk9, rfl, hno⟩ := hrel
    by_cases hlt : k < n
    · by_cases hlt9 : k < 90
      · have d2 : decide ((k : Int) < 90) = true := decide_eq_true (by omega)
        obtain ⟨s, hs⟩ : ∃ s, ss[k]? = some s := ⟨_, List.getElem?_eq_getElem (by have := HL.out; omega)⟩
        obtain ⟨b, o, rfl, hbS, hfa⟩ := HF.out.2 (by omega)
        obtain ⟨y0, y1, y2, y3, y4, y5, ⟨p0, p1, p2, p3, p4, p5⟩, hv⟩ := hfa k s hs
        obtain ⟨A2, n2, c2, rfl, rfl, rfl, rfl, rfl, rfl, hby, _⟩ := sp_parts hv
        obtain ⟨T, hT⟩ : ∃ T : ByteArray, ⟨s.name.toArray⟩ = T := ⟨_, rfl⟩
        have hTs : T.size = s.name.length := by rw [← hT]; show s.name.toArray.size = _; simp
        obtain ⟨U, hU⟩ : ∃ U : ByteArray, ⟨s.to.toArray⟩ = U := ⟨_, rfl⟩
        have hUs : U.size = s.to.length := by rw [← hU]; show s.to.toArray.size = _; simp
        rw [hT] at p1
        rw [hU] at p2
        have hn2 := hby.1
        have HI := Lib.hid (And.intro hTs (And.intro hUs (And.intro hn2 (And.intro hs hno))))
        clear hv hfa hby hT hTs hU hUs hn2 hs hno p0 p4 p5
        by_cases h0 : 200 < n2
        · have d3 : decide ((200 : Int) < (n2 : Int)) = true := decide_eq_true (by omega)
          have HR : Hid (largeS ss = true) := Lib.hid (largeS_out ss k s hlt9 HI.out.2.2.2.1 (by have := HI.out.2.2.1; simp [smallS]; omega))
          clear h0
          go_wp2
          go_ret
          exact ⟨by rw [HR.out]; rfl, rfl⟩
        · have d3 : decide ((200 : Int) < (n2 : Int)) = false := decide_eq_false (by omega)
          by_cases h1 : 100 < T.size
          · have d4 : decide ((100 : Int) < (T.size : Int)) = true := decide_eq_true (by omega)
            have HR : Hid (largeS ss = true) := Lib.hid (largeS_out ss k s hlt9 HI.out.2.2.2.1 (by have := HI.out.1; simp [smallS]; omega))
            clear h0 h1
            go_wp2
            go_ret
            exact ⟨by rw [HR.out]; rfl, rfl⟩
          · have d4 : decide ((100 : Int) < (T.size : Int)) = false := decide_eq_false (by omega)
            by_cases h2 : 100 < U.size
            · have d5 : decide ((100 : Int) < (U.size : Int)) = true := decide_eq_true (by omega)
              have HR : Hid (largeS ss = true) := Lib.hid (largeS_out ss k s hlt9 HI.out.2.2.2.1 (by have := HI.out.2.1; simp [smallS]; omega))
              clear h0 h1 h2
              go_wp2
              go_ret
              exact ⟨by rw [HR.out]; rfl, rfl⟩
            · have d5 : decide ((100 : Int) < (U.size : Int)) = false := decide_eq_false (by omega)
              have HR : Hid ((ss.take (k + 1)).all smallS = true) := Lib.hid (by
                obtain ⟨i1, i2, i3, i4, i5⟩ := HI.out
                rw [List.take_add_one, i4, List.all_append, i5]
                simp [smallS]
                omega)
              clear h0 h1 h2
              go_wp2
              go_round
              case rel => exact ⟨k + 1, by omega, by omega, by go_num, HR.out⟩
              case measure => simp [intOf]; omega
      · have hk90 : k = 90 := by omega
        have d2 : decide ((k : Int) < 90) = false := decide_eq_false (by omega)
        have HR : Hid (largeS ss = decide ((90 : Int) < (n : Int))) := Lib.hid (by
          rw [largeS_end ss k hno (.inr hk90), HL.out]
          congr 1
          exact propext ⟨fun h => by omega, fun h => by omega⟩)
        clear hno hk90
        go_wp2
        go_ret
        exact ⟨by rw [HR.out]; rfl, rfl⟩
    · have hkn : k = n := by omega
      have HR : Hid (largeS ss = decide ((90 : Int) < (n : Int))) := Lib.hid (by
        rw [largeS_end ss k hno (.inl ⟨by rw [HL.out]; exact hkn, hk9⟩), HL.out]
        congr 1
        exact propext ⟨fun h => by omega, fun h => by omega⟩)
      clear hno
      go_wp2
      go_ret
      exact ⟨by rw [HR.out]; rfl, rfl⟩

end Go.Proofs.Ytnjkilmhphcocaa
