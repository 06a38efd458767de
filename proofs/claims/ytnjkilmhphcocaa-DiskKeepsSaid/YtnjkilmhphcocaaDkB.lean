/-
  The reference's files: where one stands, how many bytes there are, without one.
-/
import Derived.Test.YtnjkilmhphcocaaDkM
import Derived.Laws.AppendOwn
namespace Go.Proofs.Ytnjkilmhphcocaa
open Go.RowKit
set_option linter.unusedVariables false
set_option linter.unusedSimpArgs false

theorem Try.infoFl : (Try.prog.info? 43).map (fun i => (i.zero, i.size, i.bytes)) = some (some (.agg #[.string ⟨#[]⟩, .slice none 0 0, .int .i64 0]), 3, 48) := by kernel_rfl

theorem fl_parts {a b c : Value} {w : World} {S : Nat → Prop} {f : Fl} (h : FlV w S (.agg #[a, b, c]) f) : ∃ A n k, a = .string ⟨f.name.toArray⟩ ∧ b = .slice A n k ∧ c = .int .i64 ((f.sure : Nat) : Int) ∧ BytS w S A n f.data ∧ (A = none → n = 0 ∧ k = 0) ∧ n ≤ k ∧ k ≤ maxLen := by
  obtain ⟨A, n, k, e, h1⟩ := h
  have e2 : a = .string ⟨f.name.toArray⟩ ∧ b = .slice A n k ∧ c = .int .i64 ((f.sure : Nat) : Int) := by simpa using e
  exact ⟨A, n, k, e2.1, e2.2.1, e2.2.2, h1⟩

set_option maxRecDepth 100000 in
set_option maxHeartbeats 1000000 in
theorem find_any (A : Option Addr) (n c : Nat) (fs : List Fl) (s : ByteArray) (S : Nat → Prop) (W : World) (hfl : Fls W S A n fs) (hn : n ≤ 1000000) :
    Calls Try.prog 12 #[.slice A n c, .string s] W fun e W' => e = .returned (.int .i64 (findN s.data.toList fs 0)) ∧ W' = W := by
  have HF := Lib.hid hfl
  clear hfl
  go_enter Try.func12, Try.ntmps12
  go_wp2
  go_loop [5] (fun i => ∃ k : Nat, k ≤ n ∧ i = .int .i64 k ∧ Hid (findN s.data.toList fs 0 = findN s.data.toList (fs.drop k) k)) (fun i => n - (intOf i).toNat)
  case atStart => exact ⟨0, Nat.zero_le _, rfl, Lib.hid rfl⟩
  case round =>
    obtain ⟨k, hk, rfl, HI⟩ := hrel
    by_cases hlt : k < n
    · obtain ⟨f, hf⟩ : ∃ f, fs[k]? = some f := ⟨_, List.getElem?_eq_getElem (by have := HF.out.1; omega)⟩
      obtain ⟨b, o, rfl, hbS, hfa⟩ := HF.out.2 (by omega)
      obtain ⟨y0, y1, y2, hq0, hq1, hq2, hv⟩ := hfa k f hf
      obtain ⟨A2, n2, c2, rfl, rfl, rfl, _⟩ := fl_parts hv
      obtain ⟨T, hT⟩ : ∃ T : ByteArray, ⟨f.name.toArray⟩ = T := ⟨_, rfl⟩
      have hTl : T.toList = f.name := by rw [ByteArray.toList_eq, ← hT]
      rw [hT] at hq0
      have hst := findN_drop s.data.toList fs k f hf
      clear hfa hv hq1 hq2 hf
      by_cases e : f.name = s.data.toList
      · have d1 : (T.toList == s.toList) = true := by rw [hTl, ByteArray.toList_eq, e]; simp
        have HR : Hid (findN s.data.toList fs 0 = (k : Int)) := Lib.hid (by rw [HI.out, hst, if_pos e])
        clear hT hTl hst e
        go_wp2
        go_ret
        exact ⟨by rw [HR.out]; rfl, rfl⟩
      · have d1 : (T.toList == s.toList) = false := by rw [hTl, ByteArray.toList_eq]; simpa using e
        have HR : Hid (findN s.data.toList fs 0 = findN s.data.toList (fs.drop (k + 1)) (k + 1)) := Lib.hid (by rw [HI.out, hst, if_neg e])
        clear hT hTl hst e
        go_wp2
        go_round
        case rel => exact ⟨k + 1, by omega, by go_num, HR⟩
        case measure => simp [intOf]; omega
    · have HR : Hid (findN s.data.toList fs 0 = -1) := Lib.hid (by rw [HI.out, List.drop_eq_nil_of_le (by have := HF.out.1; omega)]; rfl)
      go_wp2
      go_ret
      exact ⟨by rw [HR.out]; rfl, rfl⟩

set_option maxRecDepth 100000 in
set_option maxHeartbeats 1000000 in
theorem size_any (A : Option Addr) (n c : Nat) (fs : List Fl) (S : Nat → Prop) (W : World) (hfl : Fls W S A n fs) (hn : n ≤ 1000000) (hs : sizeF fs ≤ 100000000) :
    Calls Try.prog 19 #[.slice A n c] W fun e W' => e = .returned (.int .i64 ((sizeF fs : Nat) : Int)) ∧ W' = W := by
  have HF := Lib.hid hfl
  have HS := Lib.hid hs
  clear hfl hs
  go_enter Try.func19, Try.ntmps19
  go_wp2
  go_loop [3, 4] (fun v i => ∃ k : Nat, k ≤ n ∧ i = .int .i64 k ∧ ∃ u : Nat, v = .int .i64 (u : Int) ∧ Hid (u = sizeF (fs.take k))) (fun _ i => n - (intOf i).toNat)
  case atStart => exact ⟨0, Nat.zero_le _, rfl, 0, rfl, Lib.hid rfl⟩
  case round =>
    obtain ⟨k, hk, rfl, u, rfl, HU⟩ := hrel
    have hu1 : u ≤ 100000000 := by have h1 := HU.out; have h2 := sizeF_le fs k; have h3 := HS.out; omega
    by_cases hlt : k < n
    · obtain ⟨f, hf⟩ : ∃ f, fs[k]? = some f := ⟨_, List.getElem?_eq_getElem (by have := HF.out.1; omega)⟩
      obtain ⟨b, o, rfl, hbS, hfa⟩ := HF.out.2 (by omega)
      obtain ⟨y0, y1, y2, hq0, hq1, hq2, hv⟩ := hfa k f hf
      obtain ⟨A2, n2, c2, rfl, rfl, rfl, hb2, _⟩ := fl_parts hv
      have hn2 := hb2.1
      have hst := sizeF_take fs k f hf
      have hm2 : n2 ≤ 100000000 := by have h2 := sizeF_le fs (k + 1); have h3 := HS.out; omega
      have HR : Hid (u + n2 = sizeF (fs.take (k + 1))) := Lib.hid (by rw [hst, ← HU.out, hn2])
      clear hfa hv hq0 hq2 hf hst hn2 hb2
      go_wp2
      go_round
      case rel => exact ⟨k + 1, by omega, by go_num, u + n2, by go_num, HR⟩
      case measure => simp [intOf]; omega
    · have HR : Hid (u = sizeF fs) := Lib.hid (by rw [HU.out, List.take_of_length_le (by have := HF.out.1; omega)])
      go_wp2
      go_ret
      exact ⟨by rw [← HR.out]; rfl, rfl⟩

/-- Files that a call hands back: a row of its own, their bytes where they were. -/
def FlsOut (S : Nat → Prop) (fs : List Fl) (W : World) (e : Ending) (W' : World) : Prop :=
  ∃ v xs, e = .returned v ∧ W'.ownsRow W.heap.size 43 3 v fs.length xs ∧ Fx W' S xs fs ∧ Below W.heap.size W W'

theorem withoutF_step (s : List UInt8) (l : List Fl) (k : Nat) (f : Fl) (h : l[k]? = some f) (e : ¬ f.name = s) : withoutF s (l.take (k + 1)) = withoutF s (l.take k) ++ [f] := by
  rw [withoutF_take s l k f h, if_neg e]
theorem withoutF_skip (s : List UInt8) (l : List Fl) (k : Nat) (f : Fl) (h : l[k]? = some f) (e : f.name = s) : withoutF s (l.take (k + 1)) = withoutF s (l.take k) := by
  rw [withoutF_take s l k f h, if_pos e, List.append_nil]
theorem withoutF_len (s : List UInt8) (l : List Fl) (k : Nat) : (withoutF s (l.take k)).length ≤ k := by
  unfold withoutF
  have h1 := List.length_filter_le (fun f : Fl => !decide (f.name = s)) (l.take k)
  have h2 : (l.take k).length ≤ k := List.length_take_le _ _
  omega

set_option maxRecDepth 100000 in
set_option maxHeartbeats 2000000 in
theorem without_any (A : Option Addr) (n c : Nat) (fs : List Fl) (s : ByteArray) (S : Nat → Prop) (W : World) (hfl : Fls W S A n fs) (hS : ∀ k, W.heap.size ≤ k → S k) (hn : n ≤ 1000000) :
    Calls Try.prog 33 #[.slice A n c, .string s] W (FlsOut S (withoutF s.data.toList fs) W) := by
  obtain ⟨i0, hi, hz0, hz1, hz2⟩ := info_parts Try.infoFl
  have HF := Lib.hid hfl
  clear hfl
  go_enter Try.func33, Try.ntmps33
  go_wp2
  go_loopw [5, 6] (fun v i wr => ∃ k : Nat, k ≤ n ∧ i = .int .i64 k ∧ ∃ xs, wr.ownsRow W.heap.size 43 3 v (withoutF s.data.toList (fs.take k)).length xs ∧ Fx wr S xs (withoutF s.data.toList (fs.take k)) ∧ Below W.heap.size W wr) (fun _ i _ => n - (intOf i).toNat)
  case atStart => exact ⟨0, Nat.zero_le _, rfl, [], World.ownsRow_nil _ _ _ _, rfl, Below.refl _ _⟩
  case round =>
    obtain ⟨k, hk, rfl, xs, hown, hx, hb⟩ := hrel
    by_cases hlt : k < n
    · obtain ⟨f, hf⟩ : ∃ f, fs[k]? = some f := ⟨_, List.getElem?_eq_getElem (by have := HF.out.1; omega)⟩
      obtain ⟨b, o, rfl, hbS, hfa⟩ := HF.out.2 (by omega)
      obtain ⟨y0, y1, y2, hq0, hq1, hq2, hv⟩ := hfa k f hf
      obtain ⟨A2, n2, c2, rfl, rfl, rfl, _⟩ := fl_parts hv
      obtain ⟨T, hT⟩ : ∃ T : ByteArray, ⟨f.name.toArray⟩ = T := ⟨_, rfl⟩
      have hTl : T.toList = f.name := by rw [ByteArray.toList_eq, ← hT]
      rw [hT] at hq0 hv
      have hbB : b < W.heap.size := block_lt_of_cell hq0
      have hr0 : wr.cell? ⟨b, o + k * 3, none⟩ = some (.string T) := (hb.cell (p := ⟨b, o + k * 3, none⟩) hbB).trans hq0
      have hr1 : wr.cell? ⟨b, o + k * 3 + 1, none⟩ = some (.slice A2 n2 c2) := (hb.cell (p := ⟨b, o + k * 3 + 1, none⟩) hbB).trans hq1
      have hr2 : wr.cell? ⟨b, o + k * 3 + 2, none⟩ = some (.int .i64 ((f.sure : Nat) : Int)) := (hb.cell (p := ⟨b, o + k * 3 + 2, none⟩) hbB).trans hq2
      have hv2 := hv.turn (Turn.of_below hb)
      by_cases e : f.name = s.data.toList
      · have d1 : (T.toList == s.toList) = true := by rw [hTl, ByteArray.toList_eq, e]; simp
        have hst := withoutF_skip s.data.toList fs k f hf e
        have HR : Hid (wr.ownsRow W.heap.size 43 3 u5 (withoutF s.data.toList (fs.take (k + 1))).length xs ∧ Fx wr S xs (withoutF s.data.toList (fs.take (k + 1))) ∧ Below W.heap.size W wr) := Lib.hid (by rw [hst]; exact ⟨hown, hx, hb⟩)
        clear hfa hv hq0 hq1 hq2 hf hst e hT hTl hv2 hown hx hb hr1 hr2
        go_wp2
        go_roundw
        case rel => exact ⟨k + 1, by omega, by go_num, xs, HR.out⟩
        case measure => simp [intOf]; omega
      · have d1 : (T.toList == s.toList) = false := by rw [hTl, ByteArray.toList_eq]; simpa using e
        have hst := withoutF_step s.data.toList fs k f hf e
        have hln := withoutF_len s.data.toList fs k
        have HST := Lib.hid hst
        have HX := Lib.hid (And.intro hx (And.intro hv2 hb))
        have hbs := hb.size
        clear hfa hv hq0 hq1 hq2 hf hst e hT hTl hv2 hx hb
        go_wp2_with (at_builtin; refine wpList_append_own _ rfl _ _ 28 rfl W.heap.size 43 i0 _ 3 48 Try.underlying28 hi hz0 hz1 hz2 rfl (by decide) _ _ _ rfl (hown.alloc _) ⟨wr.heap.size, 0, none⟩ 1 1 [.string T, .slice A2 n2 c2, .int .i64 ((f.sure : Nat) : Int)] rfl rfl ?c1 ?c2 ?c3 ?c4 ?c5 ?_)
        case c1 =>
          intro j y hy
          rw [Addr.add_lit, Nat.zero_add, World.cell?_alloc_new]
          simpa using hy
        case c2 => simp [Value.oneCell']
        case c3 => unfold maxLen; omega
        case c4 => omega
        case c5 => simp; omega
        intro v' w4 hown4 hgrow _
        obtain ⟨hx, hv2, hb⟩ := HX.out
        have hs4 := hgrow.size
        have hb4 : Below W.heap.size W w4 := (hb.alloc hbs _).grown hgrow (by simp; omega) (fun q hq => (hown.lt q hq).1)
        have hx4 : Fx w4 S (xs ++ [.string T, .slice A2 n2 c2, .int .i64 ((f.sure : Nat) : Int)]) (withoutF s.data.toList (fs.take (k + 1))) := by
          rw [HST.out]
          exact Fx.snoc (hv2.side hS hb hb4) _ _ (hx.side hS hb hb4)
        have ho4 : w4.ownsRow W.heap.size 43 3 v' (withoutF s.data.toList (fs.take (k + 1))).length (xs ++ [.string T, .slice A2 n2 c2, .int .i64 ((f.sure : Nat) : Int)]) := by
          rw [HST.out, List.length_append]
          exact hown4
        have HR := Lib.hid (And.intro ho4 (And.intro hx4 hb4))
        clear ho4 hx4 hb4 hown4 hgrow hx hv2 hb hs4 hown hr0 hr1 hr2
        go_wp2
        go_roundw
        case rel => exact ⟨k + 1, by omega, by go_num, _, HR.out⟩
        case measure => simp [intOf]; omega
    · have HR : Hid (withoutF s.data.toList (fs.take k) = withoutF s.data.toList fs) := Lib.hid (by rw [List.take_of_length_le (by have := HF.out.1; omega)])
      have HX := Lib.hid (And.intro hown (And.intro hx hb))
      clear hown hx hb
      go_wp2
      go_ret
      obtain ⟨h1, h2, h3⟩ := HX.out
      rw [HR.out] at h1 h2
      exact ⟨_, xs, rfl, h1, h2, h3⟩

end Go.Proofs.Ytnjkilmhphcocaa
