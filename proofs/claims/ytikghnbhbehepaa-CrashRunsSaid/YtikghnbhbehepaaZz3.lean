/-
  Arithmetic of a disk: files in their order, what a step does. No program stands here.
-/
import Derived.Test.YtikghnbhbehepaaZz2
import Derived.Laws.AppendOwn
import Derived.Deep.RegionHeld3
import Derived.Deep.AppendLies
namespace Go.Proofs.Ytikghnbhbehepaa
open Go.RowKit
set_option linter.unusedVariables false
set_option linter.unusedSimpArgs false

/-- The file of a name. -/
def lookF (s : List UInt8) (l : List Fl) : Option Fl := l.find? fun f => decide (f.name = s)
/-- Where the file of a name stands. -/
def findN (s : List UInt8) : List Fl → Nat → Int
  | [], _ => -1
  | f :: r, k => if f.name = s then (k : Int) else findN s r (k + 1)
theorem findN_spec (s : List UInt8) : ∀ (l : List Fl) (k : Nat), (findN s l k = -1 ∧ lookF s l = none) ∨ ∃ (j : Nat) (f : Fl), findN s l k = ((k + j : Nat) : Int) ∧ l[j]? = some f ∧ lookF s l = some f := by
  intro l
  induction l with
  | nil => intro k; exact .inl ⟨rfl, rfl⟩
  | cons g r ih =>
    intro k
    by_cases h : g.name = s
    · exact .inr ⟨0, g, by show (if g.name = s then _ else _) = _; rw [if_pos h]; rfl, rfl, by unfold lookF; rw [List.find?_cons, decide_eq_true h]⟩
    · have e1 : findN s (g :: r) k = findN s r (k + 1) := by show (if g.name = s then _ else _) = _; rw [if_neg h]
      have e2 : lookF s (g :: r) = lookF s r := by unfold lookF; rw [List.find?_cons, decide_eq_false h]
      rw [e1, e2]
      rcases ih (k + 1) with ⟨h1, h2⟩ | ⟨j, f, h1, h2, h3⟩
      · exact .inl ⟨h1, h2⟩
      · exact .inr ⟨j + 1, f, by rw [h1]; congr 1; omega, by simpa using h2, h3⟩
theorem findN_drop (s : List UInt8) (l : List Fl) (k : Nat) (f : Fl) (h : l[k]? = some f) : findN s (l.drop k) k = if f.name = s then (k : Int) else findN s (l.drop (k + 1)) (k + 1) := by
  have h1 := (List.getElem?_eq_some_iff.1 h).1
  have e1 : l[k] = f := (List.getElem?_eq_some_iff.1 h).2
  rw [List.drop_eq_getElem_cons h1, e1]
  rfl
/-- Bytes of all files. -/
def sizeF (l : List Fl) : Nat := (l.map fun f => f.data.length).sum
def withoutF (s : List UInt8) (l : List Fl) : List Fl := l.filter fun f => !decide (f.name = s)
/-- Files with one more, or in the place of that of its name; 'done' says that it stands already. -/
def withF (f : Fl) : Bool → List Fl → List Fl
  | done, [] => if done then [] else [f]
  | done, g :: r => (if !done && !Op.bytesLess g.name f.name then [f] else []) ++ (if g.name = f.name then [] else [g]) ++ withF f (done || !Op.bytesLess g.name f.name) r
/-- How many bytes a crash leaves of a file. -/
def leftF (keep : Int) (f : Fl) : Nat := min (f.sure + keep.toNat) f.data.length
def cutF (keep : Int) (f : Fl) : Fl := ⟨f.name, f.data.take (leftF keep f), leftF keep f⟩

theorem lookF_take (s : List UInt8) (l : List Fl) (k : Nat) (f : Fl) (h : l[k]? = some f) : lookF s (l.take (k + 1)) = (lookF s (l.take k)).or (if f.name = s then some f else none) := by
  unfold lookF
  rw [List.take_add_one, h, List.find?_append]
  simp only [Option.toList_some]
  congr 1
  by_cases e : f.name = s <;> simp [e]
theorem lookF_here (s : List UInt8) (l : List Fl) (k : Nat) (f : Fl) (h : l[k]? = some f) (hn : lookF s (l.take k) = none) (e : f.name = s) : lookF s l = some f := by
  have h1 : lookF s (l.take (k + 1)) = some f := by rw [lookF_take s l k f h, hn, if_pos e]; rfl
  unfold lookF at h1 ⊢
  have h2 : l.find? (fun f => decide (f.name = s)) = ((l.take (k + 1)).find? (fun f => decide (f.name = s))).or ((l.drop (k + 1)).find? fun f => decide (f.name = s)) := by
    rw [← List.find?_append, List.take_append_drop]
  rw [h2, h1]
  rfl
theorem sizeF_take (l : List Fl) (k : Nat) (f : Fl) (h : l[k]? = some f) : sizeF (l.take (k + 1)) = sizeF (l.take k) + f.data.length := by
  unfold sizeF
  rw [List.take_add_one, h]
  simp
theorem withoutF_take (s : List UInt8) (l : List Fl) (k : Nat) (f : Fl) (h : l[k]? = some f) : withoutF s (l.take (k + 1)) = withoutF s (l.take k) ++ (if f.name = s then [] else [f]) := by
  unfold withoutF
  rw [List.take_add_one, h, List.filter_append]
  congr 1
  by_cases e : f.name = s <;> simp [e]

theorem sizeF_le (l : List Fl) (k : Nat) : sizeF (l.take k) ≤ sizeF l := by
  have : sizeF l = sizeF (l.take k) + sizeF (l.drop k) := by
    unfold sizeF
    rw [← List.sum_append, ← List.map_append, List.take_append_drop]
  omega

theorem withF_drop (f : Fl) (d : Bool) (l : List Fl) (k : Nat) (g : Fl) (h : l[k]? = some g) : withF f d (l.drop k) = (if !d && !Op.bytesLess g.name f.name then [f] else []) ++ (if g.name = f.name then [] else [g]) ++ withF f (d || !Op.bytesLess g.name f.name) (l.drop (k + 1)) := by
  have h1 := (List.getElem?_eq_some_iff.1 h).1
  have e1 : l[k] = g := (List.getElem?_eq_some_iff.1 h).2
  rw [List.drop_eq_getElem_cons h1, e1]
  rfl
theorem withF_end (f : Fl) (d : Bool) (l : List Fl) (k : Nat) (h : l.length ≤ k) : withF f d (l.drop k) = if d then [] else [f] := by
  rw [List.drop_eq_nil_of_le h]
  rfl

end Go.Proofs.Ytikghnbhbehepaa

/-
  The reference's files: where one stands, how many bytes there are, without one.
-/
namespace Go.Proofs.Ytikghnbhbehepaa
open Go.RowKit
set_option linter.unusedVariables false
set_option linter.unusedSimpArgs false

theorem Try.infoFl : (Try.prog.info? 54).map (fun i => (i.zero, i.size, i.bytes)) = some (some (.agg #[.string ⟨#[]⟩, .slice none 0 0, .int .i64 0]), 3, 48) := by kernel_rfl

theorem fl_parts {a b c : Value} {w : World} {S : Nat → Prop} {f : Fl} (h : FlV w S (.agg #[a, b, c]) f) : ∃ A n k, a = .string ⟨f.name.toArray⟩ ∧ b = .slice A n k ∧ c = .int .i64 ((f.sure : Nat) : Int) ∧ BytS w S A n f.data ∧ (A = none → n = 0 ∧ k = 0) ∧ n ≤ k ∧ k ≤ maxLen := by
  obtain ⟨A, n, k, e, h1⟩ := h
  have e2 : a = .string ⟨f.name.toArray⟩ ∧ b = .slice A n k ∧ c = .int .i64 ((f.sure : Nat) : Int) := by simpa using e
  exact ⟨A, n, k, e2.1, e2.2.1, e2.2.2, h1⟩

set_option maxRecDepth 100000 in
set_option maxHeartbeats 1000000 in
theorem find_any (A : Option Addr) (n c : Nat) (fs : List Fl) (s : ByteArray) (S : Nat → Prop) (W : World) (hfl : Fls W S A n fs) (hn : n ≤ 1000000) :
    Calls Try.prog 32 #[.slice A n c, .string s] W fun e W' => e = .returned (.int .i64 (findN s.data.toList fs 0)) ∧ W' = W := by
  have HF := Lib.hid hfl
  clear hfl
  go_enter Try.func32, Try.ntmps32
  go_wp2
  go_loop [5] (fun i => ∃ k : Nat, k ≤ n ∧ i = .int .i64 k ∧ Hid (findN s.data.toList fs 0 = findN s.data.toList (fs.drop k) k)) (fun i => n - (intOf i).toNat)
  case atStart => exact ⟨0, Nat.zero_le _, rfl, Lib.hid rfl⟩
  case round =>
    obtain ⟨k, hk, rfl, HI⟩ := hrel
    by_cases hlt : k < n
    · obtain ⟨f, hf⟩ : ∃ f, fs[k]? = some f := ⟨_, List.getElem?_eq_getElem (by have := HF.out.1; omega)⟩
      obtain ⟨b, o, rfl, hbS, hfa⟩ := HF.out.2 (by omega)
      obtain ⟨y0, y1, y2, hq0, hq1, hq2, hv⟩ := hfa k f hf
      obtain ⟨A2, n2, c2, rfl, rfl, rfl, _⟩ := fl_parts hv
      obtain ⟨T, hT⟩ : ∃ T : ByteArray, ⟨f.name.toArray⟩ = T := ⟨_, rfl⟩
      have hTl : T.toList = f.name := by rw [ByteArray.toList_eq, ← hT]
      rw [hT] at hq0
      have hst := findN_drop s.data.toList fs k f hf
      clear hfa hv hq1 hq2 hf
      by_cases e : f.name = s.data.toList
      · have d1 : (T.toList == s.toList) = true := by rw [hTl, ByteArray.toList_eq, e]; simp
        have HR : Hid (findN s.data.toList fs 0 = (k : Int)) := Lib.hid (by rw [HI.out, hst, if_pos e])
        clear hT hTl hst e
        go_wp2
        go_ret
        exact ⟨by rw [HR.out]; rfl, rfl⟩
      · have d1 : (T.toList == s.toList) = false := by rw [hTl, ByteArray.toList_eq]; simpa using e
        have HR : Hid (findN s.data.toList fs 0 = findN s.data.toList (fs.drop (k + 1)) (k + 1)) := Lib.hid (by rw [HI.out, hst, if_neg e])
        clear hT hTl hst e
        go_wp2
        go_round
        case rel => exact ⟨k + 1, by omega, by go_num, HR⟩
        case measure => simp [intOf]; omega
    · have HR : Hid (findN s.data.toList fs 0 = -1) := Lib.hid (by rw [HI.out, List.drop_eq_nil_of_le (by have := HF.out.1; omega)]; rfl)
      go_wp2
      go_ret
      exact ⟨by rw [HR.out]; rfl, rfl⟩

set_option maxRecDepth 100000 in
set_option maxHeartbeats 1000000 in
theorem size_any (A : Option Addr) (n c : Nat) (fs : List Fl) (S : Nat → Prop) (W : World) (hfl : Fls W S A n fs) (hn : n ≤ 1000000) (hs : sizeF fs ≤ 100000000) :
    Calls Try.prog 33 #[.slice A n c] W fun e W' => e = .returned (.int .i64 ((sizeF fs : Nat) : Int)) ∧ W' = W := by
  have HF := Lib.hid hfl
  have HS := Lib.hid hs
  clear hfl hs
  go_enter Try.func33, Try.ntmps33
  go_wp2
  go_loop [3, 4] (fun v i => ∃ k : Nat, k ≤ n ∧ i = .int .i64 k ∧ ∃ u : Nat, v = .int .i64 (u : Int) ∧ Hid (u = sizeF (fs.take k))) (fun _ i => n - (intOf i).toNat)
  case atStart => exact ⟨0, Nat.zero_le _, rfl, 0, rfl, Lib.hid rfl⟩
  case round =>
    obtain ⟨k, hk, rfl, u, rfl, HU⟩ := hrel
    have hu1 : u ≤ 100000000 := by have h1 := HU.out; have h2 := sizeF_le fs k; have h3 := HS.out; omega
    by_cases hlt : k < n
    · obtain ⟨f, hf⟩ : ∃ f, fs[k]? = some f := ⟨_, List.getElem?_eq_getElem (by have := HF.out.1; omega)⟩
      obtain ⟨b, o, rfl, hbS, hfa⟩ := HF.out.2 (by omega)
      obtain ⟨y0, y1, y2, hq0, hq1, hq2, hv⟩ := hfa k f hf
      obtain ⟨A2, n2, c2, rfl, rfl, rfl, hb2, _⟩ := fl_parts hv
      have hn2 := hb2.1
      have hst := sizeF_take fs k f hf
      have hm2 : n2 ≤ 100000000 := by have h2 := sizeF_le fs (k + 1); have h3 := HS.out; omega
      have HR : Hid (u + n2 = sizeF (fs.take (k + 1))) := Lib.hid (by rw [hst, ← HU.out, hn2])
      clear hfa hv hq0 hq2 hf hst hn2 hb2
      go_wp2
      go_round
      case rel => exact ⟨k + 1, by omega, by go_num, u + n2, by go_num, HR⟩
      case measure => simp [intOf]; omega
    · have HR : Hid (u = sizeF fs) := Lib.hid (by rw [HU.out, List.take_of_length_le (by have := HF.out.1; omega)])
      go_wp2
      go_ret
      exact ⟨by rw [← HR.out]; rfl, rfl⟩

/-- Files that a call hands back: a row of its own, their bytes where they were. -/
def FlsOut (S : Nat → Prop) (fs : List Fl) (W : World) (e : Ending) (W' : World) : Prop :=
  ∃ v xs, e = .returned v ∧ W'.ownsRow W.heap.size 54 3 v fs.length xs ∧ Fx W' S xs fs ∧ Below W.heap.size W W'

theorem withoutF_step (s : List UInt8) (l : List Fl) (k : Nat) (f : Fl) (h : l[k]? = some f) (e : ¬ f.name = s) : withoutF s (l.take (k + 1)) = withoutF s (l.take k) ++ [f] := by
  rw [withoutF_take s l k f h, if_neg e]
theorem withoutF_skip (s : List UInt8) (l : List Fl) (k : Nat) (f : Fl) (h : l[k]? = some f) (e : f.name = s) : withoutF s (l.take (k + 1)) = withoutF s (l.take k) := by
  rw [withoutF_take s l k f h, if_pos e, List.append_nil]
theorem withoutF_len (s : List UInt8) (l : List Fl) (k : Nat) : (withoutF s (l.take k)).length ≤ k := by
  unfold withoutF
  have h1 := List.length_filter_le (fun f : Fl => !decide (f.name = s)) (l.take k)
  have h2 : (l.take k).length ≤ k := List.length_take_le _ _
  omega

set_option maxRecDepth 100000 in
set_option maxHeartbeats 2000000 in
theorem without_any (A : Option Addr) (n c : Nat) (fs : List Fl) (s : ByteArray) (S : Nat → Prop) (W : World) (hfl : Fls W S A n fs) (hS : ∀ k, W.heap.size ≤ k → S k) (hn : n ≤ 1000000) :
    Calls Try.prog 35 #[.slice A n c, .string s] W (FlsOut S (withoutF s.data.toList fs) W) := by
  obtain ⟨i0, hi, hz0, hz1, hz2⟩ := info_parts Try.infoFl
  have HF := Lib.hid hfl
  clear hfl
  go_enter Try.func35, Try.ntmps35
  go_wp2
  go_loopw [5, 6] (fun v i wr => ∃ k : Nat, k ≤ n ∧ i = .int .i64 k ∧ ∃ xs, wr.ownsRow W.heap.size 54 3 v (withoutF s.data.toList (fs.take k)).length xs ∧ Fx wr S xs (withoutF s.data.toList (fs.take k)) ∧ Below W.heap.size W wr) (fun _ i _ => n - (intOf i).toNat)
  case atStart => exact ⟨0, Nat.zero_le _, rfl, [], World.ownsRow_nil _ _ _ _, rfl, Below.refl _ _⟩
  case round =>
    obtain ⟨k, hk, rfl, xs, hown, hx, hb⟩ := hrel
    by_cases hlt : k < n
    · obtain ⟨f, hf⟩ : ∃ f, fs[k]? = some f := ⟨_, List.getElem?_eq_getElem (by have := HF.out.1; omega)⟩
      obtain ⟨b, o, rfl, hbS, hfa⟩ := HF.out.2 (by omega)
      obtain ⟨y0, y1, y2, hq0, hq1, hq2, hv⟩ := hfa k f hf
      obtain ⟨A2, n2, c2, rfl, rfl, rfl, _⟩ := fl_parts hv
      obtain ⟨T, hT⟩ : ∃ T : ByteArray, ⟨f.name.toArray⟩ = T := ⟨_, rfl⟩
      have hTl : T.toList = f.name := by rw [ByteArray.toList_eq, ← hT]
      rw [hT] at hq0 hv
      have hbB : b < W.heap.size := block_lt_of_cell hq0
      have hr0 : wr.cell? ⟨b, o + k * 3, none⟩ = some (.string T) := (hb.cell (p := ⟨b, o + k * 3, none⟩) hbB).trans hq0
      have hr1 : wr.cell? ⟨b, o + k * 3 + 1, none⟩ = some (.slice A2 n2 c2) := (hb.cell (p := ⟨b, o + k * 3 + 1, none⟩) hbB).trans hq1
      have hr2 : wr.cell? ⟨b, o + k * 3 + 2, none⟩ = some (.int .i64 ((f.sure : Nat) : Int)) := (hb.cell (p := ⟨b, o + k * 3 + 2, none⟩) hbB).trans hq2
      have hv2 := hv.turn (Turn.of_below hb)
      by_cases e : f.name = s.data.toList
      · have d1 : (T.toList == s.toList) = true := by rw [hTl, ByteArray.toList_eq, e]; simp
        have hst := withoutF_skip s.data.toList fs k f hf e
        have HR : Hid (wr.ownsRow W.heap.size 54 3 u5 (withoutF s.data.toList (fs.take (k + 1))).length xs ∧ Fx wr S xs (withoutF s.data.toList (fs.take (k + 1))) ∧ Below W.heap.size W wr) := Lib.hid (by rw [hst]; exact ⟨hown, hx, hb⟩)
        clear hfa hv hq0 hq1 hq2 hf hst e hT hTl hv2 hown hx hb hr1 hr2
        go_wp2
        go_roundw
        case rel => exact ⟨k + 1, by omega, by go_num, xs, HR.out⟩
        case measure => simp [intOf]; omega
      · have d1 : (T.toList == s.toList) = false := by rw [hTl, ByteArray.toList_eq]; simpa using e
        have hst := withoutF_step s.data.toList fs k f hf e
        have hln := withoutF_len s.data.toList fs k
        have HST := Lib.hid hst
        have HX := Lib.hid (And.intro hx (And.intro hv2 hb))
        have hbs := hb.size
        clear hfa hv hq0 hq1 hq2 hf hst e hT hTl hv2 hx hb
        go_wp2_with (at_builtin; refine wpList_append_own _ rfl _ _ 28 rfl W.heap.size 54 i0 _ 3 48 Try.underlying28 hi hz0 hz1 hz2 rfl (by decide) _ _ _ rfl (hown.alloc _) ⟨wr.heap.size, 0, none⟩ 1 1 [.string T, .slice A2 n2 c2, .int .i64 ((f.sure : Nat) : Int)] rfl rfl ?c1 ?c2 ?c3 ?c4 ?c5 ?_)
        case c1 =>
          intro j y hy
          rw [Addr.add_lit, Nat.zero_add, World.cell?_alloc_new]
          simpa using hy
        case c2 => simp [Value.oneCell']
        case c3 => unfold maxLen; omega
        case c4 => omega
        case c5 => simp; omega
        intro v' w4 hown4 hgrow _
        obtain ⟨hx, hv2, hb⟩ := HX.out
        have hs4 := hgrow.size
        have hb4 : Below W.heap.size W w4 := (hb.alloc hbs _).grown hgrow (by simp; omega) (fun q hq => (hown.lt q hq).1)
        have hx4 : Fx w4 S (xs ++ [.string T, .slice A2 n2 c2, .int .i64 ((f.sure : Nat) : Int)]) (withoutF s.data.toList (fs.take (k + 1))) := by
          rw [HST.out]
          exact Fx.snoc (hv2.side hS hb hb4) _ _ (hx.side hS hb hb4)
        have ho4 : w4.ownsRow W.heap.size 54 3 v' (withoutF s.data.toList (fs.take (k + 1))).length (xs ++ [.string T, .slice A2 n2 c2, .int .i64 ((f.sure : Nat) : Int)]) := by
          rw [HST.out, List.length_append]
          exact hown4
        have HR := Lib.hid (And.intro ho4 (And.intro hx4 hb4))
        clear ho4 hx4 hb4 hown4 hgrow hx hv2 hb hs4 hown hr0 hr1 hr2
        go_wp2
        go_roundw
        case rel => exact ⟨k + 1, by omega, by go_num, _, HR.out⟩
        case measure => simp [intOf]; omega
    · have HR : Hid (withoutF s.data.toList (fs.take k) = withoutF s.data.toList fs) := Lib.hid (by rw [List.take_of_length_le (by have := HF.out.1; omega)])
      have HX := Lib.hid (And.intro hown (And.intro hx hb))
      clear hown hx hb
      go_wp2
      go_ret
      obtain ⟨h1, h2, h3⟩ := HX.out
      rw [HR.out] at h1 h2
      exact ⟨_, xs, rfl, h1, h2, h3⟩

end Go.Proofs.Ytikghnbhbehepaa

/-
  The reference's files behind a crash.
-/
namespace Go.Proofs.Ytikghnbhbehepaa
open Go.RowKit
set_option linter.unusedVariables false
set_option linter.unusedSimpArgs false

theorem map_take_snoc (g : Fl → Fl) (l : List Fl) (k : Nat) (f : Fl) (h : l[k]? = some f) : (l.take (k + 1)).map g = (l.take k).map g ++ [g f] := by
  rw [List.take_add_one, h]
  simp

set_option maxRecDepth 100000 in
set_option maxHeartbeats 4000000 in
theorem cut_any (A : Option Addr) (n c : Nat) (fs : List Fl) (keep : Int) (S : Nat → Prop) (W : World) (hfl : Fls W S A n fs) (hS : ∀ k, W.heap.size ≤ k → S k) (hn : n ≤ 100000) (hsu : ∀ f ∈ fs, f.sure ≤ f.data.length ∧ f.data.length ≤ 1000000) :
    Calls Try.prog 23 #[.slice A n c, .int .i64 keep] W (FlsOut S (fs.map (cutF keep)) W) := by
  obtain ⟨i0, hi, hz0, hz1, hz2⟩ := info_parts Try.infoFl
  have HF := Lib.hid hfl
  have HSU := Lib.hid hsu
  have HSS := Lib.hid hS
  clear hfl hsu hS
  go_enter Try.func23, Try.ntmps23
  go_wp2
  go_loopw [5, 6] (fun v i wr => ∃ k : Nat, k ≤ n ∧ i = .int .i64 k ∧ ∃ xs, wr.ownsRow W.heap.size 54 3 v k xs ∧ Fx wr S xs ((fs.take k).map (cutF keep)) ∧ Below W.heap.size W wr) (fun _ i _ => n - (intOf i).toNat)
  case atStart => exact ⟨0, Nat.zero_le _, rfl, [], World.ownsRow_nil _ _ _ _, rfl, Below.refl _ _⟩
  case round =>
    obtain ⟨k, hk, rfl, xs, hown, hx, hb⟩ := hrel
    by_cases hlt : k < n
    · obtain ⟨f, hf⟩ : ∃ f, fs[k]? = some f := ⟨_, List.getElem?_eq_getElem (by have := HF.out.1; omega)⟩
      obtain ⟨b, o, rfl, hbS, hfa⟩ := HF.out.2 (by omega)
      obtain ⟨y0, y1, y2, hq0, hq1, hq2, hv⟩ := hfa k f hf
      have hbB : b < W.heap.size := block_lt_of_cell hq0
      obtain ⟨A2, n2, c2, rfl, rfl, rfl, hby, hnil2, hnc2, hcm2⟩ := fl_parts hv
      obtain ⟨hs1, hs2⟩ := HSU.out f (List.mem_of_getElem? hf)
      obtain ⟨T, hT⟩ : ∃ T : ByteArray, ⟨f.name.toArray⟩ = T := ⟨_, rfl⟩
      rw [hT] at hq0
      obtain ⟨su, hsu⟩ : ∃ su, f.sure = su := ⟨_, rfl⟩
      rw [hsu] at hq2 hs1
      have hr0 : wr.cell? ⟨b, o + k * 3, none⟩ = some (.string T) := (hb.cell (p := ⟨b, o + k * 3, none⟩) hbB).trans hq0
      have hr1 : wr.cell? ⟨b, o + k * 3 + 1, none⟩ = some (.slice A2 n2 c2) := (hb.cell (p := ⟨b, o + k * 3 + 1, none⟩) hbB).trans hq1
      have hr2 : wr.cell? ⟨b, o + k * 3 + 2, none⟩ = some (.int .i64 ((su : Nat) : Int)) := (hb.cell (p := ⟨b, o + k * 3 + 2, none⟩) hbB).trans hq2
      have hln := hby.1
      have hsn : su ≤ n2 := by omega
      have hn2 : n2 ≤ 1000000 := by omega
      have HV : Hid (∀ m, m ≤ n2 → m = leftF keep f → FlV wr S (.agg #[.string T, .slice A2 m c2, .int .i64 ((m : Nat) : Int)]) (cutF keep f)) := Lib.hid (fun m hm he => by
        refine ⟨A2, m, c2, by rw [← hT, he]; rfl, ?_, fun h => ⟨by have := (hnil2 h).1; omega, (hnil2 h).2⟩, by omega, hcm2⟩
        have := (hby.turn (Turn.of_below hb)).take hm
        rw [he] at this ⊢
        exact this)
      have HL : Hid (∀ j : Nat, su + j ≤ n2 → ((j : Int) ≤ keep ∨ j = 0) → (¬ ((j : Int) < keep) ∨ ¬ (su + j < n2)) → su + j = leftF keep f) := Lib.hid (fun j h1 h2 h3 => by
        unfold leftF
        rw [hsu, hln]
        omega)
      have HM := Lib.hid (map_take_snoc (cutF keep) fs k f hf)
      have HX := Lib.hid (And.intro hx hb)
      have hbs := hb.size
      have HQ := Lib.hid (And.intro hq0 hq1)
      clear hfa hv hq0 hq1 hq2 hf hs1 hs2 hT hsu hby hnil2 hln hx hb
      go_wp2
      go_loop [7, 8] (fun nv kv => ∃ j : Nat, kv = .int .i64 (j : Int) ∧ nv = .int .i64 (((su + j : Nat) : Int)) ∧ su + j ≤ n2 ∧ ((j : Int) ≤ keep ∨ j = 0)) (fun nv _ => n2 - (intOf nv).toNat)
      case atStart => exact ⟨0, rfl, rfl, hsn, .inr rfl⟩
      case round =>
        obtain ⟨j, rfl, rfl, hj1, hj2⟩ := hrel
        obtain ⟨m, hm⟩ : ∃ m, su + j = m := ⟨_, rfl⟩
        have HMJ := Lib.hid hm
        rw [hm] at hj1 ⊢
        clear hm
        by_cases hjk : (j : Int) < keep
        · have d1 : decide ((j : Int) < keep) = true := decide_eq_true hjk
          by_cases hmn : m < n2
          · have hjn : j ≤ 1000000 := by have := HMJ.out; omega
            go_wp2
            go_round
            case rel => exact ⟨j + 1, by go_num, by have := HMJ.out; rw [← this]; go_num, by have := HMJ.out; omega, .inl (by omega)⟩
            case measure => simp [intOf]; omega
          · have hml : m = leftF keep f := by have h1 := HL.out j (by have := HMJ.out; omega) hj2 (.inr (by have := HMJ.out; omega)); have h2 := HMJ.out; omega
            have HML := Lib.hid hml
            clear hml
            have g1 : (0 : Int) ≤ (m : Int) := by omega
            have g2 : ((m : Nat) : Int) ≤ ((c2 : Nat) : Int) := by omega
            go_wp2_with fail
            go_region_held3 (fun w' => w'.cell? ⟨b, o + k * 3, none⟩ = some (.string T) ∧ w'.cell? ⟨b, o + k * 3 + 1, none⟩ = some (.slice A2 n2 c2)) (first | exact ⟨z0, z1⟩ | go_keep)
              ((refine step_append_lies _ (by rfl) _ _ _ (by rfl) W.heap.size 54 i0 _ 3 48 Try.underlying28 hi hz0 hz1 hz2 rfl (by omega) u5 k xs (by rfl) ((hown.alloc _).drew) ⟨wr.heap.size, 0, none⟩ 1 1 [.string T, .slice A2 m c2, .int .i64 ((m : Nat) : Int)] (by rfl) (by rfl) (World.news_of_block (cs := #[.string T, .slice A2 m c2, .int .i64 ((m : Nat) : Int)]) (t := 54) (fr := (0, 0)) (heap_alloc_new wr _)) (by simp [Value.oneCell']) (by omega) (by unfold maxLen; omega) (by omega) (by simp; omega) (wr.heap.size + 1) (by simp) ?_; intro gg cap w4 hown4 hgrow hat hlt4; have hb4 : Below W.heap.size W w4 := (below_drew (HX.out.2.alloc hbs (.cells #[.string T, .slice A2 m c2, .int .i64 ((m : Nat) : Int)] 54))).grown hgrow (by simp; omega) (fun q hq => (hown.lt q hq).1); have z0 := (hb4.cell (p := ⟨b, o + k * 3, none⟩) hbB).trans HQ.out.1; have z1 := (hb4.cell (p := ⟨b, o + k * 3 + 1, none⟩) hbB).trans HQ.out.2))
            have HR : Hid (w4.ownsRow W.heap.size 54 3 (.slice (some ⟨gg, 0, none⟩) (k + 1) cap) (k + 1) (xs ++ [.string T, .slice A2 m c2, .int .i64 ((m : Nat) : Int)]) ∧ Fx w4 S (xs ++ [.string T, .slice A2 m c2, .int .i64 ((m : Nat) : Int)]) ((fs.take (k + 1)).map (cutF keep)) ∧ Below W.heap.size W w4) := Lib.hid (by
              refine ⟨hown4, ?_, hb4⟩
              rw [HM.out]
              exact Fx.snoc ((HV.out m hj1 HML.out).side HSS.out HX.out.2 hb4) _ _ (HX.out.1.side HSS.out HX.out.2 hb4))
            clear hown4 hgrow hat hlt4 hb4 z0 z1 hown hr0 hr1 hr2
            go_wp2
            go_roundw
            case rel => exact ⟨k + 1, by omega, by go_num, _, HR.out⟩
            case measure => simp [intOf]; omega
        · have hml : m = leftF keep f := by have h1 := HL.out j (by have := HMJ.out; omega) hj2 (.inl (by omega)); have h2 := HMJ.out; omega
          have HML := Lib.hid hml
          have d1 : decide ((j : Int) < keep) = false := decide_eq_false hjk
          clear hml
          have g1 : (0 : Int) ≤ (m : Int) := by omega
          have g2 : ((m : Nat) : Int) ≤ ((c2 : Nat) : Int) := by omega
          go_wp2_with fail
          go_region_held3 (fun w' => w'.cell? ⟨b, o + k * 3, none⟩ = some (.string T) ∧ w'.cell? ⟨b, o + k * 3 + 1, none⟩ = some (.slice A2 n2 c2)) (first | exact ⟨z0, z1⟩ | go_keep)
            ((refine step_append_lies _ (by rfl) _ _ _ (by rfl) W.heap.size 54 i0 _ 3 48 Try.underlying28 hi hz0 hz1 hz2 rfl (by omega) u5 k xs (by rfl) ((hown.alloc _).drew) ⟨wr.heap.size, 0, none⟩ 1 1 [.string T, .slice A2 m c2, .int .i64 ((m : Nat) : Int)] (by rfl) (by rfl) (World.news_of_block (cs := #[.string T, .slice A2 m c2, .int .i64 ((m : Nat) : Int)]) (t := 54) (fr := (0, 0)) (heap_alloc_new wr _)) (by simp [Value.oneCell']) (by omega) (by unfold maxLen; omega) (by omega) (by simp; omega) (wr.heap.size + 1) (by simp) ?_; intro gg cap w4 hown4 hgrow hat hlt4; have hb4 : Below W.heap.size W w4 := (below_drew (HX.out.2.alloc hbs (.cells #[.string T, .slice A2 m c2, .int .i64 ((m : Nat) : Int)] 54))).grown hgrow (by simp; omega) (fun q hq => (hown.lt q hq).1); have z0 := (hb4.cell (p := ⟨b, o + k * 3, none⟩) hbB).trans HQ.out.1; have z1 := (hb4.cell (p := ⟨b, o + k * 3 + 1, none⟩) hbB).trans HQ.out.2))
          have HR : Hid (w4.ownsRow W.heap.size 54 3 (.slice (some ⟨gg, 0, none⟩) (k + 1) cap) (k + 1) (xs ++ [.string T, .slice A2 m c2, .int .i64 ((m : Nat) : Int)]) ∧ Fx w4 S (xs ++ [.string T, .slice A2 m c2, .int .i64 ((m : Nat) : Int)]) ((fs.take (k + 1)).map (cutF keep)) ∧ Below W.heap.size W w4) := Lib.hid (by
            refine ⟨hown4, ?_, hb4⟩
            rw [HM.out]
            exact Fx.snoc ((HV.out m hj1 HML.out).side HSS.out HX.out.2 hb4) _ _ (HX.out.1.side HSS.out HX.out.2 hb4))
          clear hown4 hgrow hat hlt4 hb4 z0 z1 hown hr0 hr1 hr2
          go_wp2
          go_roundw
          case rel => exact ⟨k + 1, by omega, by go_num, _, HR.out⟩
          case measure => simp [intOf]; omega
    · have HR : Hid ((fs.take k).map (cutF keep) = fs.map (cutF keep) ∧ (fs.map (cutF keep)).length = k) := Lib.hid (by
        have h1 := HF.out.1
        rw [List.take_of_length_le (by omega), List.length_map]
        exact ⟨rfl, by omega⟩)
      have HX := Lib.hid (And.intro hown (And.intro hx hb))
      clear hown hx hb
      go_wp2
      go_ret
      obtain ⟨h1, h2, h3⟩ := HX.out
      rw [HR.out.1] at h2
      exact ⟨_, xs, rfl, by rw [HR.out.2]; exact h1, h2, h3⟩

end Go.Proofs.Ytikghnbhbehepaa
