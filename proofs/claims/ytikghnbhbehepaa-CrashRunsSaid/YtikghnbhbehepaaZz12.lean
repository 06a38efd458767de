/-
  The reference's disk behind work; what is left of work that crashes.
-/
import Derived.Test.YtikghnbhbehepaaZz10
import Derived.Test.YtikghnbhbehepaaZz11
import Derived.Test.YtikghnbhbehepaaZz1
import Derived.Maps.OwnSet
import Derived.Maps.Range
namespace Go.Proofs.Ytikghnbhbehepaa
open Go.RowKit
set_option linter.unusedVariables false
set_option linter.unusedSimpArgs false

theorem Wks.of_out {S S' : Nat → Prop} {l : List Wk} {W W' : World} {A : Option Addr} {n c : Nat} {xs : List Value} (h : W'.ownsRow W.heap.size 49 4 (.slice A n c) l.length xs) (hx : PrtsV W' S xs (l.map Wk.prts).flatten) (hs : ∀ k, S' k → S k) (hS : ∀ k, S' k → k < W.heap.size ∨ W'.heap.size ≤ k) : n = l.length ∧ Wks W' S' A n l := by
  obtain ⟨A', c', e, _⟩ := own_formk h
  have hn : n = l.length := by
    rcases h.2 with ⟨e1, e2⟩ | ⟨g, cap, cur, e1, _⟩
    · have : n = 0 := by injection e1
      omega
    · injection e1
  subst hn
  refine ⟨rfl, Sls.of_own h (hx.less hs) (fun f hf => ?_) (List.length_map _) hS⟩
  obtain ⟨o, _, rfl⟩ := List.mem_map.1 hf
  rfl

theorem newD_ok (cap : Int) (h : cap < 9223372036854775808) : OkD 0 (newD cap) := by
  refine ⟨Nat.le_refl _, Nat.le_refl _, fun f hf => (by cases hf), Nat.le_refl _, by show (0 : Nat) < _; omega, ?_, ?_⟩
  · show 0 ≤ max cap 0
    omega
  · show max cap 0 < _
    omega
theorem OkD.upto {k j : Nat} {m : Dk} (h : OkD k m) (hk : k ≤ j) : OkD j m := ⟨Nat.le_trans h.len hk, by have := h.size; omega, h.sure, Nat.le_trans h.calls hk, h.left, h.cap⟩
theorem newD_up (cap : Int) : UpD (newD cap) := ⟨rfl, rfl⟩

/-- A disk at first: the reference's cells. -/
theorem rd_new {w : World} {p : Nat} {cap : Int} (h : Blk w p 40 [.slice none 0 0, .int .i64 (max cap 0), .int .u64 0, .bool false, .int .u64 0, .int .i64 0, .bool false]) : RD w (fun j => j = p) p (newD cap) :=
  ⟨none, 0, 0, h, Fls.nil, rfl, fun k hk => by rw [hk]; exact h.lt⟩

/-- Small work. -/
def SmallW (l : List Wk) : Prop := l.length ≤ 60 ∧ ∀ s ∈ l, s.data.length ≤ 200 ∧ s.name.length ≤ 100 ∧ s.dest.length ≤ 100
theorem SmallW.filter {l : List Wk} (h : SmallW l) : SmallW (l.filter isWk) := ⟨Nat.le_trans (List.length_filter_le _ _) h.1, fun s hs => h.2 s (List.mem_filter.1 hs).1⟩
theorem SmallW.take {l : List Wk} (h : SmallW l) (k : Nat) : SmallW (l.take k) := ⟨by rw [List.length_take]; have := h.1; omega, fun s hs => h.2 s (List.mem_of_mem_take hs)⟩

/-- One of the reference's steps, on a disk of its own. -/
theorem rdo10_any (p k : Nat) (m : Dk) (s : Wk) (A : Option Addr) (n c : Nat) (W : World) (h : RD W (fun j => j = p) p m) (hO : OkD k m) (hk : k ≤ 199) (hs : s.data.length ≤ 200 ∧ s.name.length ≤ 100 ∧ s.dest.length ≤ 100) (hda : BytS W (fun j => j = p) A n s.data) (hnil : A = none → n = 0 ∧ c = 0) :
    Calls Try.prog 16 #[.pointer (some ⟨p, 0, none⟩), spV s.sp A n c] W fun e W' => e = .returned (.int .i64 (doD m s.sp).1) ∧ RD W' (fun j => j = p) p (doD m s.sp).2 ∧ OkD (k + 1) (doD m s.sp).2 ∧ Turn (fun j => j = p) W W' := by
  refine (rdo_any (fun j => j = p) p m s.sp A n c W h (hO.good (by omega)) (by have := hO.calls; omega) hO.left hO.cap (by show s.name.length ≤ _; omega) (by show s.dest.length ≤ _; omega) hda hnil (by have := hda.1; omega)).mono ?_
  rintro e W' ⟨rfl, hr, ht⟩
  exact ⟨rfl, hr, do_ok s.sp hO hs.1 (by show (0 : Nat) < _; omega), ht⟩

set_option maxRecDepth 100000 in
set_option maxHeartbeats 2000000 in
theorem behind10_any (cap : Int) (hcap : cap < 9223372036854775808) (A : Option Addr) (n c : Nat) (l : List Wk) (W : World) (hl : Wks W (fun k => W.heap.size ≤ k) A n l) (hs : SmallW l) :
    Calls Try.prog 24 #[.int .i64 cap, .slice A n c] W fun e W' => ∃ p, e = .returned (.pointer (some ⟨p, 0, none⟩)) ∧ RD W' (fun j => j = p) p (behindD (newD cap) l) ∧ W.heap.size ≤ p ∧ Below W.heap.size W W' := by
  have HF := Lib.hid hl
  have HS := Lib.hid hs
  have HC := Lib.hid hcap
  have hn : n ≤ 60 := by have := hl.len; have := hs.1; omega
  clear hl hs hcap
  obtain ⟨p, hp⟩ : ∃ p, W.heap.size = p := ⟨_, rfl⟩
  have key : ∀ wr : World, Blk wr p 40 [.slice none 0 0, .int .i64 (max cap 0), .int .u64 0, .bool false, .int .u64 0, .int .i64 0, .bool false] → Below W.heap.size W wr → RD wr (fun j => j = p) p (behindD (newD cap) (l.take 0)) ∧ OkD 0 (behindD (newD cap) (l.take 0)) ∧ Below W.heap.size W wr := fun wr h h2 => by
    rw [List.take_zero]
    exact ⟨rd_new h, newD_ok cap HC.out, h2⟩
  have HK := Lib.hid key
  have HP := Lib.hid hp
  clear key
  have hLen : Hid (l.length = n) := Lib.hid (by have := HF.out.len; omega)
  rcases Classical.em (cap < 0) with hc0 | hc0
  · have hm : max cap 0 = 0 := by omega
    rw [hm] at HK
    have d0 : decide (cap < 0) = true := decide_eq_true hc0
    have hb0 := Blk.new (cs := [.slice none 0 0, .int .i64 0, .int .u64 0, .bool false, .int .u64 0, .int .i64 0, .bool false]) W 40 _ rfl
    rw [hp] at hb0
    have HB := Lib.hid (HK.out _ hb0 ((Below.refl W.heap.size W).alloc (Nat.le_refl _) _))
    clear hb0 hm hc0 HK
    go_enter Try.func24, Try.ntmps24
    rw [hp]
    go_wp2_with fail
    go_loopw [6] (fun i wr => ∃ k : Nat, k ≤ n ∧ i = .int .i64 k ∧ RD wr (fun j => j = p) p (behindD (newD cap) (l.take k)) ∧ OkD k (behindD (newD cap) (l.take k)) ∧ Below W.heap.size W wr) (fun i _ => n - (intOf i).toNat)
    case atStart => exact ⟨0, Nat.zero_le _, rfl, HB.out⟩
    case round =>
      obtain ⟨k, hk, rfl, hR, hO, hb⟩ := hrel
      by_cases hlt : k < n
      · obtain ⟨s, hs⟩ : ∃ s, l[k]? = some s := ⟨_, List.getElem?_eq_getElem (by have := hLen.out; omega)⟩
        have hsm := HS.out.2 s (List.mem_of_getElem? hs)
        obtain ⟨b, o, A2, n2, c2, rfl, hbS, hbl, ⟨r0, r1, r2, r3⟩, hby, hnil2, _, _⟩ := (HF.out.turn (Turn.of_below hb)).at_ hs
        have hSt := fun w => step10_any s A2 n2 c2 w
        unfold wkV at hSt
        obtain ⟨T, hT⟩ : ∃ T : ByteArray, ⟨s.name.toArray⟩ = T := ⟨_, rfl⟩
        obtain ⟨U, hU⟩ : ∃ U : ByteArray, ⟨s.dest.toArray⟩ = U := ⟨_, rfl⟩
        obtain ⟨K, hK⟩ : ∃ K, s.kind = K := ⟨_, rfl⟩
        rw [hT, hU, hK] at hSt
        rw [hT] at r1
        rw [hU] at r2
        rw [hK] at r0
        have hbt := behind_take l (newD cap) k s hs
        have HN := Lib.hid (And.intro hbt (And.intro hsm (And.intro hR (And.intro hO hb))))
        have HY := Lib.hid (And.intro hby hnil2)
        clear hT hU hK hbt hs hsm hR hO hb hby hnil2 hbS
        go_wp2_with fail
        refine (hSt _).mono ?_
        rintro e W2 ⟨rfl, hb2⟩
        obtain ⟨hbt, hsm, hR, hO, hb⟩ := HN.out
        have hp2 := HP.out
        have hD := rdo10_any p k _ s A2 n2 c2 W2 (hR.turn (Turn.of_below hb2 : Turn (fun _ => False) wr W2) (fun _ h => h.elim) (fun h => h.elim)) hO (by omega) hsm ((HY.out.1.turn (Turn.of_below hb2)).less fun j hj => by rw [hj]; omega) HY.out.2
        have hB2 := bthen hb hb2
        have HB2 := Lib.hid hB2
        have HT := Lib.hid hbt
        obtain ⟨V, hV⟩ : ∃ V, spV s.sp A2 n2 c2 = V := ⟨_, rfl⟩
        rw [hV] at hD ⊢
        obtain ⟨m1, hm1⟩ : ∃ m1, doD (behindD (newD cap) (l.take k)) s.sp = m1 := ⟨_, rfl⟩
        rw [hm1] at hD
        have HM := Lib.hid hm1
        clear hSt hb2 hbt hsm hR hO hb hB2 hp2 hV hm1 r0 r1 r2 r3 HN HY
        go_wp2_with fail
        refine hD.mono ?_
        rintro e W3 ⟨rfl, hR3, hO3, ht3⟩
        have hB3 : Below W.heap.size W W3 := HB2.out.trans (ht3.below HB2.out.size (fun j hj => by rw [hj]; have := HP.out; omega))
        have HR3 : Hid (RD W3 (fun j => j = p) p (behindD (newD cap) (l.take (k + 1))) ∧ OkD (k + 1) (behindD (newD cap) (l.take (k + 1))) ∧ Below W.heap.size W W3) := Lib.hid (by
          rw [HT.out, HM.out]
          exact ⟨hR3, hO3, hB3⟩)
        clear hD hR3 hO3 ht3 hB3
        go_wp2_with fail
        go_roundw
        case rel => exact ⟨k + 1, by omega, by go_num, HR3.out⟩
        case measure => simp [intOf]; omega
      · have HR : Hid (l.take k = l) := Lib.hid (List.take_of_length_le (by have := hLen.out; omega))
        have HX := Lib.hid (And.intro hR hb)
        clear hR hO hb
        go_wp2
        go_ret
        obtain ⟨h1, h2⟩ := HX.out
        rw [HR.out] at h1
        exact ⟨p, rfl, h1, by have := HP.out; omega, by rw [← HP.out]; exact h2⟩
  · have hm : max cap 0 = cap := by omega
    rw [hm] at HK
    have d0 : decide (cap < 0) = false := decide_eq_false hc0
    have hb0 := Blk.new (cs := [.slice none 0 0, .int .i64 cap, .int .u64 0, .bool false, .int .u64 0, .int .i64 0, .bool false]) W 40 _ rfl
    rw [hp] at hb0
    have HB := Lib.hid (HK.out _ hb0 ((Below.refl W.heap.size W).alloc (Nat.le_refl _) _))
    clear hb0 hm hc0 HK
    go_enter Try.func24, Try.ntmps24
    rw [hp]
    go_wp2_with fail
    go_loopw [6] (fun i wr => ∃ k : Nat, k ≤ n ∧ i = .int .i64 k ∧ RD wr (fun j => j = p) p (behindD (newD cap) (l.take k)) ∧ OkD k (behindD (newD cap) (l.take k)) ∧ Below W.heap.size W wr) (fun i _ => n - (intOf i).toNat)
    case atStart => exact ⟨0, Nat.zero_le _, rfl, HB.out⟩
    case round =>
      obtain ⟨k, hk, rfl, hR, hO, hb⟩ := hrel
      by_cases hlt : k < n
      · obtain ⟨s, hs⟩ : ∃ s, l[k]? = some s := ⟨_, List.getElem?_eq_getElem (by have := hLen.out; omega)⟩
        have hsm := HS.out.2 s (List.mem_of_getElem? hs)
        obtain ⟨b, o, A2, n2, c2, rfl, hbS, hbl, ⟨r0, r1, r2, r3⟩, hby, hnil2, _, _⟩ := (HF.out.turn (Turn.of_below hb)).at_ hs
        have hSt := fun w => step10_any s A2 n2 c2 w
        unfold wkV at hSt
        obtain ⟨T, hT⟩ : ∃ T : ByteArray, ⟨s.name.toArray⟩ = T := ⟨_, rfl⟩
        obtain ⟨U, hU⟩ : ∃ U : ByteArray, ⟨s.dest.toArray⟩ = U := ⟨_, rfl⟩
        obtain ⟨K, hK⟩ : ∃ K, s.kind = K := ⟨_, rfl⟩
        rw [hT, hU, hK] at hSt
        rw [hT] at r1
        rw [hU] at r2
        rw [hK] at r0
        have hbt := behind_take l (newD cap) k s hs
        have HN := Lib.hid (And.intro hbt (And.intro hsm (And.intro hR (And.intro hO hb))))
        have HY := Lib.hid (And.intro hby hnil2)
        clear hT hU hK hbt hs hsm hR hO hb hby hnil2 hbS
        go_wp2_with fail
        refine (hSt _).mono ?_
        rintro e W2 ⟨rfl, hb2⟩
        obtain ⟨hbt, hsm, hR, hO, hb⟩ := HN.out
        have hp2 := HP.out
        have hD := rdo10_any p k _ s A2 n2 c2 W2 (hR.turn (Turn.of_below hb2 : Turn (fun _ => False) wr W2) (fun _ h => h.elim) (fun h => h.elim)) hO (by omega) hsm ((HY.out.1.turn (Turn.of_below hb2)).less fun j hj => by rw [hj]; omega) HY.out.2
        have hB2 := bthen hb hb2
        have HB2 := Lib.hid hB2
        have HT := Lib.hid hbt
        obtain ⟨V, hV⟩ : ∃ V, spV s.sp A2 n2 c2 = V := ⟨_, rfl⟩
        rw [hV] at hD ⊢
        obtain ⟨m1, hm1⟩ : ∃ m1, doD (behindD (newD cap) (l.take k)) s.sp = m1 := ⟨_, rfl⟩
        rw [hm1] at hD
        have HM := Lib.hid hm1
        clear hSt hb2 hbt hsm hR hO hb hB2 hp2 hV hm1 r0 r1 r2 r3 HN HY
        go_wp2_with fail
        refine hD.mono ?_
        rintro e W3 ⟨rfl, hR3, hO3, ht3⟩
        have hB3 : Below W.heap.size W W3 := HB2.out.trans (ht3.below HB2.out.size (fun j hj => by rw [hj]; have := HP.out; omega))
        have HR3 : Hid (RD W3 (fun j => j = p) p (behindD (newD cap) (l.take (k + 1))) ∧ OkD (k + 1) (behindD (newD cap) (l.take (k + 1))) ∧ Below W.heap.size W W3) := Lib.hid (by
          rw [HT.out, HM.out]
          exact ⟨hR3, hO3, hB3⟩)
        clear hD hR3 hO3 ht3 hB3
        go_wp2_with fail
        go_roundw
        case rel => exact ⟨k + 1, by omega, by go_num, HR3.out⟩
        case measure => simp [intOf]; omega
      · have HR : Hid (l.take k = l) := Lib.hid (List.take_of_length_le (by have := hLen.out; omega))
        have HX := Lib.hid (And.intro hR hb)
        clear hR hO hb
        go_wp2
        go_ret
        obtain ⟨h1, h2⟩ := HX.out
        rw [HR.out] at h1
        exact ⟨p, rfl, h1, by have := HP.out; omega, by rw [← HP.out]; exact h2⟩

/-- Files that are handed back. -/
def FlsBack (fs : List Fl) (W : World) (e : Ending) (W' : World) : Prop :=
  ∃ A n c, e = .returned (.slice A n c) ∧ Fls W' (fun k => W'.heap.size ≤ k) A n fs ∧ Below W.heap.size W W'
theorem FlsBack.of {fs : List Fl} {W W' : World} {base : Nat} {S : Nat → Prop} {v : Value} {xs : List Value} (h : W'.ownsRow base 54 3 v fs.length xs) (hx : Fx W' S xs fs) (hb : Below W.heap.size W W') : FlsBack fs W (.returned v) W' := by
  obtain ⟨A, c, rfl, _⟩ := own_formk h
  have h1 : Fls W' (fun _ => False) A fs.length fs := Fls.of_own h (hx.less fun _ h => h.elim) (fun _ h => h.elim)
  exact ⟨A, _, c, rfl, h1.more fun k hk hl => by omega, hb⟩

/-- The calls, as what follows wants them. -/
theorem calls10_back (A : Option Addr) (n c : Nat) (l : List Wk) (W : World) (hl : Wks W (fun k => W.heap.size ≤ k) A n l) (hs : SmallW l) :
    Calls Try.prog 14 #[.slice A n c] W fun e W' => ∃ A1 c1, e = .returned (.slice A1 (l.filter isWk).length c1) ∧ Wks W' (fun k => W'.heap.size ≤ k) A1 (l.filter isWk).length (l.filter isWk) ∧ (l.filter isWk).length ≤ c1 ∧ c1 ≤ maxLen ∧ Below W.heap.size W W' := by
  refine (calls10_any A n c l _ W hl (fun k hk => hk) (by have := hl.len; have := hs.1; omega)).mono ?_
  rintro e W1 ⟨v, xs, rfl, hown, hx, hb⟩
  obtain ⟨A1, c1, rfl, hnil, hnc, hcm⟩ := own_formk hown
  obtain ⟨_, hW1⟩ := Wks.of_out (S' := fun k => W1.heap.size ≤ k) hown hx (fun k hk => Nat.le_trans hb.size hk) (fun k hk => .inr hk)
  exact ⟨A1, c1, rfl, hW1, hnc, hcm, hb⟩

theorem cut10_any (A : Option Addr) (n c : Nat) (p k : Nat) (m : Dk) (keep : Int) (W : World) (hfl : Fls W (fun j => j = p) A n m.files) (hO : OkD k m) (hk : k ≤ 200) :
    Calls Try.prog 23 #[.slice A n c, .int .i64 keep] W (FlsBack (m.files.map (cutF keep)) W) := by
  refine (cut_any A n c m.files keep (fun j => j = p ∨ W.heap.size ≤ j) W (hfl.more fun j hj hl => by omega) (fun j hj => .inr hj) (by have := hfl.1; have := hO.len; omega) (fun f hf => ⟨hO.sure f hf, by have := mem_size m.files f hf; have := hO.size; omega⟩)).mono ?_
  rintro e W' ⟨v, xs, rfl, hown, hx, hb⟩
  exact FlsBack.of hown hx hb

set_option maxRecDepth 100000 in
set_option maxHeartbeats 2000000 in
theorem refAt10_any (cap keep : Int) (place : Nat) (hcap : cap < 9223372036854775808) (A : Option Addr) (n c : Nat) (l : List Wk) (W : World) (hl : Wks W (fun k => W.heap.size ≤ k) A n l) (hs : SmallW l) :
    Calls Try.prog 10 #[.int .i64 cap, .slice A n c, .int .u64 ((place : Nat) : Int), .int .i64 keep] W (FlsBack ((behindD (newD cap) ((l.filter isWk).take place)).files.map (cutF keep)) W) := by
  have hCl := calls10_back A n c l W hl hs
  have HS := Lib.hid (And.intro hs.filter hcap)
  clear hl hs hcap
  obtain ⟨L, hL⟩ : ∃ L, l.filter isWk = L := ⟨_, rfl⟩
  obtain ⟨N, hN⟩ : ∃ N, L.length = N := ⟨_, rfl⟩
  rw [hL] at HS hCl
  rw [hN] at hCl
  rw [hL]
  have HN := Lib.hid hN
  clear hL hN
  have hN60 : N ≤ 60 := by have := HS.out.1.1; have := HN.out; omega
  go_enter Try.func10, Try.ntmps10
  go_wp2_with fail
  refine hCl.mono ?_
  rintro e W1 ⟨A1, c1, rfl, hW1, hnc, hcm, hb⟩
  have HB := Lib.hid hb
  clear hCl hb
  rcases Nat.lt_or_ge place N with hp | hp
  · have d0 : decide ((place : Int) < (N : Int)) = true := decide_eq_true (by omega)
    have hBe := behind10_any cap HS.out.2 A1 place c1 (L.take place) W1 (hW1.take (by omega)) (HS.out.1.take place)
    have HO : Hid (OkD (0 + (L.take place).length) (behindD (newD cap) (L.take place)) ∧ (L.take place).length ≤ 60) := Lib.hid ⟨behind_ok 0 _ _ (newD_ok cap HS.out.2) fun o ho => ((HS.out.1.take place).2 o ho).1, (HS.out.1.take place).1⟩
    obtain ⟨m1, hm1⟩ : ∃ m1, behindD (newD cap) (L.take place) = m1 := ⟨_, rfl⟩
    rw [hm1] at hBe HO
    have HM := Lib.hid hm1
    clear hW1 hm1
    go_wp2_with fail
    refine hBe.mono ?_
    rintro e W2 ⟨p, rfl, ⟨Af, nf, cf, hB, hF, _⟩, _, hb2⟩
    have e0 : W2.cell? ⟨p, 0, none⟩ = some (.slice Af nf cf) := hB.cell 0
    have hCu := cut10_any Af nf cf p _ m1 keep W2 hF HO.out.1 (by have := HO.out.2; omega)
    have HB2 := Lib.hid (bthen HB.out hb2)
    clear hBe hB hF hb2
    go_wp2_with fail
    refine hCu.mono ?_
    rintro e W3 ⟨A3, n3, c3, rfl, hF3, hb3⟩
    have HR := Lib.hid (And.intro hF3 (bthen HB2.out hb3))
    clear hCu hF3 hb3 e0
    go_wp2_with fail
    go_ret
    exact ⟨_, _, _, rfl, by rw [HM.out]; exact HR.out⟩
  · have d0 : decide ((place : Int) < (N : Int)) = false := decide_eq_false (by omega)
    have hT : L.take place = L := List.take_of_length_le (by have := HN.out; omega)
    have hBe := behind10_any cap HS.out.2 A1 N c1 L W1 hW1 HS.out.1
    have HO : Hid (OkD (0 + L.length) (behindD (newD cap) L) ∧ L.length ≤ 60) := Lib.hid ⟨behind_ok 0 _ _ (newD_ok cap HS.out.2) fun o ho => (HS.out.1.2 o ho).1, HS.out.1.1⟩
    obtain ⟨m1, hm1⟩ : ∃ m1, behindD (newD cap) L = m1 := ⟨_, rfl⟩
    rw [hm1] at hBe HO
    have HM : Hid (behindD (newD cap) (L.take place) = m1) := Lib.hid (by rw [hT]; exact hm1)
    clear hW1 hm1 hT
    go_wp2_with fail
    refine hBe.mono ?_
    rintro e W2 ⟨p, rfl, ⟨Af, nf, cf, hB, hF, _⟩, _, hb2⟩
    have e0 : W2.cell? ⟨p, 0, none⟩ = some (.slice Af nf cf) := hB.cell 0
    have hCu := cut10_any Af nf cf p _ m1 keep W2 hF HO.out.1 (by have := HO.out.2; omega)
    have HB2 := Lib.hid (bthen HB.out hb2)
    clear hBe hB hF hb2
    go_wp2_with fail
    refine hCu.mono ?_
    rintro e W3 ⟨A3, n3, c3, rfl, hF3, hb3⟩
    have HR := Lib.hid (And.intro hF3 (bthen HB2.out hb3))
    clear hCu hF3 hb3 e0
    go_wp2_with fail
    go_ret
    exact ⟨_, _, _, rfl, by rw [HM.out]; exact HR.out⟩

end Go.Proofs.Ytikghnbhbehepaa

/-
  A map with texts as keys, its elements whatever values: what it holds, as a list that rises. No program stands here.
-/
namespace Go.Proofs.Ytikghnbhbehepaa
open Go.RowKit
open Go.Maps (Keyed)
set_option linter.unusedVariables false
set_option linter.unusedSimpArgs false

/-- An element reads as itself. -/
def rawR (v : Value) : Option (DataW Value × List MemPlace) := some (.held v, [])
/-- What a map holds, as a datum. -/
def mapE (L : List (List UInt8 × Value)) : List (Lit × DataW Value) := L.map fun p => (Lit.string p.1, DataW.held p.2)
def mapD (L : List (List UInt8 × Value)) : DataW Value := .map (mapE L)
/-- The element of a key; a key with another element, or a new one; a key taken out. -/
def lookM (s : List UInt8) (L : List (List UInt8 × Value)) : Option Value := (L.find? fun p => p.1 == s).map (·.2)
def insM (x : List UInt8 × Value) : List (List UInt8 × Value) → List (List UInt8 × Value)
  | [] => [x]
  | y :: r => if bytesBefore x.1 y.1 then x :: y :: r else y :: insM x r
def delM (s : List UInt8) (L : List (List UInt8 × Value)) : List (List UInt8 × Value) := L.filter fun p => !(p.1 == s)
def putM (s : List UInt8) (v : Value) (L : List (List UInt8 × Value)) : List (List UInt8 × Value) := insM (s, v) (delM s L)

theorem mapE_ins (x : List UInt8 × Value) (L : List (List UInt8 × Value)) : DataW.insert (Lit.string x.1, DataW.held x.2) (mapE L) = mapE (insM x L) := by
  induction L with
  | nil => rfl
  | cons y r ih =>
    show (if bytesBefore x.1 y.1 then _ else _) = mapE (if bytesBefore x.1 y.1 then _ else _)
    by_cases h : bytesBefore x.1 y.1 = true
    · rw [if_pos h, if_pos h]; rfl
    · rw [if_neg h, if_neg h]
      show _ :: DataW.insert _ (mapE r) = _
      rw [ih]; rfl
theorem mapE_del (s : List UInt8) (L : List (List UInt8 × Value)) : (mapE L).filter (fun p => !p.1.sameKey (.string s)) = mapE (delM s L) := by
  induction L with
  | nil => rfl
  | cons y r ih =>
    show List.filter _ ((Lit.string y.1, DataW.held y.2) :: mapE r) = _
    have e : (Lit.string y.1).sameKey (.string s) = (y.1 == s) := rfl
    unfold delM at ih ⊢
    rw [List.filter_cons, List.filter_cons, e]
    cases y.1 == s
    · simp only [Bool.not_false, if_true]; rw [ih]; rfl
    · simp only [Bool.not_true, Bool.false_eq_true, if_false]; exact ih
theorem mapD_put (s : List UInt8) (v : Value) (L : List (List UInt8 × Value)) : (mapD L).put (.string s) (.held v) = mapD (putM s v L) := by
  show DataW.map (DataW.insert _ ((mapE L).filter _)) = _
  rw [mapE_del, mapE_ins (s, v)]
  rfl
theorem mapD_del (s : List UInt8) (L : List (List UInt8 × Value)) : (mapD L).del (.string s) = mapD (delM s L) := by
  show DataW.map ((mapE L).filter _) = _
  rw [mapE_del]
  rfl
theorem mapE_find (s : List UInt8) (L : List (List UInt8 × Value)) : (mapE L).find? (fun p => p.1.sameKey (.string s)) = (L.find? fun p => p.1 == s).map fun p => (Lit.string p.1, DataW.held p.2) := by
  unfold mapE
  rw [List.find?_map]
  rfl
theorem mapD_at (s : List UInt8) (L : List (List UInt8 × Value)) (z : Value) : (mapD L).atKey (.string s) (.held z) = .held ((lookM s L).getD z) := by
  unfold mapD DataW.atKey lookM
  dsimp only
  rw [mapE_find]
  cases L.find? fun p => p.1 == s <;> rfl
theorem mapD_has (s : List UInt8) (L : List (List UInt8 × Value)) : Maps.has (mapD L) (.string s) = (lookM s L).isSome := by
  show (mapE L).any (fun p => p.1.sameKey (.string s)) = ((L.find? fun p => p.1 == s).map (·.2)).isSome
  rw [Option.isSome_map]
  induction L with
  | nil => rfl
  | cons y r ih =>
    show ((y.1 == s) || (mapE r).any _) = ((y :: r).find? _).isSome
    rw [List.find?_cons, ih]
    cases y.1 == s <;> rfl
theorem mapD_size (L : List (List UInt8 × Value)) : Maps.size (mapD L) = L.length := by
  show (mapE L).length = _
  simp [mapE]

/-- Block b is a map with these keys and elements. -/
def MapS (w : World) (P : Program) (k : TypeId) (b : Nat) (L : List (List UInt8 × Value)) : Prop := w.ownsMap P k rawR b L.length (mapD L)

section
variable {w w' : World} {P : Program} {k t e : TypeId} {b : Nat} {L : List (List UInt8 × Value)}
theorem MapS.tight {n : Nat} (h : w.ownsMap P k rawR b n (mapD L)) : MapS w P k b L := by
  obtain ⟨es, clock, hb, F, hs, hD⟩ := h
  refine ⟨es, clock, hb, F, ?_, hD⟩
  have h1 : mapE L = (es.toList.map (Go.WideElems.rg P k rawR)).foldr DataW.insert [] := by
    have := hD
    unfold mapD at this
    simpa using this
  have h2 : (mapE L).length = es.size := by rw [h1, length_sorted]; simp
  have h3 : (mapE L).length = L.length := by simp [mapE]
  omega
theorem MapS.lt (h : MapS w P k b L) : b < w.heap.size := World.ownsMap.lt h
theorem MapS.made (w : World) (P : Program) (k : TypeId) : MapS (w.alloc (.map #[] 0)) P k w.heap.size [] := World.ownsMap_made w P k rawR
theorem MapS.alloc (h : MapS w P k b L) (o : Obj) : MapS (w.alloc o) P k b L := World.ownsMap.alloc h o
theorem MapS.drewN (h : MapS w P k b L) (q : Nat) : MapS (w.drewN q) P k b L := h
theorem MapS.below {B : Nat} (h : MapS w P k b L) (hb : Below B w w') (hlt : b < B) : MapS w' P k b L := by
  obtain ⟨es, clock, hbb, F, hs, hD⟩ := h
  exact ⟨es, clock, (hb.block b hlt).trans hbb, F, hs, hD⟩
theorem MapS.setCell (h : MapS w P k b L) {a : Addr} (ha : b ≠ a.block) (u : Value) : MapS (w.setCell a u) P k b L := World.ownsMap.setCell h ha u
/-- 'v, ok := m[s]'. -/
theorem MapS.look (h : MapS w P k b L) (K : Keyed P k) (ht : P.underlying t = some (.map k e)) {z : Value} (hz : (zeroValue e).run P w = .ok z w) (s : ByteArray) (hkey : keyOf P k (.string s) = some (.string s.data.toList)) :
    (Instr.lookup t (.map (some b)) (.string s) true).run P w = .ok (.tuple #[(lookM s.data.toList L).getD z, .bool (lookM s.data.toList L).isSome]) w := by
  obtain ⟨v, ps, hrun, hv⟩ := World.ownsMap.look_ok h K ht hz (show rawR z = some (.held z, []) from rfl) hkey
  rw [mapD_at] at hv
  have hv2 : v = (lookM s.data.toList L).getD z := by
    have : (some (DataW.held v, []) : Option (DataW Value × List MemPlace)) = some (.held ((lookM s.data.toList L).getD z), ps) := hv
    simpa using congrArg (fun o => o.map (·.1)) this
  rw [hrun, mapD_has, hv2]
/-- 'm[s] = v'. -/
theorem MapS.put (h : MapS w P k b L) (K : Keyed P k) (ht : P.underlying t = some (.map k e)) (hn : L.length < maxLen) (s : ByteArray) (v : Value) (hkey : keyOf P k (.string s) = some (.string s.data.toList)) :
    ∃ w', (Instr.mapUpdate t (.map (some b)) (.string s) v).run P w = .ok () w' ∧ MapS w' P k b (putM s.data.toList v L) ∧ w.mapTurned w' b := by
  obtain ⟨w', h1, h2, h3⟩ := World.ownsMap.store h K ht hn hkey (show rawR v = some (.held v, []) from rfl)
  rw [mapD_put] at h2
  exact ⟨w', h1, MapS.tight h2, h3⟩
/-- 'delete(m, s)'. -/
theorem MapS.drop (h : MapS w P k b L) (K : Keyed P k) (ht : P.underlying t = some (.map k e)) (s : ByteArray) (hkey : keyOf P k (.string s) = some (.string s.data.toList)) (ty : TypeId) :
    ∃ w', (Builtin.delete_ #[t, k] ty #[.map (some b), .string s]).run P w = .ok (.tuple #[]) w' ∧ MapS w' P k b (delM s.data.toList L) ∧ w.mapTurned w' b := by
  obtain ⟨w', h1, h2, h3⟩ := World.ownsMap.drop h K ht hkey ty
  rw [mapD_del] at h2
  exact ⟨w', h1, MapS.tight h2, h3⟩
/-- 'len(m)'. -/
theorem MapS.len (h : MapS w P k b L) (ht : P.underlying t = some (.map k e)) (ty : TypeId) : (Builtin.len_ #[t] ty #[.map (some b)]).run P w = .ok (.int .i64 ((L.length : Nat) : Int)) w := by
  rw [World.ownsMap.len h ht ty, mapD_size]
end

end Go.Proofs.Ytikghnbhbehepaa
