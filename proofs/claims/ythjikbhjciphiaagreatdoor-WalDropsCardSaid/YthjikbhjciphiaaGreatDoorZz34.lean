/-
  An argument that is a list of records, opened.
-/
import Derived.Test.YthjikbhjciphiaaGreatDoorZz28
import Derived.Test.YthjikbhjciphiaaGreatDoorZz16
import Derived.Test.YthjikbhjciphiaaGreatDoorZz15
import Derived.Shelf.Abstract
import Derived.OwnWalkIn
import Derived.TacticsInMore
import Derived.LoopNIn
import Derived.LoopIn
import Derived.RangeFuncBox
import Derived.Maps.AppendAt
namespace Go.Proofs.YthjikbhjciphiaaGreatDoor
open Go.RowKit
open Go.ChangeShapes Go.WideShapes Go.ChangeAt
set_option linter.unusedVariables false
set_option linter.unusedSimpArgs false

theorem rcp_of (ps : List Prt) (h : ps.map Prt.kind = [.num .u64, .num .i64, .txt, .num .u64, .num .u64, .num .u64]) (ho : ∀ p ∈ ps, p.okay) : ∃ r : Rc, ps = rcP r ∧ r.okay ∧ r.ten.length ≤ maxLen := by
  match ps, h with
  | [.num k0 z0, .num k1 z1, .txt t, .num k3 z3, .num k4 z4, .num k5 z5], h =>
    simp only [List.map_cons, List.map_nil, Prt.kind, List.cons.injEq, PK.num.injEq, and_true, true_and] at h
    obtain ⟨rfl, rfl, rfl, rfl, rfl⟩ := h
    have b0 := bounds_u64 (ho (.num .u64 z0) (by simp))
    have b1 := bounds_i64 (ho (.num .i64 z1) (by simp))
    have b2 : t.length ≤ maxLen := ho (.txt t) (by simp)
    have b3 := bounds_u64 (ho (.num .u64 z3) (by simp))
    have b4 := bounds_u64 (ho (.num .u64 z4) (by simp))
    have b5 := bounds_u64 (ho (.num .u64 z5) (by simp))
    obtain ⟨s, rfl⟩ := Int.eq_ofNat_of_zero_le b0.1
    obtain ⟨l, rfl⟩ := Int.eq_ofNat_of_zero_le b3.1
    obtain ⟨n, rfl⟩ := Int.eq_ofNat_of_zero_le b4.1
    obtain ⟨b, rfl⟩ := Int.eq_ofNat_of_zero_le b5.1
    refine ⟨⟨s, z1, t, l, n, b⟩, rfl, ⟨?_, ?_, ?_, ?_, ?_, ?_⟩, b2⟩ <;> (simp only; omega)
theorem rcps_of (ss : List (List Prt)) (h : ∀ ps ∈ ss, ps.map Prt.kind = [.num .u64, .num .i64, .txt, .num .u64, .num .u64, .num .u64] ∧ ∀ p ∈ ps, p.okay) : ∃ l : List Rc, ss = rcPs l ∧ Fine l := by
  induction ss with
  | nil => exact ⟨[], rfl, fun r hr => by cases hr⟩
  | cons p t ih =>
    obtain ⟨hk, ho⟩ := h p List.mem_cons_self
    obtain ⟨r, hr, hf⟩ := rcp_of p hk ho
    obtain ⟨l, hl, hfl⟩ := ih fun x hx => h x (List.mem_cons_of_mem _ hx)
    refine ⟨r :: l, by rw [hr, hl]; rfl, fun q hq => ?_⟩
    rcases List.mem_cons.1 hq with rfl | hq
    · exact hf
    · exact hfl q hq
theorem open_rcs {H : Type} {enc : TypeId × Value → H} {w : World} {held : Bool} {a : Option Addr} {len cap : Nat} {d : DataW H} {p : List MemPlace} (h : DataW.Trod enc Tryz.prog w 0 (fun _ => true) held 29 (.slice a len cap) d p) :
    ∃ l, Rcs w (fun k => w.heap.size ≤ k) a len l ∧ Fine l ∧ (a = none → cap = 0) ∧ len ≤ cap ∧ cap ≤ maxLen := by
  obtain ⟨ss, h1, h2, h3⟩ := open_sls (pks := [.num .u64, .num .i64, .txt, .num .u64, .num .u64, .num .u64]) Tryz.underlying29 Tryz.underlying35 (by kernel_rfl) (by decide) ⟨rfl, fun i pk hi => by
    match i, hi with
    | 0, hi => cases hi; exact ⟨_, rfl, rfl, by kernel_rfl, Tryz.underlying23⟩
    | 1, hi => cases hi; exact ⟨_, rfl, rfl, by kernel_rfl, Tryz.underlying3⟩
    | 2, hi => cases hi; exact ⟨_, rfl, rfl, by kernel_rfl, Tryz.underlying9⟩
    | 3, hi => cases hi; exact ⟨_, rfl, rfl, by kernel_rfl, Tryz.underlying23⟩
    | 4, hi => cases hi; exact ⟨_, rfl, rfl, by kernel_rfl, Tryz.underlying23⟩
    | 5, hi => cases hi; exact ⟨_, rfl, rfl, by kernel_rfl, Tryz.underlying23⟩
    | i + 6, hi => exact absurd (List.getElem?_eq_some_iff.1 hi).1 (by simp)⟩ h
  obtain ⟨l, rfl, hf⟩ := rcps_of ss h2
  exact ⟨l, h1, hf, h3⟩

end Go.Proofs.YthjikbhjciphiaaGreatDoor

/-
  The iterator over boxes.
-/
namespace Go.Proofs.YthjikbhjciphiaaGreatDoor
open Go.RowKit Go.Shelf
set_option linter.unusedVariables false
set_option linter.unusedSimpArgs false

attribute [local go_sem] Oper.semAt_some

set_option maxHeartbeats 1000000 in
theorem boxes_any (A : Option Addr) (n c : Nat) (w : World) :
    Calls Tryz.prog 75 #[.slice A n c] w fun e w' =>
      e = .returned (.func (.func 122) #[] #[.pointer (some ⟨w.heap.size, 0, none⟩)]) ∧ w' = w.alloc (.cells #[.slice A n c] 70) := by
  have hmf : ∀ (fn : Fn) (first cap : Array Value) (w : World), (Instr.makeFunc fn first cap).run Tryz.prog w = .ok (.func fn first cap) w := fun _ _ _ _ => rfl
  go_enter Tryz.func75, Tryz.ntmps75
  go_wp2_with fail
  go_ret
  exact ⟨rfl, rfl⟩

/-- Bytes that a slice holds, in a block of bytes. -/
def Tyb (w : World) (v : Value) (b : List UInt8) : Prop :=
  ∃ A m c, v = .slice A m c ∧ Byt w w.heap.size A m b ∧ (A = none → c = 0) ∧ m ≤ c ∧ c ≤ maxLen ∧ (0 < m → ∃ g o cs fr, A = some ⟨g, o, none⟩ ∧ w.heap[g]? = some (.cells cs 5 fr))
/-- Blocks of bytes lie as they lay. -/
def KeepU (w w' : World) : Prop := w.heap.size ≤ w'.heap.size ∧ ∀ (k : Nat) cs fr, w.heap[k]? = some (.cells cs 5 fr) → w'.heap[k]? = some (.cells cs 5 fr)
theorem KeepU.refl (w : World) : KeepU w w := ⟨Nat.le_refl _, fun _ _ _ h => h⟩
theorem KeepU.trans {a b c : World} (h : KeepU a b) (k : KeepU b c) : KeepU a c := ⟨Nat.le_trans h.1 k.1, fun i cs fr hi => k.2 i cs fr (h.2 i cs fr hi)⟩
theorem KeepU.below {w w' : World} (h : Below w.heap.size w w') : KeepU w w' := ⟨h.size, fun k cs fr hk => (h.block k (Array.getElem?_eq_some_iff.1 hk).1).trans hk⟩
theorem KeepU.put {w : World} {l : Nat} {o : Obj} (o' : Obj) (hl : w.heap[l]? = some o) (ho : o.isCells = false) : KeepU w (w.putObj l o') := by
  refine ⟨by simp, fun k cs fr hk => (World.putObj_heap_other ?_).trans hk⟩
  rintro rfl
  rw [hl] at hk
  cases hk
  cases ho
theorem KeepU.grown {w w' : World} {row : Option Nat} (hg : w.grownBy w' row) (hr : ∀ r, row = some r → ∃ o : Obj, w.heap[r]? = some o ∧ ∀ cs fr, o ≠ .cells cs 5 fr) : KeepU w w' := by
  refine ⟨hg.size, fun k cs fr hk => (hg.block k (Array.getElem?_eq_some_iff.1 hk).1 ?_).trans hk⟩
  intro e
  obtain ⟨o, ho, hn⟩ := hr k e.symm
  rw [hk] at ho
  cases ho
  exact hn _ _ rfl
theorem Tyb.keep {w w' : World} {v : Value} {b : List UInt8} (h : Tyb w v b) (hk : KeepU w w') : Tyb w' v b := by
  obtain ⟨A, m, c, rfl, hb, h1, h2, h3, h4⟩ := h
  refine ⟨A, m, c, rfl, ⟨hb.1, fun h0 => ?_⟩, h1, h2, h3, fun h0 => ?_⟩
  · obtain ⟨g, o, rfl, hlt, hc⟩ := hb.2 h0
    obtain ⟨g', o', cs, fr, e, hg⟩ := h4 h0
    cases e
    refine ⟨g, o, rfl, Nat.lt_of_lt_of_le hlt hk.1, fun j x hx => ?_⟩
    rw [World.cell?_of_block (w := w) ((hk.2 _ _ _ hg).trans hg.symm)]
    exact hc j x hx
  · obtain ⟨g, o, cs, fr, e, hg⟩ := h4 h0
    exact ⟨g, o, cs, fr, e, hk.2 _ _ _ hg⟩
/-- Slices that hold bytes, one behind the other. -/
def Tybs (w : World) : List Value → List (List UInt8) → Prop
  | [], [] => True
  | v :: vs, b :: bs => Tyb w v b ∧ Tybs w vs bs
  | _, _ => False
theorem Tybs.keep {w w' : World} (hk : KeepU w w') : ∀ {vs : List Value} {bs : List (List UInt8)}, Tybs w vs bs → Tybs w' vs bs
  | [], [], _ => trivial
  | _ :: _, _ :: _, h => ⟨h.1.keep hk, h.2.keep hk⟩
theorem Tybs.snoc {w : World} {v : Value} {b : List UInt8} (h1 : Tyb w v b) : ∀ {vs : List Value} {bs : List (List UInt8)}, Tybs w vs bs → Tybs w (vs ++ [v]) (bs ++ [b])
  | [], [], _ => ⟨h1, trivial⟩
  | _ :: _, _ :: _, h => ⟨h.1, h.2.snoc h1⟩
theorem Tybs.len {w : World} : ∀ {vs : List Value} {bs : List (List UInt8)}, Tybs w vs bs → vs.length = bs.length
  | [], [], _ => rfl
  | _ :: _, _ :: _, h => by simp [h.2.len]
theorem Tybs.prts {w : World} : ∀ {vs : List Value} {bs : List (List UInt8)}, Tybs w vs bs → PrtsV w (fun _ => False) vs (bts bs).flatten
  | [], [], _ => rfl
  | _ :: _, b :: bs, ⟨⟨A, m, c, rfl, hb, h1, h2, h3, h4⟩, h⟩ => by
    show PrtsV w _ _ ([Prt.byt b] ++ (bts bs).flatten)
    refine ⟨_, _, rfl, ⟨A, m, c, rfl, hb.off (fun _ hk => hk.elim), fun e => ⟨?_, h1 e⟩, h2, h3⟩, h.prts⟩
    have := h1 e
    omega

/-- A box that was told: its bytes' slice, and where it ends. -/
abbrev Bx := Value × Nat
def endB (xs : List Bx) : Nat := (xs.getLast?.map Prod.snd).getD 0
theorem endB_snoc (xs : List Bx) (x : Bx) : endB (xs ++ [x]) = x.2 := by unfold endB; simp
/-- What a round keeps: bytes, the iterator's box, what lay below n₀. -/
def KeepB (n₀ Bs : Nat) (w w' : World) : Prop := Below n₀ w w' ∧ w'.heap[Bs]? = w.heap[Bs]? ∧ KeepU w w'
theorem KeepB.trans {n₀ Bs : Nat} {a b c : World} (h : KeepB n₀ Bs a b) (k : KeepB n₀ Bs b c) : KeepB n₀ Bs a c := ⟨h.1.trans k.1, k.2.1.trans h.2.1, h.2.2.trans k.2.2⟩
theorem KeepB.refl {n₀ Bs : Nat} (w : World) : KeepB n₀ Bs w w := ⟨Below.refl _ _, rfl, KeepU.refl _⟩
theorem KeepB.below {n₀ Bs : Nat} {w w' : World} (h : Below w.heap.size w w') (hB : Bs < w.heap.size) (hn : n₀ ≤ w.heap.size) : KeepB n₀ Bs w w' := ⟨h.mono hn, h.block _ hB, KeepU.below h⟩
/-- What is told of a box ahead of its round; of all. -/
def toldB (bs : List UInt8) (pre : List Bx) (x : Bx) (w : World) : Prop := ∃ b, (validC bs).1[pre.length]? = some b ∧ Tyb w x.1 b
def allB (bs : List UInt8) (xs : List Bx) (w : World) : Prop := Tybs w (xs.map Prod.fst) (validC bs).1 ∧ endB xs = (validC bs).2
theorem abides_below {β : Type} {J : β → World → Prop} {B : Nat} (h : AbidesFrom B J) {s : β} {w w' : World} (hs : J s w) (hb : Below w.heap.size w w') : J s w' :=
  h s w w' none hs ⟨hb.os, hb.tape, hb.output, hb.size, fun k hk _ => hb.block k hk⟩ (fun _ e => by cases e)

/-- What holds between two boxes. -/
def BxI (bs : List UInt8) (n₀ Bs : Nat) (J : List Bx → World → Prop) (W wr : World) (a : Nat) : Prop :=
  ∃ (pre : List Bx) (gs : List (List UInt8)), a ≤ bs.length ∧ J pre wr ∧ KeepB n₀ Bs W wr ∧ Tybs wr (pre.map Prod.fst) gs ∧ endB pre = a ∧ validC bs = (gs ++ (validC (bs.drop a)).1, a + (validC (bs.drop a)).2)

set_option maxRecDepth 100000 in
set_option maxHeartbeats 2000000 in
theorem boxes1_in (n : Nat) (hn : 1 ≤ n) (lr Bs n₀ k c : Nat) (A : Option Addr) (bs : List UInt8) (J Jx : List Bx → World → Prop) (W : World)
    (hl : Byt W n₀ A k bs) (hn0 : n₀ ≤ W.heap.size) (hBs : Bs < W.heap.size) (hnil : A = none → c = 0) (hkc : k ≤ c) (hcm : c ≤ maxLen) (hk : k ≤ 1000000)
    (hJ : AbidesFrom W.heap.size J)
    (hY : ∀ pre (x : Bx) W1, J pre W1 → toldB bs pre x W1 → YieldAt Fence.wide (n - 1) Tryz.prog lr #[x.1, .int .i64 (x.2 : Nat)] W1 fun e W' =>
      KeepB n₀ Bs W1 W' ∧ ((e = .returned (.bool true) ∧ J (pre ++ [x]) W') ∨ (e = .returned (.bool false) ∧ Jx (pre ++ [x]) W')))
    (hs : W.cell? ⟨Bs, 0, none⟩ = some (.slice A k c)) (h0 : J [] W) :
    CallsIn Fence.wide n Tryz.prog 122 #[.func (.yield lr) #[] #[], .pointer (some ⟨Bs, 0, none⟩)] W fun e W' => (∃ v, e = .returned v) ∧
      ((∃ xs, allB bs xs W' ∧ J xs W') ∨ (∃ pre, True ∧ Jx pre W')) := by
  refine callsIn_of_wp Tryz.func122 rfl trivial ?_ rfl
  simp only [Tryz.ntmps122, List.size_toArray, List.length_cons, List.length_nil, Nat.reduceAdd, Nat.reduceSub, Array.replicate_succ, Array.replicate_zero, List.push_toArray, List.append_toArray, List.nil_append, List.cons_append]
  gi_wp2
  gi_loopw [3] (fun i wr => ∃ a : Nat, i = .int .i64 a ∧ BxI bs n₀ Bs J W wr a) (fun i _ => k - (intOf i).toNat)
  case atStart => exact ⟨0, rfl, [], [], Nat.zero_le _, h0, KeepB.refl _, trivial, rfl, by simp⟩
  case round =>
    obtain ⟨a, rfl, pre, gs, ha, hJp, hK, hT, he, hV⟩ := hrel
    have hlen := hl.1
    have hsz := hK.1.size
    have hlb := (hl.below hK.1).more (Nat.le_trans hn0 hK.2.2.1)
    have hs' := (World.cell?_of_block (w := W) (a := ⟨Bs, 0, none⟩) hK.2.1).trans hs
    have hN := (callsIn_wide (n := n - 1)).2 (next_any A k c bs (a : Int) wr hlb hnil hkc hcm hk)
    by_cases e0 : (headC (bs.drop a)).2.2 = 0
    · obtain ⟨s1, s2, s3, s4⟩ := head_size _ e0
      rw [List.length_drop] at s2
      rw [next_go bs a ha e0] at hN
      have hV2 := valid_go _ e0
      rw [List.drop_drop] at hV2
      obtain ⟨sz, hsz2⟩ : ∃ z, (headC (bs.drop a)).2.1 = z := ⟨_, rfl⟩
      obtain ⟨bd, hbd⟩ : ∃ z, (headC (bs.drop a)).1 = z := ⟨_, rfl⟩
      rw [hsz2, hbd] at hN hV2
      rw [hsz2] at s1 s2
      rw [hV2] at hV
      have HV := Lib.hid (show validC bs = ((gs ++ [bd]) ++ (validC (bs.drop (a + sz))).1, a + sz + (validC (bs.drop (a + sz))).2) by rw [hV]; simp [Nat.add_assoc])
      obtain ⟨a2, ha2⟩ : ∃ z, a + sz = z := ⟨_, rfl⟩
      rw [ha2] at hN HV
      have HA := Lib.hid (show a < a2 ∧ a2 ≤ k by omega)
      clear hV hV2 e0 hsz2 hbd s1 s2 s3 s4 ha2
      unfold NextO at hN
      have hNQ := hN.mono (R' := fun e w1 => ∃ A1 m1 c1, e = .returned (.tuple #[.slice A1 m1 c1, .int .i64 ((a2 : Nat) : Int), .int .i64 0]) ∧ Tyb w1 (.slice A1 m1 c1) bd ∧ Tybs w1 (pre.map Prod.fst) gs ∧ KeepB n₀ Bs W w1 ∧ J pre w1) (by
        rintro e w1 ⟨A1, m1, c1, rfl, hb1, hn1, hm1, hc1, hbel, hty⟩
        exact ⟨A1, m1, c1, rfl, ⟨A1, m1, c1, rfl, hb1, hn1, hm1, hc1, fun h0 => by obtain ⟨g, o, cs, fr, e, _, hg⟩ := hty h0; exact ⟨g, o, cs, fr, e, hg⟩⟩, hT.keep (KeepU.below hbel), hK.trans (KeepB.below hbel (Nat.lt_of_lt_of_le hBs hsz) (Nat.le_trans hn0 hsz)), abides_below hJ hJp hbel⟩)
      have HL := Lib.hid (And.intro hlen he)
      clear hT hK hJp hN hlb hlen he ha
      gi_wp2_with (first
        | (refine ⟨trivial, ?_⟩; gi_at_call 123; refine hNQ.mono ?_; rintro e w1 ⟨A1, m1, c1, rfl, hx, hT1, hK1, hJ1⟩; obtain ⟨fn, tmps, assign, body, hy, hR⟩ := hY pre (.slice A1 m1 c1, a2) w1 hJ1 ⟨bd, by rw [HV.out]; simp [← hT1.len], hx⟩; dsimp only at hy))
      refine hR.mono ?_
      rintro e W3 ⟨hk3, ⟨rfl, hJ3⟩ | ⟨rfl, hJx3⟩⟩
      · have HI := Lib.hid (show BxI bs n₀ Bs J W W3 a2 from ⟨pre ++ [(.slice A1 m1 c1, a2)], gs ++ [bd], by have := HL.out; have := HA.out; omega, hJ3, hK1.trans hk3, by rw [List.map_append]; exact (hT1.keep hk3.2.2).snoc (hx.keep hk3.2.2), endB_snoc _ _, HV.out⟩)
        clear hJ3 hk3 hK1 hJ1 hT1 hx hR hy hs' hsz hY hNQ
        gi_wp2
        go_roundw
        case rel => exact ⟨a2, rfl, HI.out⟩
        case measure => have := HA.out; simp [intOf]; omega
      · clear hk3 hK1 hJ1 hT1 hx hR hy hs' hsz hY hNQ
        gi_wp2
        refine bodyPost_ret (results_none rfl _ _ _) rfl ?_
        exact ⟨⟨_, rfl⟩, .inr ⟨_, trivial, hJx3⟩⟩
    · rw [next_no bs a ha e0] at hN
      obtain ⟨q, hq⟩ : ∃ q, (headC (bs.drop a)).2.2 = q := ⟨_, rfl⟩
      have hV2 := valid_stop _ e0
      rw [hq] at hN e0
      have hqq : (q != 0) = true := by simpa using e0
      rw [hV2] at hV
      have HV := Lib.hid (show validC bs = (gs, a) by rw [hV]; simp)
      clear hV hV2 hq e0
      unfold NextO at hN
      gi_wp2_with (first
        | (refine ⟨trivial, ?_⟩; gi_at_call 123; refine hN.mono ?_; rintro e w1 ⟨A1, m1, c1, rfl, hb1, hn1, hm1, hc1, hbel, hty⟩))
      refine ⟨fun _ h => (by cases h), ?_⟩
      gi_wp2
      refine bodyPost_ret (results_none rfl _ _ _) rfl ?_
      refine ⟨⟨_, rfl⟩, .inl ⟨pre, ⟨?_, ?_⟩, abides_below hJ hJp hbel⟩⟩
      · rw [HV.out]
        exact hT.keep (KeepU.below hbel)
      · rw [HV.out]
        exact he

theorem boxes_stops (n : Nat) (hn : 1 ≤ n) (Bs n₀ k c : Nat) (A : Option Addr) (bs : List UInt8) (w : World)
    (hl : Byt w n₀ A k bs) (hn0 : n₀ ≤ w.heap.size) (hBs : Bs < w.heap.size) (hnil : A = none → c = 0) (hkc : k ≤ c) (hcm : c ≤ maxLen) (hk : k ≤ 1000000) (hs : w.cell? ⟨Bs, 0, none⟩ = some (.slice A k c)) :
    SeqT Fence.wide n Tryz.prog 122 #[.pointer (some ⟨Bs, 0, none⟩)] (fun x : Bx => #[x.1, .int .i64 (x.2 : Nat)]) (KeepB n₀ Bs) (toldB bs) (allB bs) (fun _ _ => True) w := fun l J Jx W hW hJ hJx hY h0 =>
  boxes1_in n hn l Bs n₀ k c A bs J Jx W (hl.below (hW.mono hn0)) (Nat.le_trans hn0 hW.size) (Nat.lt_of_lt_of_le hBs hW.size) hnil hkc hcm hk hJ hY ((hW.cell (p := ⟨Bs, 0, none⟩) hBs).trans hs) h0

end Go.Proofs.YthjikbhjciphiaaGreatDoor

/-
  Package box: Valid; the program's contracts together.
-/
namespace Go.Proofs.YthjikbhjciphiaaGreatDoor
open Go.RowKit Go.Shelf
set_option linter.unusedVariables false
set_option linter.unusedSimpArgs false

attribute [local go_sem] Oper.semAt_some

theorem KeepU.other {w w' : World} {row : Option Nat} (hg : w.grownBy w' row) (hr : ∀ r, row = some r → ∃ o : Obj, w.heap[r]? = some o ∧ o.isCells = false) : KeepU w w' :=
  KeepU.grown hg fun r e => by
    obtain ⟨o, ho, hc⟩ := hr r e
    exact ⟨o, ho, fun cs fr h => by subst h; cases hc⟩
theorem toldB_own (bs : List UInt8) (B : Nat) : OwnFrom B fun (s : List Bx × Bx) W => toldB bs s.1 s.2 W := fun s X Y row ⟨b, h1, h2⟩ hg hr =>
  ⟨b, h1, h2.keep (KeepU.other hg fun r e => (hr r e).2)⟩
theorem allB_own (bs : List UInt8) (B : Nat) : OwnFrom B fun (s : List Bx) W => allB bs s W := fun s X Y row h hg hr =>
  ⟨h.1.keep (KeepU.other hg fun r e => (hr r e).2), h.2⟩
theorem boxed_from {β : Type} (B k : Nat) (t : TypeId) (v : β → Value) : OwnFrom B fun (s : β) W => Boxed W k t (v s) := fun s X Y row h hg hr =>
  h.kept hg fun e => by
    obtain ⟨_, o, ho, hc⟩ := hr k e.symm
    rw [show X.heap[k]? = _ from h] at ho
    cases ho
    cases hc
theorem KeepB.put {n₀ Bs : Nat} {w : World} {l : Nat} {o : Obj} (o' : Obj) (hl : w.heap[l]? = some o) (ho : o.isCells = false) (hn : n₀ ≤ l) (hB : Bs < l) : KeepB n₀ Bs w (w.putObj l o') :=
  ⟨(Below.refl n₀ w).grown (grownBy_putObj' w l o') (by have := (Array.getElem?_eq_some_iff.1 hl).1; omega) (fun k e => by cases e; exact hn), World.putObj_heap_other (by omega), KeepU.put o' hl ho⟩

theorem own_block {w : World} {base size k r : Nat} {e : TypeId} {v : Value} {xs : List Value} (h : w.ownsRow base e size v k xs) (hr : v.ownBlock = some r) : base ≤ r ∧ ∃ cs fr, w.heap[r]? = some (.cells cs e fr) := by
  rcases h.2 with ⟨rfl, _⟩ | ⟨g, cap, cur, rfl, hb, hg, _⟩
  · simp [Value.ownBlock] at hr
  · obtain rfl : g = r := by simpa [Value.ownBlock] using hr
    exact ⟨hb, _, _, hg⟩

/-- What holds between two rounds of Valid. -/
def ValJ (W : World) (pre : List Bx) (X : World) : Prop :=
  (∃ v, Boxed X W.heap.size 63 v ∧ X.ownsRow (W.heap.size + 3) 70 1 v pre.length (pre.map Prod.fst) ∧ True) ∧ Boxed X (W.heap.size + 1) 3 (.int .i64 (endB pre : Nat)) ∧ Below W.heap.size W X ∧ W.heap.size + 3 ≤ X.heap.size
theorem valJ_own (W : World) {B : Nat} (hB : W.heap.size ≤ B) : OwnFrom B (ValJ W) :=
  OwnFrom.and (Own.from (holdsRow_own (W.heap.size + 3) W.heap.size 63 70 1 (fun pre : List Bx => pre.length) (fun pre => pre.map Prod.fst) (fun _ _ => True)) _)
    (OwnFrom.and (boxed_from B (W.heap.size + 1) 3 fun pre => .int .i64 (endB pre : Nat)) (OwnFrom.and (ownFrom_below (Nat.le_refl _) hB) fun _ _ _ _ h hg _ => Nat.le_trans h hg.size))

set_option maxRecDepth 100000 in
set_option maxHeartbeats 2000000 in
theorem valid_own (A : Option Addr) (n c : Nat) (l : List UInt8) (W : World) (hl : Byt W W.heap.size A n l) (hnil : A = none → c = 0) (hnc : n ≤ c) (hcm : c ≤ maxLen) (hn : n ≤ 1000000) :
    Calls Tryz.prog 48 #[.slice A n c] W fun e W' => ∃ v vs, e = .returned (.tuple #[v, .int .i64 ((validC l).2 : Nat)]) ∧ W'.ownsRow W.heap.size 70 1 v vs.length vs ∧ Tybs W' vs (validC l).1 ∧ Below W.heap.size W W' := by
  obtain ⟨i0, hi, hz0, hz1, hz2⟩ := info_parts Tryz.infoBs
  refine (callsIn_wide (n := 3)).1 ?_
  refine callsIn_of_wp_marks Tryz.func48 rfl trivial ?_ rfl
  simp only [Tryz.ntmps48, List.size_toArray, List.length_cons, List.length_nil, Nat.reduceAdd, Nat.reduceSub, Array.replicate_succ, Array.replicate_zero, List.push_toArray, List.append_toArray, List.nil_append, List.cons_append]
  refine wpIn_wide.2 ?_
  go_wp2_with (go_at_call 75; refine (boxes_any _ _ _ _).mono ?_; rintro e w' ⟨rfl, rfl⟩)
  have b1 := ((Boxed.new W 63 (.slice none 0 0)).alloc (.cells #[.int .i64 0] 3)).alloc (.cells #[.slice A n c] 70)
  have b2 := (Boxed.new (W.alloc (.cells #[.slice none 0 0] 63)) 3 (.int .i64 0)).alloc (.cells #[.slice A n c] 70)
  have b3 := Boxed.new ((W.alloc (.cells #[.slice none 0 0] 63)).alloc (.cells #[.int .i64 0] 3)) 70 (.slice A n c)
  have hB0 : Below W.heap.size W (((W.alloc (.cells #[.slice none 0 0] 63)).alloc (.cells #[.int .i64 0] 3)).alloc (.cells #[.slice A n c] 70)) :=
    (((Below.refl _ W).alloc (Nat.le_refl _) _).alloc (by simp) _).alloc (by simp; omega) _
  have hsz : (((W.alloc (.cells #[.slice none 0 0] 63)).alloc (.cells #[.int .i64 0] 3)).alloc (.cells #[.slice A n c] 70)).heap.size = W.heap.size + 3 := by simp
  rw [World.size_alloc] at b2
  rw [World.size_alloc, World.size_alloc] at b3
  generalize (((W.alloc (.cells #[.slice none 0 0] 63)).alloc (.cells #[.int .i64 0] 3)).alloc (.cells #[.slice A n c] 70)) = w0 at b1 b2 b3 hB0 hsz ⊢
  have hlen := (valid_end l).2
  have hl0 := hl.1
  refine (wpIn_wide (n := 3)).1 ?_
  refine range_told rfl (by omega) (gf := 122) (lb := #[.pointer (some ⟨W.heap.size + 1 + 1, 0, none⟩)]) rfl trivial (enters_of Tryz.func122 (by kernel_rfl) rfl)
    (boxes_stops (3 - 1) (by omega) (W.heap.size + 1 + 1) W.heap.size n c A l w0 (hl.below hB0) (by omega) (by omega) hnil hnc hcm hn b3.cell)
    (fun h k => h.trans k) (fun X q o o' hq ho hc _ => KeepB.put o' ho hc (by omega) (by omega))
    (toldB_own l _) (allB_own l _) (fun _ _ _ _ _ _ _ => trivial) (Below.refl _ _) (fun _ => rfl)
    (ValJ W) (fun _ _ _ => False) (valJ_own W (by omega)) (fun _ _ _ _ _ hs _ _ => hs)
    ⟨⟨_, b1, World.ownsRow_nil _ _ _ _, trivial⟩, b2, hB0, by omega⟩
    (fun x => { tmps := #[.slice A n c, undef, .slice none 0 0, .int .i64 0, .pointer (some ⟨W.heap.size, 0, none⟩), .pointer (some ⟨W.heap.size + 1, 0, none⟩), x.1, .int .i64 (x.2 : Nat), .slice A n c,
      .func (.func 122) #[] #[.pointer (some ⟨W.heap.size + 1 + 1, 0, none⟩)], x.1, .int .i64 (x.2 : Nat), undef, undef, undef, undef, undef, undef, undef], defers := [] }) ?assign ?body ?done ?stop
  case assign =>
    intro q x X K hK
    gi_wp2
    exact hK
  case body =>
    rintro lr pre ⟨x1, x2⟩ X ⟨⟨v, hv, hrow, _⟩, he, hB, hXs⟩ ⟨b, hb, hx⟩
    have hxx := hx
    obtain ⟨A1, m1, c1, rfl, _⟩ := hxx
    have hpl : pre.length < (validC l).1.length := (List.getElem?_eq_some_iff.1 hb).1
    have HW := Lib.hid (show n ≤ 1000000 from hn)
    have hc := hv.cell
    gi_wp2_with (gi_at_builtin; refine wpListIn_append_own _ rfl _ _ 63 rfl (W.heap.size + 3) 70 i0 _ 1 24 Tryz.underlying63 hi hz0 hz1 hz2 rfl (by decide) _ _ _ rfl (hrow.alloc _) ⟨X.heap.size, 0, none⟩ 1 1 [.slice A1 m1 c1] rfl rfl (cell_one_new _ _ _) (by simp [Value.oneCell']) (by unfold maxLen; omega) (by omega) (by simp; omega) ?_; intro v' w1 hown' hgrow _; obtain ⟨g', cap', rfl⟩ := ownsRow_succ hown'; obtain ⟨hv1, hv2, hr2, hk2, hb2⟩ := hv.appended (by decide) (own_mono hrow (by omega)) hB.size (Nat.le_refl _) (own_mono hown' (by omega)) hgrow; have he1 := (he.alloc (.cells #[.slice A1 m1 c1] 70)).kept hgrow (he.not_row (by decide) hrow); have he2 := he1.kept (grownBy_setCell' w1 W.heap.size (.slice (some ⟨g', 0, none⟩) (pre.length + 1) cap')) (by simp); have hc1 := hv1.cell; have hf1 := hv1.frozen; have hc2 := he2.cell; have hf2 := he2.frozen)
    have u1 : KeepU X (X.alloc (.cells #[.slice A1 m1 c1] 70)) := KeepU.grown (World.grownBy_alloc X _ none) (fun r e => by cases e)
    have hg2 : (X.alloc (.cells #[.slice A1 m1 c1] 70)).grownBy w1 v.ownBlock := hgrow
    have u2 : KeepU (X.alloc (.cells #[.slice A1 m1 c1] 70)) w1 := KeepU.grown hg2 fun r e => by
      obtain ⟨_, cs, fr, h⟩ := own_block (hrow.alloc (.cells #[.slice A1 m1 c1] 70)) e
      exact ⟨_, h, fun cs fr h => by cases h⟩
    have u3 : KeepU w1 (w1.setCell ⟨W.heap.size, 0, none⟩ (.slice (some ⟨g', 0, none⟩) (pre.length + 1) cap')) := KeepU.grown (grownBy_setCell' w1 _ _) fun r e => by cases e; exact ⟨_, hv1, fun cs fr h => by cases h⟩
    have u4 : KeepU (w1.setCell ⟨W.heap.size, 0, none⟩ (.slice (some ⟨g', 0, none⟩) (pre.length + 1) cap')) ((w1.setCell ⟨W.heap.size, 0, none⟩ (.slice (some ⟨g', 0, none⟩) (pre.length + 1) cap')).setCell ⟨W.heap.size + 1, 0, none⟩ (.int .i64 (x2 : Nat))) :=
      KeepU.grown (grownBy_setCell' _ _ _) fun r e => by cases e; exact ⟨_, he2, fun cs fr h => by cases h⟩
    have hBs : ((w1.setCell ⟨W.heap.size, 0, none⟩ (.slice (some ⟨g', 0, none⟩) (pre.length + 1) cap')).setCell ⟨W.heap.size + 1, 0, none⟩ (.int .i64 (x2 : Nat))).heap[W.heap.size + 1 + 1]? = X.heap[W.heap.size + 1 + 1]? := by
      rw [Below.heap_setCell _ _ _ _ (by simp), Below.heap_setCell _ _ _ _ (by simp; omega), hg2.block _ (by simp; omega) (fun e => by have := (own_block hrow e.symm).1; omega)]
      exact Below.heap_alloc _ _ _ (by omega)
    have hbl := hb2.setCell (p := ⟨W.heap.size + 1, 0, none⟩) (by simp) (.int .i64 (x2 : Nat))
    refine ⟨(hk2.trans (KeepsOthers.setCell _ _ _)).from _, ⟨hbl, hBs, ((u1.trans u2).trans u3).trans u4⟩, ⟨_, hv2.kept (grownBy_setCell' _ _ _) (by simp), ?_, trivial⟩, ?_, hB.trans hbl, Nat.le_trans hXs (((u1.trans u2).trans u3).trans u4).1⟩
    · have h5 := (hown'.kept (grownBy_setCell' w1 W.heap.size (.slice (some ⟨g', 0, none⟩) (pre.length + 1) cap')) (.inr (hv1.not_row (by decide) hown').symm)).kept (grownBy_setCell' _ (W.heap.size + 1) (.int .i64 (x2 : Nat))) (.inr (he1.not_row (by decide) hown').symm)
      simpa using h5
    · rw [endB_snoc]
      exact he2.set _
  case done =>
    rintro D xs X hD ⟨hT, hE⟩ ⟨⟨v, hv, hrow, _⟩, he, hB, hXs⟩ hK
    have hc := hv.cell
    have hc2 := he.cell
    rw [hE] at hc2
    go_wp2_with fail
    go_region
    go_wp2_with fail
    refine ⟨by simp, .inl ⟨_, _, rfl, run_takeDeferred (w := X.drew) hK, ?_⟩⟩
    refine ⟨_, results_tmp2 rfl _ _ _, ?_⟩
    have hKD : X.drew.heap[D]? = some (.deferred (some [])) := hK
    have hrd : X.drew.ownsRow (W.heap.size + 3) 70 1 v xs.length (xs.map Prod.fst) := hrow
    have hr2 := ownsRow_putObj hrd (.deferred none) hKD rfl
    have hTd : Tybs X.drew (xs.map Prod.fst) (validC l).1 := Tybs.keep (w' := X.drew) (show KeepU X X.drew from ⟨Nat.le_refl _, fun _ _ _ h => h⟩) hT
    have hT2 := hTd.keep (KeepU.put (.deferred none) hKD rfl)
    have hBf : Below W.heap.size W (X.drew.putObj D (.deferred none)) := (below_drew hB).trans (belowK_b (w := W) (Nat.le_refl _) X.drew D _ _ (by omega) hKD rfl rfl)
    refine ⟨_, xs.map Prod.fst, rfl, ?_, hT2, hBf⟩
    rw [List.length_map]
    exact own_mono hr2 (by omega)
  case stop =>
    rintro D c pre X _ _ h _
    exact h.elim

theorem valid_any (A : Option Addr) (n c : Nat) (l : List UInt8) (W : World) (hl : Byt W W.heap.size A n l) (hnil : A = none → c = 0) (hnc : n ≤ c) (hcm : c ≤ maxLen) (hn : n ≤ 1000000) :
    Calls Tryz.prog 48 #[.slice A n c] W (ValidQ W (validC l)) := by
  refine (valid_own A n c l W hl hnil hnc hcm hn).mono ?_
  rintro e W' ⟨v, vs, rfl, hr, hT, hB⟩
  have hlx : (bts (validC l).1).length = vs.length := by rw [bts_len]; exact hT.len.symm
  rcases hr.2 with ⟨rfl, h0⟩ | ⟨g, cap, cur, rfl, _⟩
  · refine ⟨none, 0, 0, rfl, ?_, hB⟩
    rw [h0, bts_len] at hlx
    rw [List.eq_nil_of_length_eq_zero hlx]
    exact Sls.nil
  · exact ⟨_, vs.length, cap, rfl, Sls.of_own hr hT.prts (bts_one _) hlx (fun k h => h.elim), hB⟩

theorem boxC_all : BoxC where
  put := put12_any
  size := bsize_any
  next := fun A n c l a W hl hnil hnc hcm hn => (next_any A n c l a W hl hnil hnc hcm hn).mono fun _ _ h => h.q
  valid := valid_any

end Go.Proofs.YthjikbhjciphiaaGreatDoor
