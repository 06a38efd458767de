/-
  The statements of the disk: is the program awake?
-/
import Derived.Test.YthjikbhjciphiaaGreatDoorZz26
import Derived.Test.YthjikbhjciphiaaGreatDoorZz23
import Derived.BigRegion
import Derived.Carry
import Derived.Test.YthjikbhjciphiaaGreatDoorZz15
namespace Go.Proofs.YthjikbhjciphiaaGreatDoor
open Go.RowKit
set_option linter.unusedVariables false
set_option linter.unusedSimpArgs false

theorem BytS.new {w : World} {S : Nat → Prop} {l : List UInt8} {C : Array Value} (hC : C.toList = l.map bv) (e : TypeId) (fr : Nat × Nat) (n : Nat) (hn : l.length = n) (hS : ¬ S w.heap.size) : BytS (w.alloc (.cells C e fr)) S (some ⟨w.heap.size, 0, none⟩) n l := by
  refine ⟨hn, fun _ => ⟨_, _, rfl, hS, fun j x hx => ?_⟩⟩
  rw [Nat.zero_add, World.cell?_alloc_mark, ← Array.getElem?_toList, hC, List.getElem?_map, hx]
  rfl
theorem OkD.more {k k' : Nat} {m : Dk} (h : OkD k m) (hk : k ≤ k') : OkD k' m := ⟨by have := h.len; omega, by have := h.size; omega, h.sure, by have := h.calls; omega, h.left, h.cap⟩
theorem new_ok (cap : Int) (h : cap < 9223372036854775808) : OkD 0 (newD cap) := ⟨Nat.le_refl _, Nat.le_refl _, fun f hf => (by cases hf), Nat.le_refl _, by show (0 : Nat) < _; omega, by show 0 ≤ max cap 0 ∧ max cap 0 < _; omega⟩

/-- The example's disks. -/
def aw0 : Dk := newD 9
def aw1 : Dk := (doD aw0 ⟨1, [97], [], [120, 121, 122], 0, 0⟩).2
def aw2 : Dk := (doD aw1 ⟨2, [97], [], [], 0, 0⟩).2
def aw3 : Dk := (doD aw2 ⟨1, [97], [], [117, 118], 0, 0⟩).2
def aw4 : Dk := crashD 1 aw3
theorem tar97 : targetB [97] = true := by decide +kernel
theorem aw1_eq : aw1 = ⟨[⟨[97], [120, 121, 122], 0⟩], 9, 1, false, 0, 0, false⟩ := by
  unfold aw1 aw0
  rw [do_call _ _ rfl rfl]
  unfold callD
  rw [tar97]
  rfl
theorem aw2_eq : aw2 = ⟨[⟨[97], [120, 121, 122], 3⟩], 9, 2, false, 0, 0, false⟩ := by
  unfold aw2
  rw [aw1_eq, do_call _ _ rfl rfl]
  unfold callD
  rw [tar97]
  rfl
theorem aw3_eq : aw3 = ⟨[⟨[97], [120, 121, 122, 117, 118], 3⟩], 9, 3, false, 0, 0, false⟩ := by
  unfold aw3
  rw [aw2_eq, do_call _ _ rfl rfl]
  unfold callD
  rw [tar97]
  rfl
theorem aw4_eq : aw4 = ⟨[⟨[97], [120, 121, 122, 117], 4⟩], 9, 3, false, 0, 0, true⟩ := by
  unfold aw4
  rw [aw3_eq]
  rfl

end Go.Proofs.YthjikbhjciphiaaGreatDoor

/-
  The program's disk: what asks its own block alone, and turns it.
-/
namespace Go.Proofs.YthjikbhjciphiaaGreatDoor
open Go.RowKit
set_option linter.unusedVariables false
set_option linter.unusedSimpArgs false

section
variable {w : World} {S : Nat → Prop} {q mb l : Nat} {m : Dk} {kp : Int} {L : List (List UInt8 × Value)} {G : List UInt8 → Option FM}
theorem dp_there {w : World} {q : Nat} {t : TypeId} {cs : List Value} (h : Blk w q t cs) (o n : Nat) (hn : o + n ≤ cs.length) : w.there q o n := fun j hj =>
  ⟨by rw [h.cell, List.getElem?_eq_getElem (by omega)]; rfl, h.frozen _⟩

set_option maxRecDepth 100000 in
set_option maxHeartbeats 2000000 in
theorem pdown_any (W : World) (h : PDat W S q m mb l kp L G) :
    Calls Tryz.prog 15 #[.pointer (some ⟨q, 0, none⟩)] W fun e W' => e = .returned (.bool m.down) ∧ W' = W := by
  have c6 : W.cell? ⟨q, 6, none⟩ = some (.bool m.down) := h.blk.cell 6
  obtain ⟨d, hd⟩ : ∃ d, m.down = d := ⟨_, rfl⟩
  rw [hd] at c6 ⊢
  clear h hd
  go_enter Tryz.func15, Tryz.ntmps15
  go_wp2
  go_ret
  exact ⟨rfl, rfl⟩

set_option maxRecDepth 100000 in
set_option maxHeartbeats 2000000 in
theorem pcalls_any (W : World) (h : PDat W S q m mb l kp L G) :
    Calls Tryz.prog 27 #[.pointer (some ⟨q, 0, none⟩)] W fun e W' => e = .returned (.int .u64 ((m.calls : Nat) : Int)) ∧ W' = W := by
  have c2 : W.cell? ⟨q, 2, none⟩ = some (.int .u64 ((m.calls : Nat) : Int)) := h.blk.cell 2
  obtain ⟨d, hd⟩ : ∃ d, m.calls = d := ⟨_, rfl⟩
  rw [hd] at c2 ⊢
  clear h hd
  go_enter Tryz.func27, Tryz.ntmps27
  go_wp2
  go_ret
  exact ⟨rfl, rfl⟩

set_option maxRecDepth 100000 in
set_option maxHeartbeats 2000000 in
theorem pup_any (W : World) (h : PDat W S q m mb l kp L G) :
    Calls Tryz.prog 18 #[.pointer (some ⟨q, 0, none⟩)] W fun e W' => e = .returned (.tuple #[]) ∧ PDat W' S q ⟨m.files, m.cap, m.calls, m.armed, m.left, m.keep, false⟩ mb l kp L G ∧ Turn (fun k => k = q) W W' := by
  have c6 : W.cell? ⟨q, 6, none⟩ = some (.bool m.down) := h.blk.cell 6
  have hfz := h.blk.frozen 6
  have HH := Lib.hid h
  clear h
  go_enter Tryz.func18, Tryz.ntmps18
  go_wp2
  go_end0
  have hB := HH.out.blk.set 6 (.bool false)
  have ht : Turn (fun k => k = q) W (W.setCell ⟨q, 6, none⟩ (.bool false)) := (Turn.refl (fun k => k = q) W).setCell (p := ⟨q, 6, none⟩) rfl _
  exact ⟨rfl, HH.out.cells ht hB rfl HH.out.arm HH.out.left, ht⟩

set_option maxRecDepth 100000 in
set_option maxHeartbeats 2000000 in
theorem parm_any (W : World) (n : Nat) (keep : Int) (hn : n < 18446744073709551616) (h : PDat W S q m mb l kp L G) :
    Calls Tryz.prog 16 #[.pointer (some ⟨q, 0, none⟩), .int .u64 ((n : Nat) : Int), .int .i64 keep] W fun e W' => e = .returned (.tuple #[]) ∧ PDat W' S q ⟨m.files, m.cap, m.calls, true, n, keep, m.down⟩ mb n keep L G ∧ Turn (fun k => k = q) W W' := by
  have hth : W.there q 3 3 := dp_there h.blk 3 3 (by show 6 ≤ 7; omega)
  have HH := Lib.hid h
  clear h
  go_enter Tryz.func16, Tryz.ntmps16
  go_wp2_with (refine wpList_store_list rfl 55 _ _ rfl q 3 [.bool true, .int .u64 ((n : Nat) : Int), .int .i64 keep] rfl rfl hth (by kernel_rfl) (by simp [Value.oneCell']) ?_)
  go_end0
  have hB := ((HH.out.blk.set 3 (.bool true)).set 4 (.int .u64 ((n : Nat) : Int))).set 5 (.int .i64 keep)
  have ht : Turn (fun k => k = q) W (((W.setCell ⟨q, 3, none⟩ (.bool true)).setCell ⟨q, 4, none⟩ (.int .u64 ((n : Nat) : Int))).setCell ⟨q, 5, none⟩ (.int .i64 keep)) :=
    (((Turn.refl (fun k => k = q) W).setCell (p := ⟨q, 3, none⟩) rfl _).setCell (p := ⟨q, 4, none⟩) rfl _).setCell (p := ⟨q, 5, none⟩) rfl _
  exact ⟨rfl, HH.out.cells ht hB rfl (fun _ => ⟨rfl, rfl⟩) hn, ht⟩
end

end Go.Proofs.YthjikbhjciphiaaGreatDoor

/-
  The program's disk: a file's bytes, a file cut off, a disk made.
-/
namespace Go.Proofs.YthjikbhjciphiaaGreatDoor
open Go.RowKit
set_option linter.unusedVariables false
set_option linter.unusedSimpArgs false

theorem Tryz.infoByte : (Tryz.prog.info? 5).map (fun i => (i.zero, i.size, i.bytes)) = some (some (.int .u8 0), 1, 1) := by kernel_rfl

set_option maxRecDepth 100000 in
set_option maxHeartbeats 2000000 in
theorem pbytes_any (x : FM) (W : World) (h : x.at_ W) (hl : x.f.data.length ≤ 100000) :
    Calls Tryz.prog 76 #[.pointer (some ⟨x.g, 0, none⟩)] W fun e W' => ∃ v, e = .returned v ∧ W'.ownsRow W.heap.size 5 1 v x.f.data.length (x.f.data.map bv) ∧ Below W.heap.size W W' := by
  have hB := FM.byt h
  have hF := FM.form h
  have c0 : W.cell? ⟨x.g, 0, none⟩ = some (.slice x.A x.f.data.length x.c) := h.1.cell 0
  obtain ⟨f, g, A, c⟩ := x
  dsimp only at hB hF c0 hl ⊢
  obtain ⟨l, hl2⟩ : ∃ l, f.data = l := ⟨_, rfl⟩
  rw [hl2] at hB hF c0 hl ⊢
  obtain ⟨n, hn⟩ : ∃ n, l.length = n := ⟨_, rfl⟩
  rw [hn] at hB hF c0 hl ⊢
  obtain ⟨i0, hi0, hz0, hz1, hz2⟩ := info_parts Tryz.infoByte
  clear h hl2 hn
  go_enter Tryz.func76, Tryz.ntmps76
  go_wp2_with (at_builtin; refine wpList_append_byt W rfl _ _ 70 rfl W.heap.size 5 i0 (.int .u8 0) Tryz.underlying70 hi0 hz0 hz1 hz2 rfl _ 0 [] rfl (World.ownsRow_nil _ _ _ _) W.heap.size A n c l rfl hB (fun e => (hF.1 e).2) (by omega) (Nat.le_refl _) ?_)
  intro v' w' hown hgr
  have hb : Below W.heap.size W w' := (Below.refl _ W).grown hgr (Nat.le_refl _) (fun q hq => by cases hq)
  have HO := Lib.hid hown
  clear hown hgr c0
  go_wp2
  go_ret
  exact ⟨v', rfl, by simpa using HO.out, hb⟩

/-- A file cut off. -/
def FM.cut (keep : Int) (x : FM) : FM := ⟨cutF keep x.f, x.g, x.A, x.c⟩
theorem FM.cut_blks (keep : Int) (x : FM) (k : Nat) : (x.cut keep).blks k ↔ x.blks k := Iff.rfl

theorem own_take {w : World} {base : Nat} {e : TypeId} {A : Option Addr} {n c : Nat} {xs : List Value} (h : w.ownsRow base e 1 (.slice A n c) n xs) (m : Nat) (hm : m ≤ n) : w.ownsRow base e 1 (.slice A m c) m (xs.take m) := by
  rcases h with ⟨h1, h2⟩
  refine ⟨by rw [List.length_take]; omega, ?_⟩
  rcases h2 with ⟨h2, h3⟩ | ⟨g, cap, cur, hv, hg, hh, hn, hc, hz, ht⟩
  · injection h2 with e1 e2 e3
    subst e1 e2 e3
    exact .inl ⟨by rw [show m = 0 by omega], by omega⟩
  · injection hv with e1 e2 e3
    subst e1 e3
    refine .inr ⟨g, c, cur, rfl, hg, hh, by omega, hc, hz, ?_⟩
    rw [← ht, Nat.mul_one, Nat.mul_one, List.take_take, Nat.min_eq_left hm]

set_option maxRecDepth 100000 in
set_option maxHeartbeats 2000000 in
theorem pcut_any (x : FM) (W : World) (keep : Int) (h : x.at_ W) (hl : x.f.data.length ≤ 100000) (hs : x.f.sure ≤ x.f.data.length) (hsep : ∀ a, x.A = some a → a.block ≠ x.g) :
    Calls Tryz.prog 39 #[.pointer (some ⟨x.g, 0, none⟩), .int .i64 keep] W fun e W' => e = .returned (.tuple #[]) ∧ (x.cut keep).at_ W' ∧ Turn (fun k => k = x.g) W W' := by
  have HH := Lib.hid h
  have HSep := Lib.hid hsep
  clear hsep
  have hF := FM.form h
  have c0 : W.cell? ⟨x.g, 0, none⟩ = some (.slice x.A x.f.data.length x.c) := h.1.cell 0
  have c1 : W.cell? ⟨x.g, 1, none⟩ = some (.int .i64 ((x.f.sure : Nat) : Int)) := h.1.cell 1
  have z0 := h.1.frozen 0
  have z1 := h.1.frozen 1
  obtain ⟨R, hR⟩ : ∃ R, leftF keep x.f = R := ⟨_, rfl⟩
  have HR := Lib.hid hR
  unfold leftF at hR
  obtain ⟨g, hg⟩ : ∃ g, x.g = g := ⟨_, rfl⟩
  obtain ⟨A, hA⟩ : ∃ A, x.A = A := ⟨_, rfl⟩
  obtain ⟨c, hc⟩ : ∃ c, x.c = c := ⟨_, rfl⟩
  obtain ⟨n, hn⟩ : ∃ n, x.f.data.length = n := ⟨_, rfl⟩
  obtain ⟨s, hs2⟩ : ∃ s, x.f.sure = s := ⟨_, rfl⟩
  rw [hg, hA, hc, hn] at c0
  rw [hg, hs2] at c1
  rw [hg] at z0 z1
  rw [hn, hs2] at hs hR
  rw [hA, hc, hn] at hF
  rw [hn] at hl
  rw [hg]
  have HX := Lib.hid (And.intro hg (And.intro hA (And.intro hc (And.intro hn hs2))))
  clear h hg hA hc hn hs2
  obtain ⟨K, hK⟩ : ∃ K, keep.toNat = K := ⟨_, rfl⟩
  rw [hK] at hR
  have hmx : (if keep < 0 then 0 else keep) = (K : Int) := by split <;> omega
  obtain ⟨D, hD⟩ : ∃ D, n - s = D := ⟨_, rfl⟩
  have hsub : (n : Int) - (s : Int) = (D : Int) := by omega
  obtain ⟨M, hM⟩ : ∃ M, min K D = M := ⟨_, rfl⟩
  have hmn : (if (D : Int) < (K : Int) then (D : Int) else (K : Int)) = (M : Int) := by split <;> omega
  have hmn2 : (if D < K then (D : Int) else (K : Int)) = (M : Int) := by split <;> omega
  have hadd : (s : Int) + (M : Int) = (R : Int) := by omega
  have hRn : R ≤ n := by omega
  clear hK hD hM hR
  go_enter Tryz.func39, Tryz.ntmps39
  go_wp2_with fail
  go_region
  have ht1 : Turn (fun k => k = g) W (W.setCell ⟨g, 1, none⟩ (.int .i64 (R : Int))).drew := ((Turn.refl (fun k => k = g) W).setCell (p := ⟨g, 1, none⟩) rfl _).drewN 1
  have hB1 : Blk (W.setCell ⟨g, 1, none⟩ (.int .i64 (R : Int))).drew g 78 [.slice A n c, .int .i64 (R : Int)] := by
    obtain ⟨e1, e2, e3, e4, e5⟩ := HX.out
    have := HH.out.1.set 1 (.int .i64 (R : Int))
    rw [e1, e2, e3, e4] at this
    exact this.drew
  have HT := Lib.hid ht1
  have HB1 := Lib.hid hB1
  have y0 := hB1.cell 0
  have y1 := hB1.cell 1
  have yz := hB1.frozen 0
  dsimp only [List.getElem?_cons_zero, List.getElem?_cons_succ] at y0 y1
  revert y0 y1 yz HT HB1
  generalize (W.setCell ⟨g, 1, none⟩ (.int .i64 (R : Int))).drew = w1
  intro HT HB1 y0 y1 yz
  have i0 : (0 : Int) ≤ (R : Int) := by omega
  have i1 : R ≤ c := by omega
  clear ht1 hB1 c0 c1 z0 z1 hmx hsub hmn hadd
  go_wp2_with fail
  go_region
  go_wp2_with fail
  go_end0
  obtain ⟨e1, e2, e3, e4, e5⟩ := HX.out
  have hB2 := (HB1.out.set 0 (.slice A R c)).drew
  have ht2 : Turn (fun k => k = g) w1 (w1.setCell ⟨g, 0, none⟩ (.slice A R c)).drew := ((Turn.refl (fun k => k = g) w1).setCell (p := ⟨g, 0, none⟩) rfl _).drewN 1
  have ht := HT.out.trans ht2
  have hlen : (x.cut keep).f.data.length = R := by
    show (x.f.data.take (leftF keep x.f)).length = R
    rw [List.length_take, HR.out, e4]
    omega
  refine ⟨rfl, ⟨?_, ?_⟩, ht⟩
  · show Blk _ x.g _ [.slice x.A (x.cut keep).f.data.length x.c, .int .i64 ((leftF keep x.f : Nat) : Int)]
    rw [hlen, HR.out, e1, e2, e3]
    exact hB2
  · rw [hlen]
    show World.ownsRow _ 0 _ 1 (.slice x.A R x.c) R ((x.f.data.take (leftF keep x.f)).map bv)
    rw [HR.out, List.map_take]
    exact own_take (own_turn HH.out.2 ht fun a ha => by rw [← e1]; exact HSep.out a ha) R (by rw [e4]; exact hRn)

set_option maxRecDepth 100000 in
set_option maxHeartbeats 2000000 in
theorem pnew_any (W : World) (cap : Int) (hcap : cap < 9223372036854775808) :
    Calls Tryz.prog 9 #[.int .i64 cap] W fun e W' => ∃ q S, e = .returned (.pointer (some ⟨q, 0, none⟩)) ∧ PD W' S q (newD cap) ∧ (∀ k, S k → W.heap.size ≤ k) ∧ Below W.heap.size W W' := by
  obtain ⟨M, hM⟩ : ∃ M : Int, max cap 0 = M := ⟨_, rfl⟩
  have hmx : (if cap < 0 then 0 else cap) = M := by rw [← hM]; split <;> omega
  have HM := Lib.hid hM
  have hmk := run_makeMap (P := Tryz.prog) 53 W
  clear hM
  go_enter Tryz.func9, Tryz.ntmps9
  go_wp2_with fail
  go_ret
  refine ⟨_, fun k => k = W.heap.size ∨ k = W.heap.size + 1, rfl, ⟨W.heap.size, 0, 0, [], fun _ => none, ?_⟩, fun k hk => by omega, ((Below.refl _ W).alloc (Nat.le_refl _) _).alloc (by simp) _⟩
  have hB : Blk ((W.alloc (.map #[] 0)).alloc (.cells #[.int .i64 M, .map (some W.heap.size), .int .u64 0, .bool false, .int .u64 0, .int .i64 0, .bool false] 57)) (W.alloc (.map #[] 0)).heap.size 57 (dpL (newD cap) W.heap.size 0 0) := by
    refine Blk.new _ _ _ ?_
    unfold dpL newD
    rw [HM.out]
    rfl
  have hs : (W.alloc (.map #[] 0)).heap.size = W.heap.size + 1 := by simp
  rw [hs] at hB
  refine ⟨hB, fun h => (by cases h), by omega, (MapS.made W Tryz.prog 9).alloc _, ⟨fun s => rfl, fun s => rfl⟩, fun s x h => (by cases h), ⟨fun s x k h => (by cases h), fun s t x y k _ h => (by cases h), fun s x a h => (by cases h)⟩, List.Pairwise.nil, by omega, .inr rfl, .inl rfl, fun k hk => ?_⟩
  simp
  omega

end Go.Proofs.YthjikbhjciphiaaGreatDoor

/-
  The program's disk: how many bytes all files have.
-/
namespace Go.Proofs.YthjikbhjciphiaaGreatDoor
open Go.RowKit
set_option linter.unusedVariables false
set_option linter.unusedSimpArgs false

/-- Bytes of the files that are done. -/
def doneF (left : Lit → Bool) (fs : List Fl) : Nat := sizeF (fs.filter fun f => !left (.string f.name))
theorem done_start (left : Lit → Bool) (fs : List Fl) (h : ∀ f ∈ fs, left (.string f.name) = true) : doneF left fs = 0 := by
  unfold doneF
  rw [List.filter_eq_nil_iff.2 (fun f hf => by rw [h f hf]; simp)]
  rfl
theorem done_end (left : Lit → Bool) (fs : List Fl) (h : ∀ kl, left kl = false) : doneF left fs = sizeF fs := by
  unfold doneF
  rw [List.filter_eq_self.2 (fun f hf => by rw [h]; rfl)]
theorem done_cons (left : Lit → Bool) (g : Fl) (r : List Fl) : doneF left (g :: r) = (if left (.string g.name) then 0 else g.data.length) + doneF left r := by
  unfold doneF
  rw [List.filter_cons]
  cases left (.string g.name)
  · simp [sizeF]
  · simp [sizeF]
theorem done_same (left : Lit → Bool) (s : List UInt8) (fs : List Fl) (h : lookF s fs = none) : doneF (fun z => left z && !z.sameKey (.string s)) fs = doneF left fs := by
  induction fs with
  | nil => rfl
  | cons g r ih =>
    rw [look_cons] at h
    have hg : ¬ g.name = s := fun e => by rw [if_pos e] at h; cases h
    rw [if_neg hg] at h
    have e : (Lit.string g.name).sameKey (.string s) = false := by simpa [Lit.sameKey] using hg
    rw [done_cons, done_cons, ih h, e]
    simp
theorem done_step (left : Lit → Bool) (s : List UInt8) (fs : List Fl) (f : Fl) (hs : SrtF fs) (hf : lookF s fs = some f) (hl : left (.string s) = true) : doneF (fun z => left z && !z.sameKey (.string s)) fs = doneF left fs + f.data.length := by
  induction fs with
  | nil => cases hf
  | cons g r ih =>
    have hs1 := List.pairwise_cons.1 hs
    rw [look_cons] at hf
    rw [done_cons, done_cons]
    by_cases hg : g.name = s
    · rw [if_pos hg] at hf
      obtain rfl := Option.some.inj hf
      have hn : lookF s r = none := by
        cases hx : lookF s r with
        | none => rfl
        | some y =>
          have h1 := hs1.1 y (List.mem_of_find?_eq_some hx)
          rw [look_name s r y hx, hg, bl_irrefl] at h1
          cases h1
      have e : (Lit.string s).sameKey (.string s) = true := by simp [Lit.sameKey]
      rw [done_same left s r hn, hg, hl, e]
      simp
      omega
    · rw [if_neg hg] at hf
      have e : (Lit.string g.name).sameKey (.string s) = false := by simpa [Lit.sameKey] using hg
      rw [ih hs1.2 hf, e]
      simp
      omega
theorem done_le (left : Lit → Bool) (fs : List Fl) : doneF left fs ≤ sizeF fs := by
  induction fs with
  | nil => exact Nat.le_refl _
  | cons g r ih =>
    rw [done_cons]
    have e : sizeF (g :: r) = g.data.length + sizeF r := by simp [sizeF]
    split <;> omega

section
variable {S : Nat → Prop} {q mb l : Nat} {m : Dk} {kp : Int} {L : List (List UInt8 × Value)} {G : List UInt8 → Option FM}
theorem PDat.has {w : World} (h : PDat w S q m mb l kp L G) (f : Fl) (hf : f ∈ m.files) : Maps.has (mapD L) (.string f.name) = true := by
  obtain ⟨g, hg⟩ := look_mem_some m.files f hf
  obtain ⟨x, _, _, hx⟩ := h.tied.yes hg
  rw [mapD_has, hx]
  rfl

set_option maxRecDepth 100000 in
set_option maxHeartbeats 2000000 in
theorem psize_any (W : World) (h : PDat W S q m mb l kp L G) (hO : sizeF m.files ≤ 1000000) :
    Calls Tryz.prog 24 #[.pointer (some ⟨q, 0, none⟩)] W fun e W' => e = .returned (.int .i64 ((sizeF m.files : Nat) : Int)) ∧ Below W.heap.size W W' := by
  have c1 : W.cell? ⟨q, 1, none⟩ = some (.map (some mb)) := h.blk.cell 1
  have hmap := h.map
  have HH := Lib.hid h
  have HO := Lib.hid hO
  clear h hO
  go_enter Tryz.func24, Tryz.ntmps24
  go_wp2_with (first | (at_range; refine wpList_range_own _ rfl _ 53 rfl 9 76 (Maps.string_keyed Tryz.underlying9) Tryz.underlying53 rawR mb L.length (mapD L) rfl hmap ?_; intro w0 hrg0 hg0 hs0) | go_in)
  go_frame
  have hb0 : Below W.heap.size W w0 := (Below.refl _ W).grown hg0 (Nat.le_refl _) (fun q hq => by cases hq)
  have HR0 := Lib.hid (And.intro hrg0 hb0)
  clear hrg0 hg0 hs0 hb0 c1
  go_loopw [3] (fun v wr => ∃ left cnt, ∃ u : Nat, v = .int .i64 (u : Int) ∧ wr.ranges Tryz.prog 9 rawR mb W.heap.size L.length (mapD L) left cnt ∧ Below W.heap.size W wr ∧ Hid (u = doneF left m.files)) (fun _ wr => wr.rangeLeft mb W.heap.size)
  case atStart => exact ⟨_, _, 0, rfl, HR0.out.1, HR0.out.2, Lib.hid (done_start _ _ fun f hf => HH.out.has f hf).symm⟩
  case round =>
    obtain ⟨left, cnt, u, rfl, hrg, hb, HU⟩ := hrel
    have hu : u ≤ 1000000 := by have h1 := HU.out; have h2 := done_le left m.files; have h3 := HO.out; omega
    go_wp2_with (first | (at_next; refine wpList_next_mapS _ rfl _ rfl 9 Tryz.underlying9 mb W.heap.size L.length L left cnt rfl hrg ?_ ?_) | go_in)
    · intro hc0 hl0
      have HE : Hid (u = sizeF m.files) := Lib.hid (by rw [HU.out, done_end left m.files hl0])
      clear hrg hl0
      go_wp2_with fail
      go_ret
      exact ⟨by rw [HE.out]; rfl, hb⟩
    · intro s v w1 cnt1 hls hlk hrg1 hlt hg1 hs1 hen
      have hb1 : Below W.heap.size W w1 := hb.grown hg1 hb.size (fun q hq => by cases hq; exact Nat.le_refl _)
      obtain ⟨x, hx, rfl, hxf⟩ := HH.out.tied.looked hlk
      have hat := FM.turn (HH.out.at_ s x hx) (Turn.of_below hb1 : Turn (fun _ => False) W w1) (fun k hk e => e.elim)
      have c0 : w1.cell? ⟨x.g, 0, none⟩ = some (.slice x.A x.f.data.length x.c) := hat.1.cell 0
      have HST := Lib.hid (done_step left s m.files x.f HH.out.srt hxf hls)
      have HB := Lib.hid hb1
      have HRG := Lib.hid (And.intro hrg hrg1)
      obtain ⟨g, hgx⟩ : ∃ g, x.g = g := ⟨_, rfl⟩
      obtain ⟨A, hA⟩ : ∃ A, x.A = A := ⟨_, rfl⟩
      obtain ⟨c, hc⟩ : ∃ c, x.c = c := ⟨_, rfl⟩
      obtain ⟨n, hn⟩ : ∃ n, x.f.data.length = n := ⟨_, rfl⟩
      rw [hgx, hA, hc, hn] at c0
      rw [hgx] at hen ⊢
      rw [hn] at HST
      have HU2 : Hid (u + n = doneF (fun z => left z && !z.sameKey (.string s)) m.files) := Lib.hid (by rw [HST.out, ← HU.out])
      have hn2 : n ≤ 1000000 := by have h1 := HU2.out; have h2 := done_le (fun z => left z && !z.sameKey (.string s)) m.files; have h3 := HO.out; omega
      clear hrg hrg1 hg1 hs1 hb1 hat hgx hA hc hn hx hxf hlk hls hb hmap
      go_wp2_with fail
      go_roundw
      case rel => exact ⟨_, cnt1, u + n, by go_num, HRG.out.2, HB.out, HU2⟩
      case measure => rw [HRG.out.2.left_eq, HRG.out.1.left_eq]; omega
end

end Go.Proofs.YthjikbhjciphiaaGreatDoor

/-
  The program's disk: a crash.
-/
namespace Go.Proofs.YthjikbhjciphiaaGreatDoor
open Go.RowKit
set_option linter.unusedVariables false
set_option linter.unusedSimpArgs false

theorem Turn.grown {w w' : World} {g : Nat} (h : Turn (fun k => k = g) w w') : w.grownBy w' (some g) := ⟨h.os, h.tape, h.output, h.size, fun k hk hne => h.block k hk fun e => hne (by rw [e])⟩
theorem turn_of_grown {w w' : World} {g : Nat} (h : w.grownBy w' (some g)) : Turn (fun k => k = g) w w' := ⟨h.os, h.tape, h.output, h.size, fun k hk hne => h.block k hk fun e => hne (by cases e; rfl)⟩

theorem turn_new {S : Nat → Prop} {W w w' : World} {r : Nat} (h : Turn S W w) (k : Turn (fun j => j = r) w w') (hr : W.heap.size ≤ r) : Turn S W w' :=
  ⟨k.os.trans h.os, k.tape.trans h.tape, k.output.trans h.output, Nat.le_trans h.size k.size, fun j hj hs => (k.block j (Nat.lt_of_lt_of_le hj h.size) (fun e => by omega)).trans (h.block j hj hs)⟩

/-- The files in memory while some are still to be cut. -/
def cutG (keep : Int) (left : Lit → Bool) (G : List UInt8 → Option FM) : List UInt8 → Option FM := fun s => (G s).map fun x => if left (.string s) then x else x.cut keep
theorem cutG_is {keep : Int} {left : Lit → Bool} {G : List UInt8 → Option FM} {s : List UInt8} {x : FM} (h : cutG keep left G s = some x) : ∃ y, G s = some y ∧ (x = y ∨ x = y.cut keep) := by
  unfold cutG at h
  cases hg : G s with
  | none => rw [hg] at h; cases h
  | some y =>
    rw [hg] at h
    refine ⟨y, rfl, ?_⟩
    have e := Option.some.inj h
    cases hl : left (.string s)
    · rw [hl] at e; exact .inr e.symm
    · rw [hl] at e; exact .inl e.symm
theorem cutG_blks {keep : Int} {left : Lit → Bool} {G : List UInt8 → Option FM} {s : List UInt8} {x : FM} (h : cutG keep left G s = some x) : ∃ y, G s = some y ∧ (∀ k, x.blks k ↔ y.blks k) ∧ x.A = y.A ∧ x.g = y.g := by
  obtain ⟨y, hy, rfl | rfl⟩ := cutG_is h
  · exact ⟨_, hy, fun k => Iff.rfl, rfl, rfl⟩
  · exact ⟨_, hy, fun k => Iff.rfl, rfl, rfl⟩
theorem SepG.cut {S : Nat → Prop} {q mb : Nat} {G : List UInt8 → Option FM} (h : SepG S q mb G) (keep : Int) (left : Lit → Bool) : SepG S q mb (cutG keep left G) := by
  refine ⟨fun s x k hx hk => ?_, fun s t x y k hst hx hy hk hk2 => ?_, fun s x a hx ha => ?_⟩
  · obtain ⟨x', h1, h2, _⟩ := cutG_blks hx
    exact h.inS s x' k h1 ((h2 k).1 hk)
  · obtain ⟨x', h1, h2, _⟩ := cutG_blks hx
    obtain ⟨y', h3, h4, _⟩ := cutG_blks hy
    exact h.apart s t x' y' k hst h1 h3 ((h2 k).1 hk) ((h4 k).1 hk2)
  · obtain ⟨x', h1, h2, h3, h4⟩ := cutG_blks hx
    rw [h4]
    exact h.two s x' a h1 (by rw [← h3]; exact ha)
theorem cutG_here {keep : Int} {left : Lit → Bool} {G : List UInt8 → Option FM} {s : List UInt8} {x : FM} (hx : G s = some x) (hl : left (.string s) = true) : cutG keep left G s = some x := by
  unfold cutG
  rw [hx, hl]
  rfl
theorem cut_start {w : World} {keep : Int} {left : Lit → Bool} {G : List UInt8 → Option FM} (h : AtG w G) (hl : ∀ s x, G s = some x → left (.string s) = true) : AtG w (cutG keep left G) := by
  intro s x hx
  obtain ⟨y, hy, _⟩ := cutG_is hx
  rw [cutG_here hy (hl s y hy)] at hx
  cases hx
  exact h s _ hy
theorem cut_step {w1 w2 : World} {S : Nat → Prop} {q mb : Nat} {keep : Int} {left : Lit → Bool} {G : List UInt8 → Option FM} {s : List UInt8} {x : FM} (h : AtG w1 (cutG keep left G)) (hsep : SepG S q mb G) (hx : G s = some x) (hc : (x.cut keep).at_ w2) (ht : Turn (fun k => k = x.g) w1 w2) :
    AtG w2 (cutG keep (fun z => left z && !z.sameKey (.string s)) G) := by
  intro t y hy
  by_cases hts : t = s
  · subst hts
    unfold cutG at hy
    have e : (Lit.string t).sameKey (.string t) = true := by simp [Lit.sameKey]
    rw [hx] at hy
    simp only [e, Option.map_some, Bool.not_true, Bool.and_false, Bool.false_eq_true, if_false] at hy
    rw [← Option.some.inj hy]
    exact hc
  · have e : (Lit.string t).sameKey (.string s) = false := by simpa [Lit.sameKey] using hts
    have hy2 : cutG keep left G t = some y := by
      unfold cutG at hy ⊢
      simpa [e] using hy
    obtain ⟨y', h1, h2, _⟩ := cutG_blks hy2
    refine FM.turn (h t y hy2) ht fun k hk hkx => ?_
    exact hsep.apart t s y' x k hts h1 hx ((h2 k).1 hk) (by rw [hkx]; exact .inl rfl)
theorem Tied.cut {L : List (List UInt8 × Value)} {G : List UInt8 → Option FM} {fs : List Fl} (h : Tied L G fs) (keep : Int) (left : Lit → Bool) (hl : ∀ kl, left kl = false) : Tied L (cutG keep left G) (fs.map (cutF keep)) := by
  have e : ∀ s, cutG keep left G s = (G s).map (FM.cut keep) := fun s => by
    unfold cutG
    simp only [hl, Bool.false_eq_true, if_false]
  refine ⟨fun s => ?_, fun s => ?_⟩
  · rw [h.look, e, Option.map_map]
    cases G s <;> rfl
  · rw [look_map (cutF keep) fs (fun f => rfl), h.file, e, Option.map_map, Option.map_map]
    rfl

section
variable {S : Nat → Prop} {q mb l : Nat} {m : Dk} {kp : Int} {L : List (List UInt8 × Value)} {G : List UInt8 → Option FM}
theorem PDat.small {w : World} (h : PDat w S q m mb l kp L G) {k : Nat} (hO : GoodD m) {s : List UInt8} {x : FM} (hx : G s = some x) : x.f.data.length ≤ 100000 ∧ x.f.sure ≤ x.f.data.length := by
  have h1 := h.tied.file s
  rw [hx] at h1
  have h2 := look_mem s m.files x.f h1
  exact ⟨Nat.le_trans (mem_size m.files x.f h2) hO.2.1, hO.2.2 x.f h2⟩

set_option maxRecDepth 100000 in
set_option maxHeartbeats 2000000 in
theorem pcrash_any (W : World) (keep : Int) (h : PDat W S q m mb l kp L G) (hO : GoodD m) :
    Calls Tryz.prog 17 #[.pointer (some ⟨q, 0, none⟩), .int .i64 keep] W fun e W' => e = .returned (.tuple #[]) ∧ (∃ G', PDat W' S q (crashD keep m) mb 0 0 L G') ∧ Turn S W W' := by
  have c1 : W.cell? ⟨q, 1, none⟩ = some (.map (some mb)) := h.blk.cell 1
  have hmap := h.map
  have HH := Lib.hid h
  have HO := Lib.hid hO
  clear h hO
  go_enter Tryz.func17, Tryz.ntmps17
  go_wp2_with (first | (at_range; refine wpList_range_own _ rfl _ 53 rfl 9 76 (Maps.string_keyed Tryz.underlying9) Tryz.underlying53 rawR mb L.length (mapD L) rfl hmap ?_; intro w0 hrg0 hg0 hs0) | go_in)
  go_frame
  have ht0 : Below W.heap.size W w0 := (Below.refl _ W).grown hg0 (Nat.le_refl _) (fun q hq => by cases hq)
  have HR0 := Lib.hid (And.intro hrg0 (And.intro ht0 hs0))
  clear hrg0 hg0 hs0 ht0 c1
  go_loopw [] (fun wr => ∃ left cnt, wr.ranges Tryz.prog 9 rawR mb W.heap.size L.length (mapD L) left cnt ∧ AtG wr (cutG keep left G) ∧ Blk wr q 57 (dpL m mb l kp) ∧ Turn S W wr) (fun wr => wr.rangeLeft mb W.heap.size)
  case atStart =>
    obtain ⟨h1, h2, h3⟩ := HR0.out
    have ht : Turn (fun _ => False) W w0 := Turn.of_below h2
    refine ⟨_, _, h1, cut_start (HH.out.at_.turn ht (fun s x k _ _ e => e.elim)) (fun s x hx => ?_), ht.blk HH.out.blk (fun e => e.elim), Turn.of_below h2⟩
    rw [mapD_has, HH.out.tied.look, hx]
    rfl
  case round =>
    obtain ⟨left, cnt, hrg, hat, hbk, htu⟩ := hrel
    go_wp2_with (first | (at_next; refine wpList_next_mapS _ rfl _ rfl 9 Tryz.underlying9 mb W.heap.size L.length L left cnt rfl hrg ?_ ?_) | go_in)
    · intro hc0 hl0
      have hth : wr.there q 3 3 := dp_there hbk 3 3 (by show 6 ≤ 7; omega)
      have HE := Lib.hid (And.intro (World.ranges.owns hrg) (And.intro hat (And.intro hbk (And.intro htu hl0))))
      have hB3 := ((hbk.set 3 (.bool false)).set 4 (.int .u64 0)).set 5 (.int .i64 0)
      have c6 : (wr.setCells q 3 [.bool false, .int .u64 0, .int .i64 0]).cell? ⟨q, 6, none⟩ = some (.bool m.down) := hB3.cell 6
      have z6 : (wr.setCells q 3 [.bool false, .int .u64 0, .int .i64 0]).frozen? ⟨q, 6, none⟩ = false := hB3.frozen 6
      clear hrg hat htu hl0 hbk hB3
      go_wp2_with (refine wpList_store_list rfl 55 _ _ rfl q 3 [.bool false, .int .u64 0, .int .i64 0] rfl rfl hth (by kernel_rfl) (by simp [Value.oneCell']) ?_)
      go_end0
      obtain ⟨hmp, hat, hbk, htu, hl0⟩ := HE.out
      have ht2 : Turn (fun k => k = q) wr ((wr.setCells q 3 [.bool false, .int .u64 0, .int .i64 0]).setCell ⟨q, 6, none⟩ (.bool true)) :=
        ((((Turn.refl (fun k => k = q) wr).setCell (p := ⟨q, 3, none⟩) rfl _).setCell (p := ⟨q, 4, none⟩) rfl _).setCell (p := ⟨q, 5, none⟩) rfl _).setCell (p := ⟨q, 6, none⟩) rfl _
      have hB4 := (((hbk.set 3 (.bool false)).set 4 (.int .u64 0)).set 5 (.int .i64 0)).set 6 (.bool true)
      have h := HH.out
      refine ⟨rfl, ⟨cutG keep left G, hB4, fun e => (by cases e), by omega, (MapS.tight hmp).turn ht2 (fun e => h.ne e.symm), h.tied.cut keep left hl0, hat.turn ht2 (fun s x k hx hk e => ?_), h.sep.cut keep left, srt_map (cutF keep) m.files (fun f => rfl) h.srt, h.ne, h.sq, h.sm, fun k hk => Nat.lt_of_lt_of_le (h.lt k hk) (htu.trans (ht2.mono fun k e => by rw [e]; exact h.sq)).size⟩, htu.trans (ht2.mono fun k e => by rw [e]; exact h.sq)⟩
      obtain ⟨y, h1, h2, _⟩ := cutG_blks hx
      exact (h.sep.inS s y k h1 ((h2 k).1 hk)).2.1 e
    · intro s v w1 cnt1 hls hlk hrg1 hlt hg1 hs1 hen
      obtain ⟨x, hx, rfl, hxf⟩ := HH.out.tied.looked hlk
      have htr := turn_of_grown hg1
      have hsep := HH.out.sep
      have hlt2 := HH.out.lt
      have hr : ∀ s x k, G s = some x → x.blks k → k ≠ W.heap.size := fun s x k hx hk e => by have := hlt2 k (hsep.inS s x k hx hk).1; omega
      have hat1 : AtG w1 (cutG keep left G) := hat.turn htr fun s y k hy hk e => by
        obtain ⟨y', h1, h2, _⟩ := cutG_blks hy
        exact hr s y' k h1 ((h2 k).1 hk) e
      have hx1 := hat1 s x (cutG_here hx hls)
      have hsm := HH.out.small (k := 0) HO.out hx
      have hcut := pcut_any x w1 keep hx1 hsm.1 hsm.2 (hsep.two s x · hx)
      have HRG := Lib.hid (And.intro hrg (And.intro hrg1 (And.intro hat1 (And.intro hlt (And.intro hx hls)))))
      have hq1 : q ≠ W.heap.size := fun e => by have := hlt2 q HH.out.sq; omega
      have HB1 : Hid (Blk w1 q 57 (dpL m mb l kp) ∧ Turn S W w1) := Lib.hid ⟨htr.blk hbk hq1, turn_new htu htr (Nat.le_refl _)⟩
      clear hrg hrg1 hat hat1 hg1 hs1 htr hlk hxf hx1 hsm hr hlt2 hbk htu hls
      go_wp2_with fail
      refine hcut.mono ?_
      rintro e w2 ⟨rfl, hc2, ht2⟩
      have HC := Lib.hid (And.intro hc2 ht2)
      clear hcut hc2 ht2
      go_wp2_with fail
      obtain ⟨hrg, hrg1, hat1, hlt, hx, hls⟩ := HRG.out
      obtain ⟨hbk1, htu1⟩ := HB1.out
      obtain ⟨hc2, ht2⟩ := HC.out
      have hxS := HH.out.sep.inS s x x.g hx (.inl rfl)
      have hxl := HH.out.lt x.g hxS.1
      have hrg2 := hrg1.kept ht2.grown (fun e => hxS.2.2 (by cases e; rfl)) (fun e => by have := Option.some.inj e; omega)
      go_roundw
      case rel => exact ⟨_, cnt1, hrg2, cut_step hat1 HH.out.sep hx hc2 ht2, ht2.blk hbk1 (fun e => hxS.2.1 e.symm), htu1.trans (ht2.mono fun k e => by rw [e]; exact hxS.1)⟩
      case measure => rw [hrg2.left_eq, hrg.left_eq]; omega
end

end Go.Proofs.YthjikbhjciphiaaGreatDoor
