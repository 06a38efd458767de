/-
  Package rec: what bytes are decoded as.
-/
import Derived.Test.YthjikbhjciphiaaGreatDoorZz22
import Derived.Test.YthjikbhjciphiaaGreatDoorZz3
import Derived.Test.YthjikbhjciphiaaGreatDoorZz18
import Derived.Test.YthjikbhjciphiaaGreatDoorZz20
import Derived.Test.YthjikbhjciphiaaGreatDoorZz7
import Derived.Test.YthjikbhjciphiaaGreatDoorZz14
import Derived.BigRegion
import Derived.Deep.RegionWith
import Derived.Deep.RegionHeld3
import Derived.Deep.CutRange
import Derived.Deep.Cut
import Derived.BigQuiet
namespace Go.Proofs.YthjikbhjciphiaaGreatDoor
open Go.RowKit
set_option linter.unusedVariables false
set_option linter.unusedSimpArgs false

theorem turn_only {g : Nat} {w w' : World} (h : Only g w w') : Turn (fun k => k = g) w w' := ⟨h.os, h.tape, h.output, h.size, fun k hk hn => h.block k hk (by intro e; cases e; exact hn rfl)⟩

theorem enters_dec : ∀ args w, (callFunc 119 args).run Tryz.prog w = .ok (.enter 119 args) w := enters_of Tryz.func119 (by kernel_rfl) rfl

set_option maxRecDepth 100000 in
set_option maxHeartbeats 1000000 in
theorem decF_any (h : Bool) (p g q i : Nat) (cs : List Value) (l : List UInt8) (e : Int) (W : World) (hp : Blk W p 161 [.pointer (some ⟨g, 0, none⟩)]) (hC : Cur W g l e) (hq : Blk W q 35 cs) (hgp : g < p) (hpq : p < q) (hi : i < cs.length) (hz : cs.set i (.int .u64 0) = cs) :
    Calls Tryz.prog 119 (#[.bool h, .pointer (some ⟨q, i, none⟩)] ++ #[.pointer (some ⟨p, 0, none⟩)]) W fun r W' => r = .returned (.tuple #[]) ∧
      Blk W' p 161 [.pointer (some ⟨g, 0, none⟩)] ∧ Cur W' g (fldS h (l, e)).1 (fldS h (l, e)).2 ∧ Blk W' q 35 (cs.set i (.int .u64 ((fldN h (l, e) : Nat) : Int))) ∧ Turn (fun k => k = g ∨ k = q) W W' := by
  show Calls Tryz.prog 119 #[.bool h, .pointer (some ⟨q, i, none⟩), .pointer (some ⟨p, 0, none⟩)] W _
  have y0 := hp.cell 0
  simp only [List.getElem?_cons_zero] at y0
  cases h
  · go_enter Tryz.func119, Tryz.ntmps119
    go_wp2
    go_end0
    refine ⟨rfl, hp, hC, ?_, Turn.refl _ _⟩
    show Blk W q _ (cs.set i (.int .u64 ((0 : Nat) : Int)))
    rw [show ((0 : Nat) : Int) = 0 from rfl, hz]
    exact hq
  · have hN := number_q g l e 8 8 (by decide) (Lib.hid rfl) W hC
    obtain ⟨x, hx⟩ : ∃ x, fldN true (l, e) = x := ⟨_, rfl⟩
    obtain ⟨s, hs⟩ : ∃ s, fldS true (l, e) = s := ⟨_, rfl⟩
    have hx' : num (tk l e ((8 : Nat) : Int)).1 = x := hx
    have hs1 : (tk l e ((8 : Nat) : Int)).2 = s := hs
    rw [hx', hs1] at hN
    rw [hx, hs]
    have HX := Lib.hid (And.intro hx hs)
    clear hx hs hx' hs1 hz
    obtain ⟨u, hu⟩ : ∃ u, cs[i]? = some u := ⟨_, List.getElem?_eq_getElem hi⟩
    have hfq := fun w (hw : Blk w q 35 cs) => hw.frozen i
    have hcq := fun w (hw : Blk w q 35 cs) => (hw.cell i).trans hu
    go_enter Tryz.func119, Tryz.ntmps119
    go_wp2_with (go_at_call 116; refine hN.mono ?_; rintro r w2 ⟨rfl, hC2, ho2, hz2⟩; have ht2 := turn_only ho2; have hp2 := ht2.blk hp (by omega); have hq2 := ht2.blk hq (by omega); have x0 := hcq _ hq2; have x1 := hfq _ hq2)
    go_end0
    have hr : w2.setCell ⟨q, i, none⟩ (.int .u64 ((x : Nat) : Int)) = w2.setRow q (cs.set i (.int .u64 ((x : Nat) : Int))).toArray := setCell_row hq2 _ _
    refine ⟨rfl, hp2.other _ _ (by simp; omega), hC2.keep fun k hk => heap_setCell_other w2 _ k _ (by simp; omega), hq2.set _ _, (ht2.mono fun k hk => .inl hk).setCell (.inr rfl) _⟩

/-- What is kept while bytes are decoded. -/
def DecI (W : World) (g p q : Nat) (cs : List Value) (s : List UInt8 × Int) (w : World) : Prop :=
  Blk w p 161 [.pointer (some ⟨g, 0, none⟩)] ∧ Cur w g s.1 s.2 ∧ Blk w q 35 cs ∧ Blk w W.heap.size 35 (rcCs 0 0 ⟨#[]⟩ 0 0 0) ∧ Below W.heap.size W w
theorem DecI.step {W w w' : World} {g p q : Nat} {cs cs' : List Value} {s s' : List UInt8 × Int} (h : DecI W g p q cs s w) (hg : W.heap.size < g) (hgp : g < p) (hpq : p < q) (hp : Blk w' p 161 [.pointer (some ⟨g, 0, none⟩)]) (hC : Cur w' g s'.1 s'.2) (hq : Blk w' q 35 cs') (ht : Turn (fun k => k = g ∨ k = q) w w') : DecI W g p q cs' s' w' :=
  ⟨hp, hC, hq, ht.blk h.2.2.2.1 (by omega), h.2.2.2.2.trans (ht.below h.2.2.2.2.size fun k hk => by omega)⟩

set_option maxRecDepth 100000 in
set_option maxHeartbeats 1000000 in
theorem decFields_any (W : World) (g p q : Nat) (n : Nat) (k : Int) (T : ByteArray) (s : List UInt8 × Int) (hg : W.heap.size < g) (hgp : g < p) (hpq : p < q) (w : World) (hI : DecI W g p q (rcCs n k T 0 0 0) s w) :
    Calls Tryz.prog 83 #[.pointer (some ⟨q, 0, none⟩), .func (.func 119) #[] #[.pointer (some ⟨p, 0, none⟩)]] w fun e w' => e = .returned (.tuple #[]) ∧
      DecI W g p q (rcCs n k T (fldN (kL k) s) (fldN (kN k) (fldS (kL k) s)) (fldN (kB k) (fldS (kN k) (fldS (kL k) s)))) (fldS (kB k) (fldS (kN k) (fldS (kL k) s))) w' := by
  refine rfields_any _ _ k q _ (DecI W g p q (rcCs n k T (fldN (kL k) s) 0 0) (fldS (kL k) s)) (DecI W g p q (rcCs n k T (fldN (kL k) s) (fldN (kN k) (fldS (kL k) s)) 0) (fldS (kN k) (fldS (kL k) s))) _ w enters_dec (by rw [hI.2.2.1.cell]; rfl) hI ?_ ?_ ?_
  · intro w hI
    refine (decF_any _ p g q 3 _ s.1 s.2 w hI.1 hI.2.1 hI.2.2.1 hgp hpq (by show 3 < 6; decide) rfl).mono ?_
    rintro e w' ⟨rfl, h1, h2, h3, h4⟩
    exact ⟨rfl, hI.step hg hgp hpq h1 h2 h3 h4⟩
  · intro w hI
    refine (decF_any _ p g q 4 _ _ _ w hI.1 hI.2.1 hI.2.2.1 hgp hpq (by show 4 < 6; decide) rfl).mono ?_
    rintro e w' ⟨rfl, h1, h2, h3, h4⟩
    exact ⟨rfl, hI.step hg hgp hpq h1 h2 h3 h4⟩
  · intro w hI
    refine (decF_any _ p g q 5 _ _ _ w hI.1 hI.2.1 hI.2.2.1 hgp hpq (by show 5 < 6; decide) rfl).mono ?_
    rintro e w' ⟨rfl, h1, h2, h3, h4⟩
    exact ⟨rfl, hI.step hg hgp hpq h1 h2 h3 h4⟩

/-- A record as the value of a result. -/
def rcVr (r : Rc) : Value := .agg r.cells.toArray
/-- The ways out of it. -/
theorem decC_kind (l : List UInt8) (h : (decS0 l).2 = 0) (hk : isK (decK l) = false) : decC l = (zeroR, 5) := by unfold decC; rw [if_pos ⟨h, hk⟩]
theorem decC_rest (l : List UInt8) (h : ¬ ((decS0 l).2 = 0 ∧ isK (decK l) = false)) : decC l = if orE (decE l) (checkC (decR l)) ≠ 0 then (zeroR, orE (decE l) (checkC (decR l))) else (decR l, 0) := by
  unfold decC orE
  rw [if_neg h]
  by_cases h1 : decE l ≠ 0
  · rw [if_pos h1, if_pos h1, if_pos h1]
  · rw [if_neg h1, if_neg h1]

theorem number8 (g : Nat) (s : List UInt8 × Int) (W : World) (hC : Cur W g s.1 s.2) :
    Calls Tryz.prog 116 #[.pointer (some ⟨g, 0, none⟩), .int .i64 8] W fun r W' => r = .returned (.int .u64 ((rdN s 8 : Nat) : Int)) ∧ Cur W' g (rdS s 8).1 (rdS s 8).2 ∧ Only g W W' ∧ W'.heap.size = W.heap.size :=
  number_q g s.1 s.2 8 8 (by decide) (Lib.hid rfl) W hC
theorem number1 (g : Nat) (s : List UInt8 × Int) (W : World) (hC : Cur W g s.1 s.2) :
    Calls Tryz.prog 116 #[.pointer (some ⟨g, 0, none⟩), .int .i64 1] W fun r W' => r = .returned (.int .u64 ((rdN s 1 : Nat) : Int)) ∧ Cur W' g (rdS s 1).1 (rdS s 1).2 ∧ Only g W W' ∧ W'.heap.size = W.heap.size :=
  number_q g s.1 s.2 1 1 (by decide) (Lib.hid rfl) W hC
theorem text16 (g : Nat) (s : List UInt8 × Int) (W : World) (hC : Cur W g s.1 s.2) :
    Calls Tryz.prog 118 #[.pointer (some ⟨g, 0, none⟩), .int .i64 1, .int .i64 16] W fun r W' => r = .returned (.string ⟨(txT s).toArray⟩) ∧ Cur W' g (txS s).1 (txS s).2 ∧ Only g W W' ∧ W'.heap.size = W.heap.size :=
  text_q g s.1 s.2 1 16 (by decide) 1 (by decide) (Lib.hid rfl) W hC
theorem rd_lt1 (s : List UInt8 × Int) : rdN s 1 < 256 := by
  have h := num_lt (tk s.1 s.2 ((1 : Nat) : Int)).1
  have h1 := tk_len s.1 s.2 ((1 : Nat) : Int)
  rw [Int.toNat_natCast] at h1
  exact Nat.lt_of_lt_of_le h (Nat.le_trans (Nat.pow_le_pow_right (by decide) h1) (by decide))

theorem fldN_lt (h : Bool) (s : List UInt8 × Int) : fldN h s < 18446744073709551616 := by
  cases h
  · show (0 : Nat) < _
    decide
  · have h := num_lt (tk s.1 s.2 ((8 : Nat) : Int)).1
    have h1 := tk_len s.1 s.2 ((8 : Nat) : Int)
    rw [Int.toNat_natCast] at h1
    exact Nat.lt_of_lt_of_le h (Nat.le_trans (Nat.pow_le_pow_right (by decide) h1) (by decide))
theorem txT_len (s : List UInt8 × Int) : (txT s).length ≤ 16 := by
  unfold txT tx
  simp only
  split
  · simp
  · split
    · simp
    · rename_i h
      have h1 := tk_len (tk s.1 s.2 ((1 : Nat) : Int)).2.1 (tk s.1 s.2 ((1 : Nat) : Int)).2.2 ((num (tk s.1 s.2 ((1 : Nat) : Int)).1 : Nat) : Int)
      rw [Int.toNat_natCast] at h1
      omega
theorem DecI.store {W w : World} {g p q : Nat} {cs : List Value} {s : List UInt8 × Int} (h : DecI W g p q cs s w) (hg : W.heap.size < g) (hgp : g < p) (hpq : p < q) (i : Nat) (v : Value) : DecI W g p q (cs.set i v) s (w.setCell ⟨q, i, none⟩ v) :=
  h.step hg hgp hpq (h.1.other _ _ (by simp; omega)) (h.2.1.keep fun k hk => heap_setCell_other w _ k _ (by simp; omega)) (h.2.2.1.set _ _) ((Turn.refl _ _).setCell (S := fun k => k = g ∨ k = q) (p := ⟨q, i, none⟩) (.inr rfl) _)

/-- Bytes that are read on. -/
structure Rest (l : List UInt8) (kn : Nat) (s0 : List UInt8 × Int) (s1 s2 s5 : List UInt8 × Int) (x0 x3 x4 x5 : Nat) (T : ByteArray) : Prop where
  e1 : rdS s0 8 = s1
  v1 : rdN s0 8 = x0
  e2 : txS s1 = s2
  v2 : (⟨(txT s1).toArray⟩ : ByteArray) = T
  e5 : fldS (kB kn) (fldS (kN kn) (fldS (kL kn) s2)) = s5
  v3 : fldN (kL kn) s2 = x3
  v4 : fldN (kN kn) (fldS (kL kn) s2) = x4
  v5 : fldN (kB kn) (fldS (kN kn) (fldS (kL kn) s2)) = x5
  got : decR l = ⟨x0, kn, T.data.toList, x3, x4, x5⟩
  err : decE l = doneE s5.1 s5.2
  size : T.size ≤ 16
  small : x5 < 18446744073709551616
theorem rest_of (l : List UInt8) (kn : Nat) (s0 : List UInt8 × Int) (h0 : decS0 l = s0) (hk : decK l = (kn : Int)) : ∃ s1 s2 s5 x0 x3 x4 x5 T, Rest l kn s0 s1 s2 s5 x0 x3 x4 x5 T := by
  refine ⟨_, _, _, _, _, _, _, _, ⟨rfl, rfl, rfl, rfl, rfl, rfl, rfl, rfl, ?_, ?_, ?_, ?_⟩⟩
  · unfold decR decS4 decS3 decS2 decS1
    rw [h0, hk]
  · unfold decE decS5 decS4 decS3 decS2 decS1
    rw [h0, hk]
  · exact txT_len _
  · exact fldN_lt _ _

set_option maxRecDepth 100000 in
set_option maxHeartbeats 2000000 in
theorem decode_any (A : Option Addr) (n c : Nat) (l : List UInt8) (W : World) (hl : Byt W W.heap.size A n l) (hnil : A = none → c = 0) (hn : n ≤ 140737488355328) (hD : DK W) :
    Calls Tryz.prog 74 #[.slice A n c] W fun e W' => e = .returned (.tuple #[rcVr (decC l).1, .int .i64 (decC l).2]) ∧ Below W.heap.size W W' := by
  have hR0 := Blk.new (cs := rcCs 0 0 ⟨#[]⟩ 0 0 0) W 35 _ rfl
  have hB0 := (Below.refl W.heap.size W).alloc (Nat.le_refl _) (.cells (rcCs 0 0 ⟨#[]⟩ 0 0 0).toArray 35)
  have hl0 := hl.alloc (Nat.le_refl _) (.cells (rcCs 0 0 ⟨#[]⟩ 0 0 0).toArray 35)
  go_enter Tryz.func74, Tryz.ntmps74
  go_wp2_with fail
  refine (newCursor_any _ A n c l _ hl0 (by simp) hnil hn).mono ?_
  rintro r w1 ⟨g, rfl, hg, hC1, hb1⟩
  have hR1 := hR0.below hb1 hR0.lt
  have hB1 := hB0.trans (hb1.mono (by simp))
  have hgR : W.heap.size < g := by simp at hg; omega
  clear hg hb1 hR0 hB0 hl0
  have hP2 := Blk.new (cs := [.pointer (some ⟨g, 0, none⟩)]) w1 161 _ rfl
  have hC2 := hC1.below ((Below.refl w1.heap.size w1).alloc (Nat.le_refl _) (.cells #[.pointer (some ⟨g, 0, none⟩)] 161))
  have hR2 := hR1.alloc (.cells #[.pointer (some ⟨g, 0, none⟩)] 161)
  have hB2 := hB1.alloc hB1.size (.cells #[.pointer (some ⟨g, 0, none⟩)] 161)
  have hgp := hC1.lt
  obtain ⟨p, hp⟩ : ∃ p, w1.heap.size = p := ⟨_, rfl⟩
  rw [hp] at hP2 hgp
  have hlt0 := rd_lt1 (l, 0)
  have hn1 := fun W hC => number1 g (l, 0) W hC
  have hA := decC_kind l
  have hB := decC_rest l
  obtain ⟨kn, hkn⟩ : ∃ kn, rdN (l, 0) 1 = kn := ⟨_, rfl⟩
  have hdk : decK l = (kn : Int) := by unfold decK; rw [hkn]
  obtain ⟨s0, hs0⟩ : ∃ s, rdS (l, 0) 1 = s := ⟨_, rfl⟩
  rw [hkn] at hlt0
  rw [show decS0 l = s0 from hs0, hdk] at hA hB
  have hkw : IntKind.i64.wrap (kn : Int) = (kn : Int) := by rw [IntKind.wrap_i64]; omega
  have HP := Lib.hid hp
  go_wp2_with fail
  refine (hn1 _ hC2).mono ?_
  rintro r w3 ⟨rfl, hC3, ho3, hz3⟩
  rw [hkn]
  rw [hs0] at hC3
  have ht3 := turn_only ho3
  have hP3 := ht3.blk hP2 (by omega)
  have hR3 := ht3.blk hR2 (by omega)
  have hB3 := hB2.trans (ht3.below hB2.size fun k hk => by omega)
  have hs3 : w3.heap.size = p + 1 := by rw [hz3]; simp; exact HP.out
  clear hn1 ho3 hz3 ht3 hP2 hR2 hB2 hC2 hC1 hR1 hB1 hp hkn
  obtain ⟨s1, s2, s5, x0, x3, x4, x5, T, HR⟩ := rest_of l kn s0 hs0 hdk
  have hI : DecI W g p w3.heap.size (rcCs 0 kn ⟨#[]⟩ 0 0 0) s0 (w3.alloc (.cells (rcCs 0 kn ⟨#[]⟩ 0 0 0).toArray 35)) :=
    ⟨hP3.alloc _, hC3.below ((Below.refl w3.heap.size w3).alloc (Nat.le_refl _) _), Blk.new w3 _ _ rfl, hR3.alloc _, hB3.alloc hB3.size _⟩
  rw [hs3] at hI
  have hpq : p < p + 1 := by omega
  have y0 := hP3.cell 0
  simp only [List.getElem?_cons_zero] at y0
  have hE := err_any g s0.1 s0.2 _ hI.2.1
  have hN8 := fun w h => number8 g s0 w h
  rw [HR.e1, HR.v1] at hN8
  have hT16 := fun w h => text16 g s1 w h
  rw [HR.e2, HR.v2] at hT16
  have hF := fun w h => decFields_any W g p (p + 1) x0 kn T s2 hgR hgp hpq w h
  rw [HR.v3, HR.v4, HR.v5, HR.e5] at hF
  rw [HR.err, HR.got] at hB
  obtain ⟨e0, he0⟩ : ∃ e, s0.2 = e := ⟨_, rfl⟩
  rw [he0] at hE hA hB
  have HR := Lib.hid HR
  clear he0 hdk hs0 hC3
  go_wp2_with fail
  refine hE.mono ?_
  rintro r w4 ⟨rfl, rfl⟩
  have hcase : (e0 = 0 ∧ isK (kn : Int) = false) ∨ (e0 = 0 ∧ isK (kn : Int) = true ∧ Hid (¬ (e0 = 0 ∧ isK (kn : Int) = false))) ∨ ((e0 == 0) = false ∧ isK (kn : Int) = isK (kn : Int) ∧ Hid (¬ (e0 = 0 ∧ isK (kn : Int) = false))) := by
    by_cases h : e0 = 0
    · cases hk : isK (kn : Int)
      · exact .inl ⟨h, rfl⟩
      · exact .inr (.inl ⟨h, rfl, Lib.hid (by simp)⟩)
    · exact .inr (.inr ⟨by simpa using h, rfl, Lib.hid (by simp [h])⟩)
  have hmf : ∀ (fn : Fn) (first cap : Array Value) (w : World), (Instr.makeFunc fn first cap).run Tryz.prog w = .ok (.func fn first cap) w := fun _ _ _ _ => rfl
  have k1 : (w3.alloc (.cells (rcCs 0 kn ⟨#[]⟩ 0 0 0).toArray 35)).cell? ⟨p + 1, 1, none⟩ = some (.int .i64 kn) := hI.2.2.1.cell 1
  rcases hcase with ⟨h0, hk⟩ | hrest
  · have hA' := Lib.hid (hA h0 hk)
    subst h0
    clear hA hB
    go_wp2_with (first
      | (go_at_call 50; refine (isKind_any _ _).mono ?_; rintro e w ⟨rfl, rfl⟩; rw [hk])
      | (refine st_blk rfl 35 _ _ rfl W.heap.size [.int .u64 0, .int .i64 0, .string ⟨#[]⟩, .int .u64 0, .int .u64 0, .int .u64 0] rfl rfl 35 (rcCs 0 0 ⟨#[]⟩ 0 0 0) hI.2.2.2.1 (by kernel_rfl) rfl (by simp [Value.oneCell']) ?_))
    exact ret_cell_tmp rfl W.heap.size 35 [.int .u64 0, .int .i64 0, .string ⟨#[]⟩, .int .u64 0, .int .u64 0, .int .u64 0] rfl (hI.2.2.2.1.row _) _ Tryz.underlying35 (by kernel_rfl) _ rfl rfl ⟨by rw [hA'.out]; rfl, below_row hI.2.2.2.2 (Nat.le_refl _) _⟩
  rcases hrest with ⟨h0, hk, hne⟩ | ⟨h0, hk, hne⟩
  all_goals
    have hB' := Lib.hid (hB hne.out)
    try subst h0
    clear hB hA hE hne
    go_wp2_with (first
      | (go_at_call 50; refine (isKind_any _ _).mono ?_; rintro e w ⟨rfl, rfl⟩; rw [hk])
      | (go_at_call 116; refine (hN8 _ hI.2.1).mono ?_; rintro r w5 ⟨rfl, hC5, ho5, hz5⟩; have ht5 := turn_only ho5; have hI5 := hI.step hgR hgp hpq (ht5.blk hI.1 (by omega)) hC5 (ht5.blk hI.2.2.1 (by omega)) (ht5.mono fun k hk => .inl hk); have u0 := hI5.1.cell 0; have uf := hI5.2.2.1.frozen 0; have uc := hI5.2.2.1.cell 0; have hI6 := hI5.store hgR hgp hpq 0 (.int .u64 ((x0 : Nat) : Int)); simp only [List.getElem?_cons_zero] at u0; clear ho5 hz5 ht5 hC5)
      | (go_at_call 118; refine (hT16 _ hI6.2.1).mono ?_; rintro r w7 ⟨rfl, hC7, ho7, hz7⟩; have ht7 := turn_only ho7; have hI7 := hI6.step hgR hgp hpq (ht7.blk hI6.1 (by omega)) hC7 (ht7.blk hI6.2.2.1 (by omega)) (ht7.mono fun k hk => .inl hk); have v0 := hI7.1.cell 0; have vf := hI7.2.2.1.frozen 2; have vc := hI7.2.2.1.cell 2; have hI8 := hI7.store hgR hgp hpq 2 (.string T); simp only [List.getElem?_cons_zero] at v0; clear ho7 hz7 ht7 hC7)
      | (go_at_call 83; refine (hF _ hI8).mono ?_; rintro r w9 ⟨rfl, hI9⟩; have t0 := hI9.1.cell 0; simp only [List.getElem?_cons_zero] at t0))
    obtain ⟨d0, d1, d2, d3, d4, d5⟩ := rc_cells hI9.2.2.1
    have hlt9 : p < w9.heap.size ∧ p + 1 < w9.heap.size := ⟨hI9.1.lt, hI9.2.2.1.lt⟩
    have HC : Hid (∀ w, Below w9.heap.size w9 w → w.cell? ⟨p, 0, none⟩ = some (.pointer (some ⟨g, 0, none⟩)) ∧ w.cell? ⟨p + 1, 0, none⟩ = some (.int .u64 ((x0 : Nat) : Int)) ∧ w.cell? ⟨p + 1, 1, none⟩ = some (.int .i64 kn) ∧ w.cell? ⟨p + 1, 2, none⟩ = some (.string T) ∧ w.cell? ⟨p + 1, 3, none⟩ = some (.int .u64 ((x3 : Nat) : Int)) ∧ w.cell? ⟨p + 1, 4, none⟩ = some (.int .u64 ((x4 : Nat) : Int)) ∧ w.cell? ⟨p + 1, 5, none⟩ = some (.int .u64 ((x5 : Nat) : Int))) :=
      Lib.hid (fun w hb => by
        obtain ⟨d0, d1, d2, d3, d4, d5⟩ := rc_cells (hI9.2.2.1.below hb hlt9.2)
        exact ⟨(hI9.1.below hb hlt9.1).cell 0, d0, d1, d2, d3, d4, d5⟩)
    have hDn : ∀ w, Below w9.heap.size w9 w → Calls Tryz.prog 121 #[.pointer (some ⟨g, 0, none⟩)] w fun r W' => r = .returned (.int .i64 (doneE s5.1 s5.2)) ∧ w = W' := fun w hb => done_any g s5.1 s5.2 w (hI9.2.1.below hb)
    have hCk : ∀ w, Below w9.heap.size w9 w → Calls Tryz.prog 34 #[rcV x0 kn T x3 x4 x5] w fun e W' => e = .returned (.int .i64 (checkC ⟨x0, kn, T.data.toList, x3, x4, x5⟩)) ∧ Below w.heap.size w W' := fun w hb => check_any x0 kn T x3 x4 x5 (Nat.le_trans HR.out.size (by unfold maxLen; decide)) HR.out.small w (dk_below hD (hI9.2.2.2.2.trans (hb.mono hI9.2.2.2.2.size)) (Nat.le_refl _))
    unfold rcV at hCk
    obtain ⟨dn, hdn⟩ : ∃ z, doneE s5.1 s5.2 = z := ⟨_, rfl⟩
    obtain ⟨ck, hck⟩ : ∃ z, checkC ⟨x0, kn, T.data.toList, x3, x4, x5⟩ = z := ⟨_, rfl⟩
    rw [hdn] at hDn hB'
    rw [hck] at hCk hB'
    have HI := Lib.hid (And.intro hI9.2.2.2.1 hI9.2.2.2.2)
    clear hdn hck hI hI5 hI6 hI7 hI8 hI9 u0 uf uc v0 vf vc hN8 hT16 hF k1 y0 hP3 hR3 hB3
    go_region_held3 (fun w' => w'.cell? ⟨p, 0, none⟩ = some (.pointer (some ⟨g, 0, none⟩)) ∧ w'.cell? ⟨p + 1, 0, none⟩ = some (.int .u64 ((x0 : Nat) : Int)) ∧ w'.cell? ⟨p + 1, 1, none⟩ = some (.int .i64 kn) ∧ w'.cell? ⟨p + 1, 2, none⟩ = some (.string T) ∧ w'.cell? ⟨p + 1, 3, none⟩ = some (.int .u64 ((x3 : Nat) : Int)) ∧ w'.cell? ⟨p + 1, 4, none⟩ = some (.int .u64 ((x4 : Nat) : Int)) ∧ w'.cell? ⟨p + 1, 5, none⟩ = some (.int .u64 ((x5 : Nat) : Int)))
      (first | exact ⟨f0, f1, f2, f3, f4, f5, f6⟩ | exact ⟨t0, d0, d1, d2, d3, d4, d5⟩ | go_keep)
      ((first
        | (go_at_call 121; refine (hDn _ (below_drewN (Below.refl _ w9) 1)).mono ?_; rintro r w10 ⟨rfl, rfl⟩)
        | (go_at_call 34; refine (hCk _ (below_drewN (Below.refl _ w9) 1)).mono ?_; rintro r w11 ⟨rfl, hb11⟩; have hB11 := bthen (below_drewN (Below.refl _ w9) 1) hb11; obtain ⟨f0, f1, f2, f3, f4, f5, f6⟩ := HC.out w11 hB11; clear hb11)
        | (go_at_call 120; refine (or_any dn ck _ _ _ (by simp [go_sem]) (by simp [go_sem])).mono ?_; rintro r w12 ⟨rfl, rfl⟩)))
    all_goals
      obtain ⟨hR9, hB9⟩ := HI.out
      have hB10 := hB9.trans (hB11.mono hB9.size)
      have hR12 := (hR9.below hB11 hR9.lt).alloc (.cells #[.int .i64 dn, .int .i64 ck] 30)
      have hB12 := hB10.alloc hB10.size (.cells #[.int .i64 dn, .int .i64 ck] 30)
      have hlt11 := hB11.size
      have hV := hB'.out
      clear hR9 hB9 hB10 hDn hCk t0 d0 d1 d2 d3 d4 d5
      by_cases ho : orE dn ck = 0
      · rw [if_neg (by simp [ho])] at hV
        have HV := Lib.hid hV
        rw [ho]
        clear ho hV hB'
        go_wp2_with (refine st_blk rfl 35 _ _ rfl W.heap.size [.int .u64 ((x0 : Nat) : Int), .int .i64 kn, .string T, .int .u64 ((x3 : Nat) : Int), .int .u64 ((x4 : Nat) : Int), .int .u64 ((x5 : Nat) : Int)] rfl rfl 35 (rcCs 0 0 ⟨#[]⟩ 0 0 0) hR12 (by kernel_rfl) rfl (by simp [Value.oneCell']) ?_)
        exact ret_cell_tmp rfl W.heap.size 35 [.int .u64 ((x0 : Nat) : Int), .int .i64 kn, .string T, .int .u64 ((x3 : Nat) : Int), .int .u64 ((x4 : Nat) : Int), .int .u64 ((x5 : Nat) : Int)] rfl (hR12.row _) _ Tryz.underlying35 (by kernel_rfl) _ rfl rfl ⟨by rw [HV.out]; rfl, below_row hB12 (Nat.le_refl _) _⟩
      · rw [if_pos ho] at hV
        have HV := Lib.hid hV
        obtain ⟨z, hz⟩ : ∃ z, orE dn ck = z := ⟨_, rfl⟩
        rw [hz] at HV ho ⊢
        have hq : (z != 0) = true := by simpa using ho
        clear ho hV hB' hz
        go_wp2_with (refine st_blk rfl 35 _ _ rfl W.heap.size [.int .u64 0, .int .i64 0, .string ⟨#[]⟩, .int .u64 0, .int .u64 0, .int .u64 0] rfl rfl 35 (rcCs 0 0 ⟨#[]⟩ 0 0 0) hR12 (by kernel_rfl) rfl (by simp [Value.oneCell']) ?_)
        exact ret_cell_tmp rfl W.heap.size 35 [.int .u64 0, .int .i64 0, .string ⟨#[]⟩, .int .u64 0, .int .u64 0, .int .u64 0] rfl (hR12.row _) _ Tryz.underlying35 (by kernel_rfl) _ rfl rfl ⟨by rw [HV.out]; rfl, below_row hB12 (Nat.le_refl _) _⟩

end Go.Proofs.YthjikbhjciphiaaGreatDoor

/-
  The reference's records of segments.
-/
namespace Go.Proofs.YthjikbhjciphiaaGreatDoor
open Go.RowKit
set_option linter.unusedVariables false
set_option linter.unusedSimpArgs false

/-- What Record tells. -/
def RecQ (W : World) (r : Rc × Bool) (e : Ending) (W' : World) : Prop := e = .returned (.tuple #[.agg r.1.cells.toArray, .bool r.2]) ∧ Below W.heap.size W W'
def recR (b : List UInt8) : Rc × Bool := if recOk b then (recP b, true) else (zeroR, false)

/-- What stands while a record's fields are read. -/
def FldI (W : World) (B : Nat) (A : Option Addr) (m c : Nat) (rs : List UInt8) (A0 : Option Addr) (n : Nat) (l : List UInt8) (cs : List Value) (wx : World) : Prop :=
  Blk wx (W.heap.size + 1) 35 cs ∧ Blk wx W.heap.size 35 zeroR.cells ∧ Below W.heap.size W wx ∧ Byt wx B A m rs ∧ (A = none → c = 0) ∧ m ≤ c ∧ c ≤ maxLen ∧ Byt wx B A0 n l
theorem FldI.below {W w w' : World} {B : Nat} {A A0 : Option Addr} {m c n : Nat} {rs l : List UInt8} {cs : List Value} (h : FldI W B A m c rs A0 n l cs w) (hB : B ≤ W.heap.size) (hb : Below w.heap.size w w') : FldI W B A m c rs A0 n l cs w' := by
  obtain ⟨h1, h2, h3, h4, h5, h6, h7, h8⟩ := h
  exact ⟨h1.below hb h1.lt, h2.below hb h2.lt, h3.trans (hb.mono h3.size), h4.below (hb.mono (Nat.le_trans hB h3.size)), h5, h6, h7, h8.below (hb.mono (Nat.le_trans hB h3.size))⟩
theorem FldI.set {W w : World} {B : Nat} {A A0 : Option Addr} {m c n : Nat} {rs l : List UInt8} {cs : List Value} (h : FldI W B A m c rs A0 n l cs w) (hB : B ≤ W.heap.size) (i : Nat) (v : Value) : FldI W B A m c rs A0 n l (cs.set i v) (w.setCell ⟨W.heap.size + 1, i, none⟩ v) := by
  obtain ⟨h1, h2, h3, h4, h5, h6, h7, h8⟩ := h
  have hk : ∀ p : Addr, p.block < B → (w.setCell ⟨W.heap.size + 1, i, none⟩ v).cell? p = w.cell? p := fun p hp => World.cell?_of_block (w := w) (Below.heap_setCell _ _ _ _ (by simp; omega))
  exact ⟨h1.set i v, h2.other ⟨W.heap.size + 1, i, none⟩ v (by simp), h3.setCell (p := ⟨W.heap.size + 1, i, none⟩) (by simp) v, h4.keep hk, h5, h6, h7, h8.keep hk⟩
theorem FldI.step {W w : World} {B : Nat} {A A0 : Option Addr} {m c n : Nat} {rs l : List UInt8} {cs : List Value} (h : FldI W B A m c rs A0 n l cs w) (k : Nat) (hk : k ≤ m) : FldI W B (if c = k then A else A.map (·.add k)) (m - k) (c - k) (rs.drop k) A0 n l cs w := by
  obtain ⟨h1, h2, h3, h4, h5, h6, h7, h8⟩ := h
  refine ⟨h1, h2, h3, h4.cut hk h6, fun e => ?_, by omega, by omega, h8⟩
  split at e
  · have := h5 e; omega
  · cases A with
    | none => have := h5 rfl; omega
    | some q => cases e

end Go.Proofs.YthjikbhjciphiaaGreatDoor

/-
  Lists of records in memory; the reference's records of segments.
-/
namespace Go.Proofs.YthjikbhjciphiaaGreatDoor
open Go.RowKit
set_option linter.unusedVariables false
set_option linter.unusedSimpArgs false

theorem Tryz.infoRc : (Tryz.prog.info? 35).map (fun i => (i.zero, i.size, i.bytes)) = some (some (.agg #[.int .u64 0, .int .i64 0, .string ⟨#[]⟩, .int .u64 0, .int .u64 0, .int .u64 0]), 6, 56) := by kernel_rfl

/-- A record's parts. -/
def rcP (r : Rc) : List Prt := [.num .u64 (r.seq : Nat), .num .i64 r.kind, .txt r.ten, .num .u64 (r.lease : Nat), .num .u64 (r.n : Nat), .num .u64 (r.bits : Nat)]
def rcPs (l : List Rc) : List (List Prt) := l.map rcP
def rcCells (l : List Rc) : List Value := (l.map Rc.cells).flatten
theorem rcPs_len (l : List Rc) : (rcPs l).length = l.length := List.length_map ..
theorem rcPs_six (l : List Rc) : ∀ f ∈ rcPs l, f.length = 6 := by
  intro f hf
  obtain ⟨r, _, rfl⟩ := List.mem_map.1 hf
  rfl
theorem rcP_cells (w : World) (S : Nat → Prop) (r : Rc) : PrtsV w S r.cells (rcP r) := ⟨_, _, rfl, rfl, _, _, rfl, rfl, _, _, rfl, rfl, _, _, rfl, rfl, _, _, rfl, rfl, _, _, rfl, rfl, rfl⟩
theorem rcPs_cells (w : World) (S : Nat → Prop) (l : List Rc) : PrtsV w S (rcCells l) (rcPs l).flatten := by
  induction l with
  | nil => exact rfl
  | cons r l ih =>
    show PrtsV w S (r.cells ++ rcCells l) (rcP r ++ (rcPs l).flatten)
    exact PrtsV.append _ _ _ _ (rcP_cells w S r) ih
theorem rcCells_snoc (l : List Rc) (r : Rc) : rcCells (l ++ [r]) = rcCells l ++ r.cells := by unfold rcCells; simp
/-- The slice value '.slice A n c' reads as these records. -/
def Rcs (w : World) (S : Nat → Prop) (A : Option Addr) (n : Nat) (l : List Rc) : Prop := Sls w S 6 A n (rcPs l)
theorem Rcs.len {w : World} {S : Nat → Prop} {A : Option Addr} {n : Nat} {l : List Rc} (h : Rcs w S A n l) : l.length = n := by have := h.1; rwa [rcPs_len] at this
theorem Rcs.below {w w' : World} {S : Nat → Prop} {A : Option Addr} {n : Nat} {l : List Rc} (h : Rcs w S A n l) (hb : Below w.heap.size w w') : Rcs w' S A n l :=
  Sls.turn h ⟨hb.os, hb.tape, hb.output, hb.size, fun k hk hn => hb.block k hk⟩
theorem Rcs.at_ {w : World} {S : Nat → Prop} {A : Option Addr} {n : Nat} {l : List Rc} (h : Rcs w S A n l) {j : Nat} {r : Rc} (hj : l[j]? = some r) :
    ∃ g o, A = some ⟨g, o, none⟩ ∧ ¬ S g ∧ g < w.heap.size ∧ w.cell? ⟨g, o + j * 6, none⟩ = some (.int .u64 (r.seq : Nat)) ∧ w.cell? ⟨g, o + j * 6 + 1, none⟩ = some (.int .i64 r.kind) ∧ w.cell? ⟨g, o + j * 6 + 2, none⟩ = some (.string ⟨r.ten.toArray⟩) ∧
      w.cell? ⟨g, o + j * 6 + 3, none⟩ = some (.int .u64 (r.lease : Nat)) ∧ w.cell? ⟨g, o + j * 6 + 4, none⟩ = some (.int .u64 (r.n : Nat)) ∧ w.cell? ⟨g, o + j * 6 + 5, none⟩ = some (.int .u64 (r.bits : Nat)) := by
  have hj' : (rcPs l)[j]? = some (rcP r) := by unfold rcPs; rw [List.getElem?_map, hj]; rfl
  obtain ⟨g, o, ys, e, hs, hl, hp, _, hc⟩ := Sls.at_ h hj'
  obtain ⟨v0, r0, rfl, rfl, v1, r1, rfl, rfl, v2, r2, rfl, rfl, v3, r3, rfl, rfl, v4, r4, rfl, rfl, v5, r5, rfl, rfl, hr⟩ := hp
  refine ⟨g, o, e, hs, hl, hc 0 _ rfl, hc 1 _ rfl, hc 2 _ rfl, hc 3 _ rfl, hc 4 _ rfl, hc 5 _ rfl⟩
theorem Rcs.of_own {w : World} {S : Nat → Prop} {base : Nat} {v : Value} {l : List Rc} (h : w.ownsRow base 35 6 v l.length (rcCells l)) (hS : ∀ k, S k → k < base ∨ w.heap.size ≤ k) : ∃ A c, v = .slice A l.length c ∧ Rcs w S A l.length l := by
  rcases h.2 with ⟨rfl, h0⟩ | ⟨g, cap, cur, rfl, _⟩
  · refine ⟨none, 0, by rw [h0], ?_⟩
    rw [List.eq_nil_of_length_eq_zero h0]
    exact Sls.nil
  · exact ⟨_, cap, rfl, Sls.of_own h (rcPs_cells w S l) (rcPs_six l) (rcPs_len l) hS⟩

/-- What is kept while records are taken. -/
def RcsI (W : World) (v : Value) (out : List Rc) (wr : World) : Prop := wr.ownsRow W.heap.size 35 6 v out.length (rcCells out) ∧ Below W.heap.size W wr
theorem takeR_len : ∀ (bs : List (List UInt8)) (out : List Rc), (takeR out bs).length ≤ out.length + bs.length := by
  intro bs
  induction bs with
  | nil => intro out; exact Nat.le_refl _
  | cons b bs ih =>
    intro out
    unfold takeR
    split
    · have := ih (out ++ [recP b])
      rw [List.length_append, List.length_singleton] at this
      rw [List.length_cons]
      omega
    · rw [List.length_cons]; omega
theorem take_snoc13 {α : Type} (L : List α) (k : Nat) (b : α) (h : L[k]? = some b) : L.take (k + 1) = L.take k ++ [b] := by rw [List.take_add_one, h]; rfl
theorem segsR_snoc (out : List Rc) (l : List (List UInt8)) (s : List UInt8) : segsR out (l ++ [s]) = takeR (segsR out l) (validC s).1 := by unfold segsR; rw [List.foldl_append]; rfl

end Go.Proofs.YthjikbhjciphiaaGreatDoor

/-
  The reference's records of segments.
-/
namespace Go.Proofs.YthjikbhjciphiaaGreatDoor
open Go.RowKit
set_option linter.unusedVariables false
set_option linter.unusedSimpArgs false

theorem valid_sizes (l : List UInt8) : ∀ b ∈ (validC l).1, b.length ≤ 4096 := by
  suffices h : ∀ n (r : List UInt8), r.length = n → ∀ b ∈ (validC r).1, b.length ≤ 4096 from h l.length l rfl
  intro n
  induction n using Nat.strongRecOn with
  | ind n ih =>
    intro r hr b hb
    by_cases h0 : (headC r).2.2 = 0
    · obtain ⟨h1, h2, h3, h4⟩ := head_size r h0
      have hd : (r.drop (headC r).2.1).length = r.length - (headC r).2.1 := List.length_drop
      rw [valid_go r h0] at hb
      rcases List.mem_cons.1 hb with rfl | hb
      · omega
      · exact ih _ (by omega) (r.drop (headC r).2.1) hd b hb
    · rw [valid_stop r h0] at hb
      cases hb
theorem BytS.low {w : World} {B : Nat} {A : Option Addr} {n : Nat} {l : List UInt8} (h : BytS w (fun k => B ≤ k) A n l) : Byt w B A n l :=
  ⟨h.1, fun hn => by
    obtain ⟨b, o, e, hb, hc⟩ := h.2 hn
    exact ⟨b, o, e, by omega, hc⟩⟩
theorem awaits_nil (r : Rc) : awaits [] r = true := rfl
theorem awaits_snoc (l : List Rc) (q r : Rc) : awaits (l ++ [q]) r = decide (r.seq = (q.seq + 1) % 18446744073709551616) := by unfold awaits; simp
theorem takeR_yes (out : List Rc) (b : List UInt8) (bs : List (List UInt8)) (h1 : recOk b = true) (h2 : awaits out (recP b) = true) : takeR out (b :: bs) = takeR (out ++ [recP b]) bs := by
  show (if recOk b = true ∧ awaits out (recP b) = true then _ else _) = _
  rw [if_pos ⟨h1, h2⟩]
theorem takeR_no (out : List Rc) (b : List UInt8) (bs : List (List UInt8)) (h : recOk b = false ∨ awaits out (recP b) = false) : takeR out (b :: bs) = out := by
  show (if recOk b = true ∧ awaits out (recP b) = true then _ else _) = _
  rw [if_neg]
  rintro ⟨h1, h2⟩
  rcases h with h | h
  · rw [h1] at h; cases h
  · rw [h2] at h; cases h
/-- All bytes of lists. -/
def sumL (l : List (List UInt8)) : Nat := (l.map List.length).sum
theorem segsR_len : ∀ (l : List (List UInt8)) (out : List Rc), (segsR out l).length ≤ out.length + sumL l := by
  intro l
  induction l with
  | nil => intro out; exact Nat.le_refl _
  | cons s l ih =>
    intro out
    show (segsR (takeR out (validC s).1) l).length ≤ _
    have h1 := ih (takeR out (validC s).1)
    have h2 := takeR_len (validC s).1 out
    have h3 := (valid_end s).2
    show _ ≤ out.length + (s.length + sumL l)
    omega
theorem sumL_take (l : List (List UInt8)) (k : Nat) : sumL (l.take k) ≤ sumL l := by
  unfold sumL
  induction l generalizing k with
  | nil => simp
  | cons s l ih =>
    cases k with
    | zero => simp
    | succ k =>
      simp only [List.take_succ_cons, List.map_cons, List.sum_cons]
      have := ih k
      omega
theorem sumL_at (l : List (List UInt8)) (k : Nat) (s : List UInt8) (h : l[k]? = some s) : s.length ≤ sumL l := by
  unfold sumL
  induction l generalizing k with
  | nil => cases h
  | cons t l ih =>
    cases k with
    | zero =>
      simp at h
      subst h
      simp only [List.map_cons, List.sum_cons]
      omega
    | succ k =>
      have := ih k (by simpa using h)
      simp only [List.map_cons, List.sum_cons]
      omega

/-- A list off a row of one's own stays so where the row is appended to. -/
theorem lst_step {w w' : World} {o : Obj} {v v' : Value} {A : Option Addr} {n : Nat} {l : List (List UInt8)} (h : Lst w (fun x => v.ownBlock = some x) A n l) (hg : (w.alloc o).grownBy w' v.ownBlock) (hv : v'.ownBlock = v.ownBlock ∨ v'.ownBlock = some (w.alloc o).heap.size) :
    Lst w' (fun x => v'.ownBlock = some x) A n l := by
  have hsz := hg.size
  simp at hsz
  have h1 : Lst w (fun x => v.ownBlock = some x ∨ w.heap.size ≤ x) A n l := Sls.more h (fun k hk hlt => hk.resolve_right (by omega))
  have h2 : Turn (fun x => v.ownBlock = some x ∨ w.heap.size ≤ x) w w' := by
    refine ⟨hg.os, hg.tape, hg.output, by omega, fun k hk hn => ?_⟩
    exact (hg.block k (by simp; omega) (fun e => hn (.inl e.symm))).trans (Below.heap_alloc _ _ _ hk)
  refine Sls.less (Sls.turn h1 h2) (fun k hk => ?_)
  rcases hv with e | e
  · rw [e] at hk; exact .inl hk
  · rw [e] at hk
    simp at hk
    exact .inr (by omega)

end Go.Proofs.YthjikbhjciphiaaGreatDoor
