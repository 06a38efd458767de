/-
  Package rec: what bytes are decoded as.
-/
import Derived.Test.YtgococpbhbcpmaaGreatDoorZz18
import Derived.Test.YtgococpbhbcpmaaGreatDoorZz8
import Derived.DeepKeys
import Derived.Laws.IdiomArrays
namespace Go.Proofs.YtgococpbhbcpmaaGreatDoor
open Go.RowKit
set_option linter.unusedVariables false
set_option linter.unusedSimpArgs false

theorem turn_only {g : Nat} {w w' : World} (h : Only g w w') : Turn (fun k => k = g) w w' := ⟨h.os, h.tape, h.output, h.size, fun k hk hn => h.block k hk (by intro e; cases e; exact hn rfl)⟩

theorem enters_dec : ∀ args w, (callFunc 74 args).run Tryz.prog w = .ok (.enter 74 args) w := enters_of Tryz.func74 (by kernel_rfl) rfl

set_option maxRecDepth 100000 in
set_option maxHeartbeats 1000000 in
theorem decF_any (h : Bool) (p g q i : Nat) (cs : List Value) (l : List UInt8) (e : Int) (W : World) (hp : Blk W p 103 [.pointer (some ⟨g, 0, none⟩)]) (hC : Cur W g l e) (hq : Blk W q 25 cs) (hgp : g < p) (hpq : p < q) (hi : i < cs.length) (hz : cs.set i (.int .u64 0) = cs) :
    Calls Tryz.prog 74 (#[.bool h, .pointer (some ⟨q, i, none⟩)] ++ #[.pointer (some ⟨p, 0, none⟩)]) W fun r W' => r = .returned (.tuple #[]) ∧
      Blk W' p 103 [.pointer (some ⟨g, 0, none⟩)] ∧ Cur W' g (fldS h (l, e)).1 (fldS h (l, e)).2 ∧ Blk W' q 25 (cs.set i (.int .u64 ((fldN h (l, e) : Nat) : Int))) ∧ Turn (fun k => k = g ∨ k = q) W W' := by
  show Calls Tryz.prog 74 #[.bool h, .pointer (some ⟨q, i, none⟩), .pointer (some ⟨p, 0, none⟩)] W _
  have y0 := hp.cell 0
  simp only [List.getElem?_cons_zero] at y0
  cases h
  · go_enter Tryz.func74, Tryz.ntmps74
    go_wp2
    go_end0
    refine ⟨rfl, hp, hC, ?_, Turn.refl _ _⟩
    show Blk W q _ (cs.set i (.int .u64 ((0 : Nat) : Int)))
    rw [show ((0 : Nat) : Int) = 0 from rfl, hz]
    exact hq
  · have hN := number_q g l e 8 8 (by decide) (Lib.hid rfl) W hC
    obtain ⟨x, hx⟩ : ∃ x, fldN true (l, e) = x := ⟨_, rfl⟩
    obtain ⟨s, hs⟩ : ∃ s, fldS true (l, e) = s := ⟨_, rfl⟩
    have hx' : num (tk l e ((8 : Nat) : Int)).1 = x := hx
    have hs1 : (tk l e ((8 : Nat) : Int)).2 = s := hs
    rw [hx', hs1] at hN
    rw [hx, hs]
    have HX := Lib.hid (And.intro hx hs)
    clear hx hs hx' hs1 hz
    obtain ⟨u, hu⟩ : ∃ u, cs[i]? = some u := ⟨_, List.getElem?_eq_getElem hi⟩
    have hfq := fun w (hw : Blk w q 25 cs) => hw.frozen i
    have hcq := fun w (hw : Blk w q 25 cs) => (hw.cell i).trans hu
    go_enter Tryz.func74, Tryz.ntmps74
    go_wp2_with (go_at_call 71; refine hN.mono ?_; rintro r w2 ⟨rfl, hC2, ho2, hz2⟩; have ht2 := turn_only ho2; have hp2 := ht2.blk hp (by omega); have hq2 := ht2.blk hq (by omega); have x0 := hcq _ hq2; have x1 := hfq _ hq2)
    go_end0
    have hr : w2.setCell ⟨q, i, none⟩ (.int .u64 ((x : Nat) : Int)) = w2.setRow q (cs.set i (.int .u64 ((x : Nat) : Int))).toArray := setCell_row hq2 _ _
    refine ⟨rfl, hp2.other _ _ (by simp; omega), hC2.keep fun k hk => heap_setCell_other w2 _ k _ (by simp; omega), hq2.set _ _, (ht2.mono fun k hk => .inl hk).setCell (.inr rfl) _⟩

/-- What is kept while bytes are decoded. -/
def DecI (W : World) (g p q : Nat) (cs : List Value) (s : List UInt8 × Int) (w : World) : Prop :=
  Blk w p 103 [.pointer (some ⟨g, 0, none⟩)] ∧ Cur w g s.1 s.2 ∧ Blk w q 25 cs ∧ Blk w W.heap.size 25 (rcCs 0 0 ⟨#[]⟩ 0 0 0) ∧ Below W.heap.size W w
theorem DecI.step {W w w' : World} {g p q : Nat} {cs cs' : List Value} {s s' : List UInt8 × Int} (h : DecI W g p q cs s w) (hg : W.heap.size < g) (hgp : g < p) (hpq : p < q) (hp : Blk w' p 103 [.pointer (some ⟨g, 0, none⟩)]) (hC : Cur w' g s'.1 s'.2) (hq : Blk w' q 25 cs') (ht : Turn (fun k => k = g ∨ k = q) w w') : DecI W g p q cs' s' w' :=
  ⟨hp, hC, hq, ht.blk h.2.2.2.1 (by omega), h.2.2.2.2.trans (ht.below h.2.2.2.2.size fun k hk => by omega)⟩

set_option maxRecDepth 100000 in
set_option maxHeartbeats 1000000 in
theorem decFields_any (W : World) (g p q : Nat) (n : Nat) (k : Int) (T : ByteArray) (s : List UInt8 × Int) (hg : W.heap.size < g) (hgp : g < p) (hpq : p < q) (w : World) (hI : DecI W g p q (rcCs n k T 0 0 0) s w) :
    Calls Tryz.prog 33 #[.pointer (some ⟨q, 0, none⟩), .func (.func 74) #[] #[.pointer (some ⟨p, 0, none⟩)]] w fun e w' => e = .returned (.tuple #[]) ∧
      DecI W g p q (rcCs n k T (fldN (kL k) s) (fldN (kN k) (fldS (kL k) s)) (fldN (kB k) (fldS (kN k) (fldS (kL k) s)))) (fldS (kB k) (fldS (kN k) (fldS (kL k) s))) w' := by
  refine rfields_any _ _ k q _ (DecI W g p q (rcCs n k T (fldN (kL k) s) 0 0) (fldS (kL k) s)) (DecI W g p q (rcCs n k T (fldN (kL k) s) (fldN (kN k) (fldS (kL k) s)) 0) (fldS (kN k) (fldS (kL k) s))) _ w enters_dec (by rw [hI.2.2.1.cell]; rfl) hI ?_ ?_ ?_
  · intro w hI
    refine (decF_any _ p g q 3 _ s.1 s.2 w hI.1 hI.2.1 hI.2.2.1 hgp hpq (by show 3 < 6; decide) rfl).mono ?_
    rintro e w' ⟨rfl, h1, h2, h3, h4⟩
    exact ⟨rfl, hI.step hg hgp hpq h1 h2 h3 h4⟩
  · intro w hI
    refine (decF_any _ p g q 4 _ _ _ w hI.1 hI.2.1 hI.2.2.1 hgp hpq (by show 4 < 6; decide) rfl).mono ?_
    rintro e w' ⟨rfl, h1, h2, h3, h4⟩
    exact ⟨rfl, hI.step hg hgp hpq h1 h2 h3 h4⟩
  · intro w hI
    refine (decF_any _ p g q 5 _ _ _ w hI.1 hI.2.1 hI.2.2.1 hgp hpq (by show 5 < 6; decide) rfl).mono ?_
    rintro e w' ⟨rfl, h1, h2, h3, h4⟩
    exact ⟨rfl, hI.step hg hgp hpq h1 h2 h3 h4⟩

/-- A record as the value of a result. -/
def rcVr (r : Rc) : Value := .agg r.cells.toArray
/-- The ways out of it. -/
theorem decC_kind (l : List UInt8) (h : (decS0 l).2 = 0) (hk : isK (decK l) = false) : decC l = (zeroR, 5) := by unfold decC; rw [if_pos ⟨h, hk⟩]
theorem decC_rest (l : List UInt8) (h : ¬ ((decS0 l).2 = 0 ∧ isK (decK l) = false)) : decC l = if orE (decE l) (checkC (decR l)) ≠ 0 then (zeroR, orE (decE l) (checkC (decR l))) else (decR l, 0) := by
  unfold decC orE
  rw [if_neg h]
  by_cases h1 : decE l ≠ 0
  · rw [if_pos h1, if_pos h1, if_pos h1]
  · rw [if_neg h1, if_neg h1]

theorem number8 (g : Nat) (s : List UInt8 × Int) (W : World) (hC : Cur W g s.1 s.2) :
    Calls Tryz.prog 71 #[.pointer (some ⟨g, 0, none⟩), .int .i64 8] W fun r W' => r = .returned (.int .u64 ((rdN s 8 : Nat) : Int)) ∧ Cur W' g (rdS s 8).1 (rdS s 8).2 ∧ Only g W W' ∧ W'.heap.size = W.heap.size :=
  number_q g s.1 s.2 8 8 (by decide) (Lib.hid rfl) W hC
theorem number1 (g : Nat) (s : List UInt8 × Int) (W : World) (hC : Cur W g s.1 s.2) :
    Calls Tryz.prog 71 #[.pointer (some ⟨g, 0, none⟩), .int .i64 1] W fun r W' => r = .returned (.int .u64 ((rdN s 1 : Nat) : Int)) ∧ Cur W' g (rdS s 1).1 (rdS s 1).2 ∧ Only g W W' ∧ W'.heap.size = W.heap.size :=
  number_q g s.1 s.2 1 1 (by decide) (Lib.hid rfl) W hC
theorem text16 (g : Nat) (s : List UInt8 × Int) (W : World) (hC : Cur W g s.1 s.2) :
    Calls Tryz.prog 73 #[.pointer (some ⟨g, 0, none⟩), .int .i64 1, .int .i64 16] W fun r W' => r = .returned (.string ⟨(txT s).toArray⟩) ∧ Cur W' g (txS s).1 (txS s).2 ∧ Only g W W' ∧ W'.heap.size = W.heap.size :=
  text_q g s.1 s.2 1 16 (by decide) 1 (by decide) (Lib.hid rfl) W hC
theorem rd_lt1 (s : List UInt8 × Int) : rdN s 1 < 256 := by
  have h := num_lt (tk s.1 s.2 ((1 : Nat) : Int)).1
  have h1 := tk_len s.1 s.2 ((1 : Nat) : Int)
  rw [Int.toNat_natCast] at h1
  exact Nat.lt_of_lt_of_le h (Nat.le_trans (Nat.pow_le_pow_right (by decide) h1) (by decide))

theorem fldN_lt (h : Bool) (s : List UInt8 × Int) : fldN h s < 18446744073709551616 := by
  cases h
  · show (0 : Nat) < _
    decide
  · have h := num_lt (tk s.1 s.2 ((8 : Nat) : Int)).1
    have h1 := tk_len s.1 s.2 ((8 : Nat) : Int)
    rw [Int.toNat_natCast] at h1
    exact Nat.lt_of_lt_of_le h (Nat.le_trans (Nat.pow_le_pow_right (by decide) h1) (by decide))
theorem txT_len (s : List UInt8 × Int) : (txT s).length ≤ 16 := by
  unfold txT tx
  simp only
  split
  · simp
  · split
    · simp
    · rename_i h
      have h1 := tk_len (tk s.1 s.2 ((1 : Nat) : Int)).2.1 (tk s.1 s.2 ((1 : Nat) : Int)).2.2 ((num (tk s.1 s.2 ((1 : Nat) : Int)).1 : Nat) : Int)
      rw [Int.toNat_natCast] at h1
      omega
theorem DecI.store {W w : World} {g p q : Nat} {cs : List Value} {s : List UInt8 × Int} (h : DecI W g p q cs s w) (hg : W.heap.size < g) (hgp : g < p) (hpq : p < q) (i : Nat) (v : Value) : DecI W g p q (cs.set i v) s (w.setCell ⟨q, i, none⟩ v) :=
  h.step hg hgp hpq (h.1.other _ _ (by simp; omega)) (h.2.1.keep fun k hk => heap_setCell_other w _ k _ (by simp; omega)) (h.2.2.1.set _ _) ((Turn.refl _ _).setCell (S := fun k => k = g ∨ k = q) (p := ⟨q, i, none⟩) (.inr rfl) _)

/-- Bytes that are read on. -/
structure Rest (l : List UInt8) (kn : Nat) (s0 : List UInt8 × Int) (s1 s2 s5 : List UInt8 × Int) (x0 x3 x4 x5 : Nat) (T : ByteArray) : Prop where
  e1 : rdS s0 8 = s1
  v1 : rdN s0 8 = x0
  e2 : txS s1 = s2
  v2 : (⟨(txT s1).toArray⟩ : ByteArray) = T
  e5 : fldS (kB kn) (fldS (kN kn) (fldS (kL kn) s2)) = s5
  v3 : fldN (kL kn) s2 = x3
  v4 : fldN (kN kn) (fldS (kL kn) s2) = x4
  v5 : fldN (kB kn) (fldS (kN kn) (fldS (kL kn) s2)) = x5
  got : decR l = ⟨x0, kn, T.data.toList, x3, x4, x5⟩
  err : decE l = doneE s5.1 s5.2
  size : T.size ≤ 16
  small : x5 < 18446744073709551616
theorem rest_of (l : List UInt8) (kn : Nat) (s0 : List UInt8 × Int) (h0 : decS0 l = s0) (hk : decK l = (kn : Int)) : ∃ s1 s2 s5 x0 x3 x4 x5 T, Rest l kn s0 s1 s2 s5 x0 x3 x4 x5 T := by
  refine ⟨_, _, _, _, _, _, _, _, ⟨rfl, rfl, rfl, rfl, rfl, rfl, rfl, rfl, ?_, ?_, ?_, ?_⟩⟩
  · unfold decR decS4 decS3 decS2 decS1
    rw [h0, hk]
  · unfold decE decS5 decS4 decS3 decS2 decS1
    rw [h0, hk]
  · exact txT_len _
  · exact fldN_lt _ _

set_option maxRecDepth 100000 in
set_option maxHeartbeats 2000000 in
theorem decode_any (A : Option Addr) (n c : Nat) (l : List UInt8) (W : World) (hl : Byt W W.heap.size A n l) (hnil : A = none → c = 0) (hn : n ≤ 140737488355328) (hD : DK W) :
    Calls Tryz.prog 45 #[.slice A n c] W fun e W' => e = .returned (.tuple #[rcVr (decC l).1, .int .i64 (decC l).2]) ∧ Below W.heap.size W W' := by
  have hR0 := Blk.new (cs := rcCs 0 0 ⟨#[]⟩ 0 0 0) W 25 _ rfl
  have hB0 := (Below.refl W.heap.size W).alloc (Nat.le_refl _) (.cells (rcCs 0 0 ⟨#[]⟩ 0 0 0).toArray 25)
  have hl0 := hl.alloc (Nat.le_refl _) (.cells (rcCs 0 0 ⟨#[]⟩ 0 0 0).toArray 25)
  go_enter Tryz.func45, Tryz.ntmps45
  go_wp2_with fail
  refine (newCursor_any _ A n c l _ hl0 (by simp) hnil hn).mono ?_
  rintro r w1 ⟨g, rfl, hg, hC1, hb1⟩
  have hR1 := hR0.below hb1 hR0.lt
  have hB1 := hB0.trans (hb1.mono (by simp))
  have hgR : W.heap.size < g := by simp at hg; omega
  clear hg hb1 hR0 hB0 hl0
  have hP2 := Blk.new (cs := [.pointer (some ⟨g, 0, none⟩)]) w1 103 _ rfl
  have hC2 := hC1.below ((Below.refl w1.heap.size w1).alloc (Nat.le_refl _) (.cells #[.pointer (some ⟨g, 0, none⟩)] 103))
  have hR2 := hR1.alloc (.cells #[.pointer (some ⟨g, 0, none⟩)] 103)
  have hB2 := hB1.alloc hB1.size (.cells #[.pointer (some ⟨g, 0, none⟩)] 103)
  have hgp := hC1.lt
  obtain ⟨p, hp⟩ : ∃ p, w1.heap.size = p := ⟨_, rfl⟩
  rw [hp] at hP2 hgp
  have hlt0 := rd_lt1 (l, 0)
  have hn1 := fun W hC => number1 g (l, 0) W hC
  have hA := decC_kind l
  have hB := decC_rest l
  obtain ⟨kn, hkn⟩ : ∃ kn, rdN (l, 0) 1 = kn := ⟨_, rfl⟩
  have hdk : decK l = (kn : Int) := by unfold decK; rw [hkn]
  obtain ⟨s0, hs0⟩ : ∃ s, rdS (l, 0) 1 = s := ⟨_, rfl⟩
  rw [hkn] at hlt0
  rw [show decS0 l = s0 from hs0, hdk] at hA hB
  have hkw : IntKind.i64.wrap (kn : Int) = (kn : Int) := by rw [IntKind.wrap_i64]; omega
  have HP := Lib.hid hp
  go_wp2_with fail
  refine (hn1 _ hC2).mono ?_
  rintro r w3 ⟨rfl, hC3, ho3, hz3⟩
  rw [hkn]
  rw [hs0] at hC3
  have ht3 := turn_only ho3
  have hP3 := ht3.blk hP2 (by omega)
  have hR3 := ht3.blk hR2 (by omega)
  have hB3 := hB2.trans (ht3.below hB2.size fun k hk => by omega)
  have hs3 : w3.heap.size = p + 1 := by rw [hz3]; simp; exact HP.out
  clear hn1 ho3 hz3 ht3 hP2 hR2 hB2 hC2 hC1 hR1 hB1 hp hkn
  obtain ⟨s1, s2, s5, x0, x3, x4, x5, T, HR⟩ := rest_of l kn s0 hs0 hdk
  have hI : DecI W g p w3.heap.size (rcCs 0 kn ⟨#[]⟩ 0 0 0) s0 (w3.alloc (.cells (rcCs 0 kn ⟨#[]⟩ 0 0 0).toArray 25)) :=
    ⟨hP3.alloc _, hC3.below ((Below.refl w3.heap.size w3).alloc (Nat.le_refl _) _), Blk.new w3 _ _ rfl, hR3.alloc _, hB3.alloc hB3.size _⟩
  rw [hs3] at hI
  have hpq : p < p + 1 := by omega
  have y0 := hP3.cell 0
  simp only [List.getElem?_cons_zero] at y0
  have hE := err_any g s0.1 s0.2 _ hI.2.1
  have hN8 := fun w h => number8 g s0 w h
  rw [HR.e1, HR.v1] at hN8
  have hT16 := fun w h => text16 g s1 w h
  rw [HR.e2, HR.v2] at hT16
  have hF := fun w h => decFields_any W g p (p + 1) x0 kn T s2 hgR hgp hpq w h
  rw [HR.v3, HR.v4, HR.v5, HR.e5] at hF
  rw [HR.err, HR.got] at hB
  obtain ⟨e0, he0⟩ : ∃ e, s0.2 = e := ⟨_, rfl⟩
  rw [he0] at hE hA hB
  have HR := Lib.hid HR
  clear he0 hdk hs0 hC3
  go_wp2_with fail
  refine hE.mono ?_
  rintro r w4 ⟨rfl, rfl⟩
  have hcase : (e0 = 0 ∧ isK (kn : Int) = false) ∨ (e0 = 0 ∧ isK (kn : Int) = true ∧ Hid (¬ (e0 = 0 ∧ isK (kn : Int) = false))) ∨ ((e0 == 0) = false ∧ isK (kn : Int) = isK (kn : Int) ∧ Hid (¬ (e0 = 0 ∧ isK (kn : Int) = false))) := by
    by_cases h : e0 = 0
    · cases hk : isK (kn : Int)
      · exact .inl ⟨h, rfl⟩
      · exact .inr (.inl ⟨h, rfl, Lib.hid (by simp)⟩)
    · exact .inr (.inr ⟨by simpa using h, rfl, Lib.hid (by simp [h])⟩)
  have hmf : ∀ (fn : Fn) (first cap : Array Value) (w : World), (Instr.makeFunc fn first cap).run Tryz.prog w = .ok (.func fn first cap) w := fun _ _ _ _ => rfl
  have k1 : (w3.alloc (.cells (rcCs 0 kn ⟨#[]⟩ 0 0 0).toArray 25)).cell? ⟨p + 1, 1, none⟩ = some (.int .i64 kn) := hI.2.2.1.cell 1
  rcases hcase with ⟨h0, hk⟩ | hrest
  · have hA' := Lib.hid (hA h0 hk)
    subst h0
    clear hA hB
    go_wp2_with (first
      | (go_at_call 59; refine (isKind_any _ _).mono ?_; rintro e w ⟨rfl, rfl⟩; rw [hk])
      | (refine st_blk rfl 25 _ _ rfl W.heap.size [.int .u64 0, .int .i64 0, .string ⟨#[]⟩, .int .u64 0, .int .u64 0, .int .u64 0] rfl rfl 25 (rcCs 0 0 ⟨#[]⟩ 0 0 0) hI.2.2.2.1 (by kernel_rfl) rfl (by simp [Value.oneCell']) ?_))
    exact ret_cell_tmp rfl W.heap.size 25 [.int .u64 0, .int .i64 0, .string ⟨#[]⟩, .int .u64 0, .int .u64 0, .int .u64 0] rfl (hI.2.2.2.1.row _) _ Tryz.underlying25 (by kernel_rfl) _ rfl rfl ⟨by rw [hA'.out]; rfl, below_row hI.2.2.2.2 (Nat.le_refl _) _⟩
  rcases hrest with ⟨h0, hk, hne⟩ | ⟨h0, hk, hne⟩
  all_goals
    have hB' := Lib.hid (hB hne.out)
    try subst h0
    clear hB hA hE hne
    go_wp2_with (first
      | (go_at_call 59; refine (isKind_any _ _).mono ?_; rintro e w ⟨rfl, rfl⟩; rw [hk])
      | (go_at_call 71; refine (hN8 _ hI.2.1).mono ?_; rintro r w5 ⟨rfl, hC5, ho5, hz5⟩; have ht5 := turn_only ho5; have hI5 := hI.step hgR hgp hpq (ht5.blk hI.1 (by omega)) hC5 (ht5.blk hI.2.2.1 (by omega)) (ht5.mono fun k hk => .inl hk); have u0 := hI5.1.cell 0; have uf := hI5.2.2.1.frozen 0; have uc := hI5.2.2.1.cell 0; have hI6 := hI5.store hgR hgp hpq 0 (.int .u64 ((x0 : Nat) : Int)); simp only [List.getElem?_cons_zero] at u0; clear ho5 hz5 ht5 hC5)
      | (go_at_call 73; refine (hT16 _ hI6.2.1).mono ?_; rintro r w7 ⟨rfl, hC7, ho7, hz7⟩; have ht7 := turn_only ho7; have hI7 := hI6.step hgR hgp hpq (ht7.blk hI6.1 (by omega)) hC7 (ht7.blk hI6.2.2.1 (by omega)) (ht7.mono fun k hk => .inl hk); have v0 := hI7.1.cell 0; have vf := hI7.2.2.1.frozen 2; have vc := hI7.2.2.1.cell 2; have hI8 := hI7.store hgR hgp hpq 2 (.string T); simp only [List.getElem?_cons_zero] at v0; clear ho7 hz7 ht7 hC7)
      | (go_at_call 33; refine (hF _ hI8).mono ?_; rintro r w9 ⟨rfl, hI9⟩; have t0 := hI9.1.cell 0; simp only [List.getElem?_cons_zero] at t0))
    obtain ⟨d0, d1, d2, d3, d4, d5⟩ := rc_cells hI9.2.2.1
    have hlt9 : p < w9.heap.size ∧ p + 1 < w9.heap.size := ⟨hI9.1.lt, hI9.2.2.1.lt⟩
    have HC : Hid (∀ w, Below w9.heap.size w9 w → w.cell? ⟨p, 0, none⟩ = some (.pointer (some ⟨g, 0, none⟩)) ∧ w.cell? ⟨p + 1, 0, none⟩ = some (.int .u64 ((x0 : Nat) : Int)) ∧ w.cell? ⟨p + 1, 1, none⟩ = some (.int .i64 kn) ∧ w.cell? ⟨p + 1, 2, none⟩ = some (.string T) ∧ w.cell? ⟨p + 1, 3, none⟩ = some (.int .u64 ((x3 : Nat) : Int)) ∧ w.cell? ⟨p + 1, 4, none⟩ = some (.int .u64 ((x4 : Nat) : Int)) ∧ w.cell? ⟨p + 1, 5, none⟩ = some (.int .u64 ((x5 : Nat) : Int))) :=
      Lib.hid (fun w hb => by
        obtain ⟨d0, d1, d2, d3, d4, d5⟩ := rc_cells (hI9.2.2.1.below hb hlt9.2)
        exact ⟨(hI9.1.below hb hlt9.1).cell 0, d0, d1, d2, d3, d4, d5⟩)
    have hDn : ∀ w, Below w9.heap.size w9 w → Calls Tryz.prog 76 #[.pointer (some ⟨g, 0, none⟩)] w fun r W' => r = .returned (.int .i64 (doneE s5.1 s5.2)) ∧ w = W' := fun w hb => done_any g s5.1 s5.2 w (hI9.2.1.below hb)
    have hCk : ∀ w, Below w9.heap.size w9 w → Calls Tryz.prog 31 #[rcV x0 kn T x3 x4 x5] w fun e W' => e = .returned (.int .i64 (checkC ⟨x0, kn, T.data.toList, x3, x4, x5⟩)) ∧ Below w.heap.size w W' := fun w hb => check_any x0 kn T x3 x4 x5 (Nat.le_trans HR.out.size (by unfold maxLen; decide)) HR.out.small w (dk_below hD (hI9.2.2.2.2.trans (hb.mono hI9.2.2.2.2.size)) (Nat.le_refl _))
    unfold rcV at hCk
    obtain ⟨dn, hdn⟩ : ∃ z, doneE s5.1 s5.2 = z := ⟨_, rfl⟩
    obtain ⟨ck, hck⟩ : ∃ z, checkC ⟨x0, kn, T.data.toList, x3, x4, x5⟩ = z := ⟨_, rfl⟩
    rw [hdn] at hDn hB'
    rw [hck] at hCk hB'
    have HI := Lib.hid (And.intro hI9.2.2.2.1 hI9.2.2.2.2)
    clear hdn hck hI hI5 hI6 hI7 hI8 hI9 u0 uf uc v0 vf vc hN8 hT16 hF k1 y0 hP3 hR3 hB3
    go_region_held3 (fun w' => w'.cell? ⟨p, 0, none⟩ = some (.pointer (some ⟨g, 0, none⟩)) ∧ w'.cell? ⟨p + 1, 0, none⟩ = some (.int .u64 ((x0 : Nat) : Int)) ∧ w'.cell? ⟨p + 1, 1, none⟩ = some (.int .i64 kn) ∧ w'.cell? ⟨p + 1, 2, none⟩ = some (.string T) ∧ w'.cell? ⟨p + 1, 3, none⟩ = some (.int .u64 ((x3 : Nat) : Int)) ∧ w'.cell? ⟨p + 1, 4, none⟩ = some (.int .u64 ((x4 : Nat) : Int)) ∧ w'.cell? ⟨p + 1, 5, none⟩ = some (.int .u64 ((x5 : Nat) : Int)))
      (first | exact ⟨f0, f1, f2, f3, f4, f5, f6⟩ | exact ⟨t0, d0, d1, d2, d3, d4, d5⟩ | go_keep)
      ((first
        | (go_at_call 76; refine (hDn _ (below_drewN (Below.refl _ w9) 1)).mono ?_; rintro r w10 ⟨rfl, rfl⟩)
        | (go_at_call 31; refine (hCk _ (below_drewN (Below.refl _ w9) 1)).mono ?_; rintro r w11 ⟨rfl, hb11⟩; have hB11 := bthen (below_drewN (Below.refl _ w9) 1) hb11; obtain ⟨f0, f1, f2, f3, f4, f5, f6⟩ := HC.out w11 hB11; clear hb11)
        | (go_at_call 75; refine (or_any dn ck _ _ _ (by simp [go_sem]) (by simp [go_sem])).mono ?_; rintro r w12 ⟨rfl, rfl⟩)))
    all_goals
      obtain ⟨hR9, hB9⟩ := HI.out
      have hB10 := hB9.trans (hB11.mono hB9.size)
      have hR12 := (hR9.below hB11 hR9.lt).alloc (.cells #[.int .i64 dn, .int .i64 ck] 28)
      have hB12 := hB10.alloc hB10.size (.cells #[.int .i64 dn, .int .i64 ck] 28)
      have hlt11 := hB11.size
      have hV := hB'.out
      clear hR9 hB9 hB10 hDn hCk t0 d0 d1 d2 d3 d4 d5
      by_cases ho : orE dn ck = 0
      · rw [if_neg (by simp [ho])] at hV
        have HV := Lib.hid hV
        rw [ho]
        clear ho hV hB'
        go_wp2_with (refine st_blk rfl 25 _ _ rfl W.heap.size [.int .u64 ((x0 : Nat) : Int), .int .i64 kn, .string T, .int .u64 ((x3 : Nat) : Int), .int .u64 ((x4 : Nat) : Int), .int .u64 ((x5 : Nat) : Int)] rfl rfl 25 (rcCs 0 0 ⟨#[]⟩ 0 0 0) hR12 (by kernel_rfl) rfl (by simp [Value.oneCell']) ?_)
        exact ret_cell_tmp rfl W.heap.size 25 [.int .u64 ((x0 : Nat) : Int), .int .i64 kn, .string T, .int .u64 ((x3 : Nat) : Int), .int .u64 ((x4 : Nat) : Int), .int .u64 ((x5 : Nat) : Int)] rfl (hR12.row _) _ Tryz.underlying25 (by kernel_rfl) _ rfl rfl ⟨by rw [HV.out]; rfl, below_row hB12 (Nat.le_refl _) _⟩
      · rw [if_pos ho] at hV
        have HV := Lib.hid hV
        obtain ⟨z, hz⟩ : ∃ z, orE dn ck = z := ⟨_, rfl⟩
        rw [hz] at HV ho ⊢
        have hq : (z != 0) = true := by simpa using ho
        clear ho hV hB' hz
        go_wp2_with (refine st_blk rfl 25 _ _ rfl W.heap.size [.int .u64 0, .int .i64 0, .string ⟨#[]⟩, .int .u64 0, .int .u64 0, .int .u64 0] rfl rfl 25 (rcCs 0 0 ⟨#[]⟩ 0 0 0) hR12 (by kernel_rfl) rfl (by simp [Value.oneCell']) ?_)
        exact ret_cell_tmp rfl W.heap.size 25 [.int .u64 0, .int .i64 0, .string ⟨#[]⟩, .int .u64 0, .int .u64 0, .int .u64 0] rfl (hR12.row _) _ Tryz.underlying25 (by kernel_rfl) _ rfl rfl ⟨by rw [HV.out]; rfl, below_row hB12 (Nat.le_refl _) _⟩

end Go.Proofs.YtgococpbhbcpmaaGreatDoor

/-
  Records: equal ones; the first statement of records.
-/
namespace Go.Proofs.YtgococpbhbcpmaaGreatDoor
open Go.RowKit
set_option linter.unusedVariables false
set_option linter.unusedSimpArgs false

theorem u64_wf (x : Nat) (h : x < 18446744073709551616) : (Lit.int .u64 ((x : Nat) : Int)).wf = true := by
  simp [Lit.wf, IntKind.min, IntKind.max, IntKind.signed, IntKind.bits]
  omega
theorem i64_wf (k : Int) (h1 : -9223372036854775808 ≤ k) (h2 : k ≤ 9223372036854775807) : (Lit.int .i64 k).wf = true := by
  simp [Lit.wf, IntKind.min, IntKind.max, IntKind.signed, IntKind.bits]
  omega
theorem rc_lits (r : Rc) (T : ByteArray) (hT : T.size ≤ maxLen) (ho : r.okay) :
    Tryz.prog.keyLits 2 25 (rcV r.seq r.kind T r.lease r.n r.bits).cells.toList = some [.int .u64 ((r.seq : Nat) : Int), .int .i64 r.kind, .string T.data.toList, .int .u64 ((r.lease : Nat) : Int), .int .u64 ((r.n : Nat) : Int), .int .u64 ((r.bits : Nat) : Int)] := by
  obtain ⟨o1, o2, o3, o4, o5, o6⟩ := ho
  have c1 : Tryz.prog.cellsOf 23 = 1 := by kernel_rfl
  have c2 : Tryz.prog.cellsOf 3 = 1 := by kernel_rfl
  have c3 : Tryz.prog.cellsOf 9 = 1 := by kernel_rfl
  have c4 : Tryz.prog.cellsOf 25 = 6 := by kernel_rfl
  simp [Program.keyLits, Tryz.underlying25, Tryz.underlying23, Tryz.underlying3, Tryz.underlying9, c1, c2, c3, c4, rcV, Value.cells, u64_wf, i64_wf, o1, o2, o3, o4, o5, o6, hT]

theorem rc_equal (r q : Rc) (T U : ByteArray) (hT : T.size ≤ maxLen) (hU : U.size ≤ maxLen) (hr : r.okay) (hq : q.okay) (w : World) :
    (Op.equalIn 10000 25 (rcV r.seq r.kind T r.lease r.n r.bits) (rcV q.seq q.kind U q.lease q.n q.bits)).run Tryz.prog w = .ok (decide (r.seq = q.seq ∧ r.kind = q.kind ∧ T = U ∧ r.lease = q.lease ∧ r.n = q.n ∧ r.bits = q.bits)) w := by
  obtain ⟨z, hz, hiff⟩ := run_equalIn_deep (P := Tryz.prog) 9998 2 25 (by kernel_rfl) w 2 2 (rcV r.seq r.kind T r.lease r.n r.bits) (rcV q.seq q.kind U q.lease q.n q.bits) _ _ (by
    have c4 : Tryz.prog.cellsOf 25 = 6 := by kernel_rfl
    simp [Value.formed, Tryz.underlying25, rcV, c4]) (by
    have c4 : Tryz.prog.cellsOf 25 = 6 := by kernel_rfl
    simp [Value.formed, Tryz.underlying25, rcV, c4]) (rc_lits r T hT hr) (rc_lits q U hU hq)
  have : z = decide (r.seq = q.seq ∧ r.kind = q.kind ∧ T = U ∧ r.lease = q.lease ∧ r.n = q.n ∧ r.bits = q.bits) := by
    rw [Bool.eq_iff_iff, hiff]
    have hs : T.data.toList = U.data.toList ↔ T = U := ⟨fun h => by
      obtain ⟨⟨x⟩⟩ := T
      obtain ⟨⟨y⟩⟩ := U
      simpa using h, fun h => by rw [h]⟩
    simp only [List.cons.injEq, Lit.int.injEq, Lit.string.injEq, true_and, and_true, decide_eq_true_eq, hs, Int.ofNat_inj]
  rw [← this]
  exact hz

/-- The comparison of two records. -/
theorem rc_eql (r q : Rc) (T U : ByteArray) (hT : T.size ≤ maxLen) (hU : U.size ≤ maxLen) (hr : r.okay) (hq : q.okay) (w : World) :
    (binOp .eql 25 (rcV r.seq r.kind T r.lease r.n r.bits) (rcV q.seq q.kind U q.lease q.n q.bits)).run Tryz.prog w = .ok (.bool (decide (r.seq = q.seq ∧ r.kind = q.kind ∧ T = U ∧ r.lease = q.lease ∧ r.n = q.n ∧ r.bits = q.bits))) w := by
  have h := rc_equal r q T U hT hU hr hq w
  unfold rcV at h ⊢
  simp only [binOp]
  simp [Op.equal, Op.maxDepth, h]

end Go.Proofs.YtgococpbhbcpmaaGreatDoor
