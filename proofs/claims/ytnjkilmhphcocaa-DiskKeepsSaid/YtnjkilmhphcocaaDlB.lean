/-
  The statements of the disk: is the program awake?
-/
import Derived.Test.YtnjkilmhphcocaaDlA
namespace Go.Proofs.Ytnjkilmhphcocaa
open Go.RowKit
set_option linter.unusedVariables false
set_option linter.unusedSimpArgs false

theorem BytS.new {w : World} {S : Nat → Prop} {l : List UInt8} {C : Array Value} (hC : C.toList = l.map bv) (e : TypeId) (fr : Nat × Nat) (n : Nat) (hn : l.length = n) (hS : ¬ S w.heap.size) : BytS (w.alloc (.cells C e fr)) S (some ⟨w.heap.size, 0, none⟩) n l := by
  refine ⟨hn, fun _ => ⟨_, _, rfl, hS, fun j x hx => ?_⟩⟩
  rw [Nat.zero_add, World.cell?_alloc_mark, ← Array.getElem?_toList, hC, List.getElem?_map, hx]
  rfl
theorem OkD.more {k k' : Nat} {m : Dk} (h : OkD k m) (hk : k ≤ k') : OkD k' m := ⟨by have := h.len; omega, by have := h.size; omega, h.sure, by have := h.calls; omega, h.left, h.cap⟩
theorem new_ok (cap : Int) (h : cap < 9223372036854775808) : OkD 0 (newD cap) := ⟨Nat.le_refl _, Nat.le_refl _, fun f hf => (by cases hf), Nat.le_refl _, by show (0 : Nat) < _; omega, by show 0 ≤ max cap 0 ∧ max cap 0 < _; omega⟩

/-- The example's disks. -/
def aw0 : Dk := newD 9
def aw1 : Dk := (doD aw0 ⟨1, [97], [], [120, 121, 122], 0, 0⟩).2
def aw2 : Dk := (doD aw1 ⟨2, [97], [], [], 0, 0⟩).2
def aw3 : Dk := (doD aw2 ⟨1, [97], [], [117, 118], 0, 0⟩).2
def aw4 : Dk := crashD 1 aw3
theorem tar97 : targetB [97] = true := by decide +kernel
theorem aw1_eq : aw1 = ⟨[⟨[97], [120, 121, 122], 0⟩], 9, 1, false, 0, 0, false⟩ := by
  unfold aw1 aw0
  rw [do_call _ _ rfl rfl]
  unfold callD
  rw [tar97]
  rfl
theorem aw2_eq : aw2 = ⟨[⟨[97], [120, 121, 122], 3⟩], 9, 2, false, 0, 0, false⟩ := by
  unfold aw2
  rw [aw1_eq, do_call _ _ rfl rfl]
  unfold callD
  rw [tar97]
  rfl
theorem aw3_eq : aw3 = ⟨[⟨[97], [120, 121, 122, 117, 118], 3⟩], 9, 3, false, 0, 0, false⟩ := by
  unfold aw3
  rw [aw2_eq, do_call _ _ rfl rfl]
  unfold callD
  rw [tar97]
  rfl
theorem aw4_eq : aw4 = ⟨[⟨[97], [120, 121, 122, 117], 4⟩], 9, 3, false, 0, 0, true⟩ := by
  unfold aw4
  rw [aw3_eq]
  rfl

/-- A disk made in a call that began at W. -/
def AwS (PD : World → (Nat → Prop) → Nat → Dk → Prop) (W W1 : World) (q : Nat) (m : Dk) : Prop := ∃ S, PD W1 S q m ∧ (∀ k, S k → W.heap.size ≤ k) ∧ Turn (fun k => W.heap.size ≤ k) W W1
theorem AwS.alloc {N : Nat} {I : World → Prop} {PD : World → (Nat → Prop) → Nat → Dk → Prop} (C : DiskC N I PD) {W W1 : World} {q : Nat} {m : Dk} (h : AwS PD W W1 q m) (o : Obj) : AwS PD W (W1.alloc o) q m := by
  obtain ⟨S, h1, h2, h3⟩ := h
  exact ⟨S, C.turn h1 ((Turn.refl (fun _ => False) W1).alloc o) (fun k hk => hk.elim), h2, h3.alloc o⟩
theorem AwS.below {N : Nat} {I : World → Prop} {PD : World → (Nat → Prop) → Nat → Dk → Prop} (C : DiskC N I PD) {W W1 W2 : World} {q : Nat} {m : Dk} (h : AwS PD W W1 q m) (hb : Below W1.heap.size W1 W2) : AwS PD W W2 q m := by
  obtain ⟨S, h1, h2, h3⟩ := h
  exact ⟨S, C.turn h1 (Turn.of_below hb : Turn (fun _ => False) W1 W2) (fun k hk => hk.elim), h2, h3.trans (Turn.of_below hb)⟩
theorem aw_next {PD : World → (Nat → Prop) → Nat → Dk → Prop} {W W1 W2 : World} {S S' : Nat → Prop} {q : Nat} {m : Dk} (hS : ∀ k, S k → W.heap.size ≤ k) (hT : Turn (fun k => W.heap.size ≤ k) W W1) (hp : PD W2 S' q m) (hS' : ∀ k, S' k → S k ∨ W1.heap.size ≤ k) (ht : Turn S W1 W2) : AwS PD W W2 q m :=
  ⟨S', hp, fun k hk => by
    rcases hS' k hk with h | h
    · exact hS k h
    · exact Nat.le_trans hT.size h, hT.trans (ht.mono hS)⟩

set_option maxRecDepth 100000 in
set_option maxHeartbeats 4000000 in
theorem awake9_any {N : Nat} {I : World → Prop} {PD : World → (Nat → Prop) → Nat → Dk → Prop} (C : DiskC N I PD) (D : DiskA N I PD) (W : World) (hI : I W) (hN : N ≤ W.heap.size) :
    Calls Try.prog 7 #[] W fun e W' => e = .returned (.bool true) ∧ Below W.heap.size W W' := by
  have hO0 : OkD 200 aw0 := (new_ok 9 (by omega)).more (by omega)
  have hO1 : OkD 200 aw1 := (do_ok _ (new_ok 9 (by omega)) (by decide) (by decide)).more (by omega)
  have hO2 : OkD 200 aw2 := (do_ok _ (do_ok _ (new_ok 9 (by omega)) (by decide) (by decide)) (by decide) (by decide)).more (by omega)
  have hO3 : OkD 200 aw3 := (do_ok _ (do_ok _ (do_ok _ (new_ok 9 (by omega)) (by decide) (by decide)) (by decide) (by decide)) (by decide) (by decide)).more (by omega)
  have hO4 : OkD 200 aw4 := hO3.crash 1
  have hnew := D.new W 9 hI hN (by omega)
  have HI := Lib.hid (And.intro hO0 (And.intro hO1 (And.intro hO2 (And.intro hO3 hO4))))
  clear hO0 hO1 hO2 hO3 hO4 hI
  go_enter Try.func7, Try.ntmps7
  go_wp2_with fail
  refine hnew.mono ?_
  rintro e W1 ⟨q, S1, rfl, hp1, hS1, hb1⟩
  have hT1 : Turn (fun k => W.heap.size ≤ k) W W1 := Turn.of_below hb1
  have hh1 := (C.here hp1).2
  have hp1' := C.turn hp1 ((Turn.refl (fun _ => False) W1).alloc (.cells #[.int .u8 120, .int .u8 121, .int .u8 122] 5 (3, 4))) (fun k hk => hk.elim)
  have hA1 := C.append (W1.alloc (.cells #[.int .u8 120, .int .u8 121, .int .u8 122] 5 (3, 4))) S1 q aw0 [97] [120, 121, 122] (some ⟨W1.heap.size, 0, none⟩) 3 3 hp1' HI.out.1 (by decide) (by decide) (BytS.new rfl 5 (3, 4) 3 rfl (fun h => by have := (hh1 _ h).2; omega)) (fun h => by cases h) (by omega) (by decide)
  have kc1 : (convert 34 34 (.slice (some ⟨W1.heap.size, 0, none⟩) 3 3)).run Try.prog (W1.alloc (.cells #[.int .u8 120, .int .u8 121, .int .u8 122] 5)) = .ok (.slice (some ⟨W1.heap.size, 0, none⟩) 3 3) (W1.alloc (.cells #[.int .u8 120, .int .u8 121, .int .u8 122] 5 (3, 4))) :=
    Lib.run_convert_bytes_const (P := Try.prog) W1 34 5 #[.int .u8 120, .int .u8 121, .int .u8 122] 3 3 Try.underlying34 Try.underlying5
  have HT1 := Lib.hid (And.intro hS1 (hT1.alloc (.cells #[.int .u8 120, .int .u8 121, .int .u8 122] 5 (3, 4))))
  clear hnew hp1 hS1 hb1 hT1 hh1 hp1'
  go_wp2_with fail
  refine hA1.mono ?_
  rintro e W2 ⟨S2, rfl, hp2, hS2, ht2⟩
  have hw2 : AwS PD W W2 q aw1 := aw_next HT1.out.1 HT1.out.2 hp2 hS2 ht2
  clear hA1 kc1 HT1 hp2 hS2 ht2
  obtain ⟨S3, hp3, hS3, hT3⟩ := hw2
  have hA2 := C.sync W2 S3 q aw1 [97] hp3 HI.out.2.1 (by decide)
  have HT3 := Lib.hid (And.intro hS3 hT3)
  clear hp3 hS3 hT3
  go_wp2_with fail
  refine hA2.mono ?_
  rintro e W3 ⟨S4, rfl, hp4, hS4, ht4⟩
  have hw3 : AwS PD W W3 q aw2 := aw_next HT3.out.1 HT3.out.2 hp4 hS4 ht4
  clear hA2 HT3 hp4 hS4 ht4
  obtain ⟨S5, hp5, hS5, hT5⟩ := hw3
  have hh5 := (C.here hp5).2
  have hp5' := C.turn hp5 ((Turn.refl (fun _ => False) W3).alloc (.cells #[.int .u8 117, .int .u8 118] 5 (2, 3))) (fun k hk => hk.elim)
  have hA3 := C.append (W3.alloc (.cells #[.int .u8 117, .int .u8 118] 5 (2, 3))) S5 q aw2 [97] [117, 118] (some ⟨W3.heap.size, 0, none⟩) 2 2 hp5' HI.out.2.2.1 (by decide) (by decide) (BytS.new rfl 5 (2, 3) 2 rfl (fun h => by have := (hh5 _ h).2; omega)) (fun h => by cases h) (by omega) (by decide)
  have kc2 : (convert 34 34 (.slice (some ⟨W3.heap.size, 0, none⟩) 2 2)).run Try.prog (W3.alloc (.cells #[.int .u8 117, .int .u8 118] 5)) = .ok (.slice (some ⟨W3.heap.size, 0, none⟩) 2 2) (W3.alloc (.cells #[.int .u8 117, .int .u8 118] 5 (2, 3))) :=
    Lib.run_convert_bytes_const (P := Try.prog) W3 34 5 #[.int .u8 117, .int .u8 118] 2 2 Try.underlying34 Try.underlying5
  have HT5 := Lib.hid (And.intro hS5 (hT5.alloc (.cells #[.int .u8 117, .int .u8 118] 5 (2, 3))))
  clear hp5 hS5 hT5 hh5 hp5'
  go_wp2_with fail
  refine hA3.mono ?_
  rintro e W4 ⟨S6, rfl, hp6, hS6, ht6⟩
  have hw4 : AwS PD W W4 q aw3 := aw_next HT5.out.1 HT5.out.2 hp6 hS6 ht6
  clear hA3 kc2 HT5 hp6 hS6 ht6
  obtain ⟨S7, hp7, hS7, hT7⟩ := hw4
  have hA4 := C.crash W4 S7 q aw3 1 hp7 HI.out.2.2.2.1
  have HT7 := Lib.hid (And.intro hS7 hT7)
  clear hp7 hS7 hT7
  go_wp2_with fail
  refine hA4.mono ?_
  rintro e W5 ⟨S8, rfl, hp8, hS8, ht8⟩
  have hw5 : AwS PD W W5 q aw4 := aw_next HT7.out.1 HT7.out.2 hp8 hS8 ht8
  clear hA4 HT7 hp8 hS8 ht8
  obtain ⟨S9, hp9, hS9, hT9⟩ := hw5
  have hfi := D.files W5 S9 q aw4 hp9 HI.out.2.2.2.2 (by rw [aw4_eq]; exact List.pairwise_singleton _ _)
  rw [aw4_eq] at hfi
  have HT9 : Hid (AwS PD W W5 q aw4) := Lib.hid ⟨S9, hp9, hS9, hT9⟩
  clear hp9 hS9 hT9
  go_wp2_with fail
  refine hfi.mono ?_
  rintro e W6 ⟨v, xs, rfl, hown, hx, hb6⟩
  have hw6 : AwS PD W W6 q aw4 := HT9.out.below C hb6
  obtain ⟨A6, c6, rfl, hn6, hl6, hm6⟩ := own_formk hown
  have hF6 := Fls.of_own hown hx (fun k hk => hk)
  clear hfi HT9
  obtain ⟨b, o, rfl, hbS, hfa⟩ := hF6.2 (by show 0 < 1; omega)
  obtain ⟨y0, y1, y2, g0, g1, g2, hv⟩ := hfa 0 _ rfl
  obtain ⟨A3, n3, c3, rfl, rfl, rfl, hby, _⟩ := fl_parts hv
  rw [Nat.zero_mul, Nat.add_zero] at g1
  obtain ⟨S10, hp10, hS10, hT10⟩ := hw6
  have hdn := D.down W6 S10 q aw4 hp10 HI.out.2.2.2.2
  rw [aw4_eq] at hdn
  have HT10 := Lib.hid hT10
  have hcv := run_string_byt (P := Try.prog) (w := W6) (c := c3) 34 9 5 Try.underlying34 Try.underlying5 Try.underlying9 hby.byt
  clear hown hx hb6 hn6 hl6 hm6 hF6 hfa hv g0 g2 hp10 hS10 hT10 hby hbS
  go_wp2_with fail
  refine hdn.mono ?_
  rintro e W7 ⟨rfl, hb7⟩
  have HB := Lib.hid (bthen (HT10.out.below (Nat.le_refl _) (fun k hk => hk)) hb7)
  clear hdn hb7 hcv HT10 HI
  go_wp2_with fail
  go_ret
  exact ⟨rfl, HB.out⟩

end Go.Proofs.Ytnjkilmhphcocaa
