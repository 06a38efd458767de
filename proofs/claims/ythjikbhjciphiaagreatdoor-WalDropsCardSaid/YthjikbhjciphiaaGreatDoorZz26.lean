/-
  The program's disk: how many bytes all files have.
-/
import Derived.Test.YthjikbhjciphiaaGreatDoorZz25
import Derived.Test.YthjikbhjciphiaaGreatDoorZz14
namespace Go.Proofs.YthjikbhjciphiaaGreatDoor
open Go.RowKit
set_option linter.unusedVariables false
set_option linter.unusedSimpArgs false

/-- Bytes of the files that are done. -/
def doneF (left : Lit → Bool) (fs : List Fl) : Nat := sizeF (fs.filter fun f => !left (.string f.name))
theorem done_start (left : Lit → Bool) (fs : List Fl) (h : ∀ f ∈ fs, left (.string f.name) = true) : doneF left fs = 0 := by
  unfold doneF
  rw [List.filter_eq_nil_iff.2 (fun f hf => by rw [h f hf]; simp)]
  rfl
theorem done_end (left : Lit → Bool) (fs : List Fl) (h : ∀ kl, left kl = false) : doneF left fs = sizeF fs := by
  unfold doneF
  rw [List.filter_eq_self.2 (fun f hf => by rw [h]; rfl)]
theorem done_cons (left : Lit → Bool) (g : Fl) (r : List Fl) : doneF left (g :: r) = (if left (.string g.name) then 0 else g.data.length) + doneF left r := by
  unfold doneF
  rw [List.filter_cons]
  cases left (.string g.name)
  · simp [sizeF]
  · simp [sizeF]
theorem done_same (left : Lit → Bool) (s : List UInt8) (fs : List Fl) (h : lookF s fs = none) : doneF (fun z => left z && !z.sameKey (.string s)) fs = doneF left fs := by
  induction fs with
  | nil => rfl
  | cons g r ih =>
    rw [look_cons] at h
    have hg : ¬ g.name = s := fun e => by rw [if_pos e] at h; cases h
    rw [if_neg hg] at h
    have e : (Lit.string g.name).sameKey (.string s) = false := by simpa [Lit.sameKey] using hg
    rw [done_cons, done_cons, ih h, e]
    simp
theorem done_step (left : Lit → Bool) (s : List UInt8) (fs : List Fl) (f : Fl) (hs : SrtF fs) (hf : lookF s fs = some f) (hl : left (.string s) = true) : doneF (fun z => left z && !z.sameKey (.string s)) fs = doneF left fs + f.data.length := by
  induction fs with
  | nil => cases hf
  | cons g r ih =>
    have hs1 := List.pairwise_cons.1 hs
    rw [look_cons] at hf
    rw [done_cons, done_cons]
    by_cases hg : g.name = s
    · rw [if_pos hg] at hf
      obtain rfl := Option.some.inj hf
      have hn : lookF s r = none := by
        cases hx : lookF s r with
        | none => rfl
        | some y =>
          have h1 := hs1.1 y (List.mem_of_find?_eq_some hx)
          rw [look_name s r y hx, hg, bl_irrefl] at h1
          cases h1
      have e : (Lit.string s).sameKey (.string s) = true := by simp [Lit.sameKey]
      rw [done_same left s r hn, hg, hl, e]
      simp
      omega
    · rw [if_neg hg] at hf
      have e : (Lit.string g.name).sameKey (.string s) = false := by simpa [Lit.sameKey] using hg
      rw [ih hs1.2 hf, e]
      simp
      omega
theorem done_le (left : Lit → Bool) (fs : List Fl) : doneF left fs ≤ sizeF fs := by
  induction fs with
  | nil => exact Nat.le_refl _
  | cons g r ih =>
    rw [done_cons]
    have e : sizeF (g :: r) = g.data.length + sizeF r := by simp [sizeF]
    split <;> omega

section
variable {S : Nat → Prop} {q mb l : Nat} {m : Dk} {kp : Int} {L : List (List UInt8 × Value)} {G : List UInt8 → Option FM}
theorem PDat.has {w : World} (h : PDat w S q m mb l kp L G) (f : Fl) (hf : f ∈ m.files) : Maps.has (mapD L) (.string f.name) = true := by
  obtain ⟨g, hg⟩ := look_mem_some m.files f hf
  obtain ⟨x, _, _, hx⟩ := h.tied.yes hg
  rw [mapD_has, hx]
  rfl

set_option maxRecDepth 100000 in
set_option maxHeartbeats 2000000 in
theorem psize_any (W : World) (h : PDat W S q m mb l kp L G) (hO : sizeF m.files ≤ 1000000) :
    Calls Tryz.prog 24 #[.pointer (some ⟨q, 0, none⟩)] W fun e W' => e = .returned (.int .i64 ((sizeF m.files : Nat) : Int)) ∧ Below W.heap.size W W' := by
  have c1 : W.cell? ⟨q, 1, none⟩ = some (.map (some mb)) := h.blk.cell 1
  have hmap := h.map
  have HH := Lib.hid h
  have HO := Lib.hid hO
  clear h hO
  go_enter Tryz.func24, Tryz.ntmps24
  go_wp2_with (first | (at_range; refine wpList_range_own _ rfl _ 53 rfl 9 76 (Maps.string_keyed Tryz.underlying9) Tryz.underlying53 rawR mb L.length (mapD L) rfl hmap ?_; intro w0 hrg0 hg0 hs0) | go_in)
  go_frame
  have hb0 : Below W.heap.size W w0 := (Below.refl _ W).grown hg0 (Nat.le_refl _) (fun q hq => by cases hq)
  have HR0 := Lib.hid (And.intro hrg0 hb0)
  clear hrg0 hg0 hs0 hb0 c1
  go_loopw [3] (fun v wr => ∃ left cnt, ∃ u : Nat, v = .int .i64 (u : Int) ∧ wr.ranges Tryz.prog 9 rawR mb W.heap.size L.length (mapD L) left cnt ∧ Below W.heap.size W wr ∧ Hid (u = doneF left m.files)) (fun _ wr => wr.rangeLeft mb W.heap.size)
  case atStart => exact ⟨_, _, 0, rfl, HR0.out.1, HR0.out.2, Lib.hid (done_start _ _ fun f hf => HH.out.has f hf).symm⟩
  case round =>
    obtain ⟨left, cnt, u, rfl, hrg, hb, HU⟩ := hrel
    have hu : u ≤ 1000000 := by have h1 := HU.out; have h2 := done_le left m.files; have h3 := HO.out; omega
    go_wp2_with (first | (at_next; refine wpList_next_mapS _ rfl _ rfl 9 Tryz.underlying9 mb W.heap.size L.length L left cnt rfl hrg ?_ ?_) | go_in)
    · intro hc0 hl0
      have HE : Hid (u = sizeF m.files) := Lib.hid (by rw [HU.out, done_end left m.files hl0])
      clear hrg hl0
      go_wp2_with fail
      go_ret
      exact ⟨by rw [HE.out]; rfl, hb⟩
    · intro s v w1 cnt1 hls hlk hrg1 hlt hg1 hs1 hen
      have hb1 : Below W.heap.size W w1 := hb.grown hg1 hb.size (fun q hq => by cases hq; exact Nat.le_refl _)
      obtain ⟨x, hx, rfl, hxf⟩ := HH.out.tied.looked hlk
      have hat := FM.turn (HH.out.at_ s x hx) (Turn.of_below hb1 : Turn (fun _ => False) W w1) (fun k hk e => e.elim)
      have c0 : w1.cell? ⟨x.g, 0, none⟩ = some (.slice x.A x.f.data.length x.c) := hat.1.cell 0
      have HST := Lib.hid (done_step left s m.files x.f HH.out.srt hxf hls)
      have HB := Lib.hid hb1
      have HRG := Lib.hid (And.intro hrg hrg1)
      obtain ⟨g, hgx⟩ : ∃ g, x.g = g := ⟨_, rfl⟩
      obtain ⟨A, hA⟩ : ∃ A, x.A = A := ⟨_, rfl⟩
      obtain ⟨c, hc⟩ : ∃ c, x.c = c := ⟨_, rfl⟩
      obtain ⟨n, hn⟩ : ∃ n, x.f.data.length = n := ⟨_, rfl⟩
      rw [hgx, hA, hc, hn] at c0
      rw [hgx] at hen ⊢
      rw [hn] at HST
      have HU2 : Hid (u + n = doneF (fun z => left z && !z.sameKey (.string s)) m.files) := Lib.hid (by rw [HST.out, ← HU.out])
      have hn2 : n ≤ 1000000 := by have h1 := HU2.out; have h2 := done_le (fun z => left z && !z.sameKey (.string s)) m.files; have h3 := HO.out; omega
      clear hrg hrg1 hg1 hs1 hb1 hat hgx hA hc hn hx hxf hlk hls hb hmap
      go_wp2_with fail
      go_roundw
      case rel => exact ⟨_, cnt1, u + n, by go_num, HRG.out.2, HB.out, HU2⟩
      case measure => rw [HRG.out.2.left_eq, HRG.out.1.left_eq]; omega
end

end Go.Proofs.YthjikbhjciphiaaGreatDoor

/-
  The program's disk: a crash.
-/
namespace Go.Proofs.YthjikbhjciphiaaGreatDoor
open Go.RowKit
set_option linter.unusedVariables false
set_option linter.unusedSimpArgs false

theorem Turn.grown {w w' : World} {g : Nat} (h : Turn (fun k => k = g) w w') : w.grownBy w' (some g) := ⟨h.os, h.tape, h.output, h.size, fun k hk hne => h.block k hk fun e => hne (by rw [e])⟩
theorem turn_of_grown {w w' : World} {g : Nat} (h : w.grownBy w' (some g)) : Turn (fun k => k = g) w w' := ⟨h.os, h.tape, h.output, h.size, fun k hk hne => h.block k hk fun e => hne (by cases e; rfl)⟩

theorem turn_new {S : Nat → Prop} {W w w' : World} {r : Nat} (h : Turn S W w) (k : Turn (fun j => j = r) w w') (hr : W.heap.size ≤ r) : Turn S W w' :=
  ⟨k.os.trans h.os, k.tape.trans h.tape, k.output.trans h.output, Nat.le_trans h.size k.size, fun j hj hs => (k.block j (Nat.lt_of_lt_of_le hj h.size) (fun e => by omega)).trans (h.block j hj hs)⟩

/-- The files in memory while some are still to be cut. -/
def cutG (keep : Int) (left : Lit → Bool) (G : List UInt8 → Option FM) : List UInt8 → Option FM := fun s => (G s).map fun x => if left (.string s) then x else x.cut keep
theorem cutG_is {keep : Int} {left : Lit → Bool} {G : List UInt8 → Option FM} {s : List UInt8} {x : FM} (h : cutG keep left G s = some x) : ∃ y, G s = some y ∧ (x = y ∨ x = y.cut keep) := by
  unfold cutG at h
  cases hg : G s with
  | none => rw [hg] at h; cases h
  | some y =>
    rw [hg] at h
    refine ⟨y, rfl, ?_⟩
    have e := Option.some.inj h
    cases hl : left (.string s)
    · rw [hl] at e; exact .inr e.symm
    · rw [hl] at e; exact .inl e.symm
theorem cutG_blks {keep : Int} {left : Lit → Bool} {G : List UInt8 → Option FM} {s : List UInt8} {x : FM} (h : cutG keep left G s = some x) : ∃ y, G s = some y ∧ (∀ k, x.blks k ↔ y.blks k) ∧ x.A = y.A ∧ x.g = y.g := by
  obtain ⟨y, hy, rfl | rfl⟩ := cutG_is h
  · exact ⟨_, hy, fun k => Iff.rfl, rfl, rfl⟩
  · exact ⟨_, hy, fun k => Iff.rfl, rfl, rfl⟩
theorem SepG.cut {S : Nat → Prop} {q mb : Nat} {G : List UInt8 → Option FM} (h : SepG S q mb G) (keep : Int) (left : Lit → Bool) : SepG S q mb (cutG keep left G) := by
  refine ⟨fun s x k hx hk => ?_, fun s t x y k hst hx hy hk hk2 => ?_, fun s x a hx ha => ?_⟩
  · obtain ⟨x', h1, h2, _⟩ := cutG_blks hx
    exact h.inS s x' k h1 ((h2 k).1 hk)
  · obtain ⟨x', h1, h2, _⟩ := cutG_blks hx
    obtain ⟨y', h3, h4, _⟩ := cutG_blks hy
    exact h.apart s t x' y' k hst h1 h3 ((h2 k).1 hk) ((h4 k).1 hk2)
  · obtain ⟨x', h1, h2, h3, h4⟩ := cutG_blks hx
    rw [h4]
    exact h.two s x' a h1 (by rw [← h3]; exact ha)
theorem cutG_here {keep : Int} {left : Lit → Bool} {G : List UInt8 → Option FM} {s : List UInt8} {x : FM} (hx : G s = some x) (hl : left (.string s) = true) : cutG keep left G s = some x := by
  unfold cutG
  rw [hx, hl]
  rfl
theorem cut_start {w : World} {keep : Int} {left : Lit → Bool} {G : List UInt8 → Option FM} (h : AtG w G) (hl : ∀ s x, G s = some x → left (.string s) = true) : AtG w (cutG keep left G) := by
  intro s x hx
  obtain ⟨y, hy, _⟩ := cutG_is hx
  rw [cutG_here hy (hl s y hy)] at hx
  cases hx
  exact h s _ hy
theorem cut_step {w1 w2 : World} {S : Nat → Prop} {q mb : Nat} {keep : Int} {left : Lit → Bool} {G : List UInt8 → Option FM} {s : List UInt8} {x : FM} (h : AtG w1 (cutG keep left G)) (hsep : SepG S q mb G) (hx : G s = some x) (hc : (x.cut keep).at_ w2) (ht : Turn (fun k => k = x.g) w1 w2) :
    AtG w2 (cutG keep (fun z => left z && !z.sameKey (.string s)) G) := by
  intro t y hy
  by_cases hts : t = s
  · subst hts
    unfold cutG at hy
    have e : (Lit.string t).sameKey (.string t) = true := by simp [Lit.sameKey]
    rw [hx] at hy
    simp only [e, Option.map_some, Bool.not_true, Bool.and_false, Bool.false_eq_true, if_false] at hy
    rw [← Option.some.inj hy]
    exact hc
  · have e : (Lit.string t).sameKey (.string s) = false := by simpa [Lit.sameKey] using hts
    have hy2 : cutG keep left G t = some y := by
      unfold cutG at hy ⊢
      simpa [e] using hy
    obtain ⟨y', h1, h2, _⟩ := cutG_blks hy2
    refine FM.turn (h t y hy2) ht fun k hk hkx => ?_
    exact hsep.apart t s y' x k hts h1 hx ((h2 k).1 hk) (by rw [hkx]; exact .inl rfl)
theorem Tied.cut {L : List (List UInt8 × Value)} {G : List UInt8 → Option FM} {fs : List Fl} (h : Tied L G fs) (keep : Int) (left : Lit → Bool) (hl : ∀ kl, left kl = false) : Tied L (cutG keep left G) (fs.map (cutF keep)) := by
  have e : ∀ s, cutG keep left G s = (G s).map (FM.cut keep) := fun s => by
    unfold cutG
    simp only [hl, Bool.false_eq_true, if_false]
  refine ⟨fun s => ?_, fun s => ?_⟩
  · rw [h.look, e, Option.map_map]
    cases G s <;> rfl
  · rw [look_map (cutF keep) fs (fun f => rfl), h.file, e, Option.map_map, Option.map_map]
    rfl

section
variable {S : Nat → Prop} {q mb l : Nat} {m : Dk} {kp : Int} {L : List (List UInt8 × Value)} {G : List UInt8 → Option FM}
theorem PDat.small {w : World} (h : PDat w S q m mb l kp L G) {k : Nat} (hO : GoodD m) {s : List UInt8} {x : FM} (hx : G s = some x) : x.f.data.length ≤ 100000 ∧ x.f.sure ≤ x.f.data.length := by
  have h1 := h.tied.file s
  rw [hx] at h1
  have h2 := look_mem s m.files x.f h1
  exact ⟨Nat.le_trans (mem_size m.files x.f h2) hO.2.1, hO.2.2 x.f h2⟩

set_option maxRecDepth 100000 in
set_option maxHeartbeats 2000000 in
theorem pcrash_any (W : World) (keep : Int) (h : PDat W S q m mb l kp L G) (hO : GoodD m) :
    Calls Tryz.prog 17 #[.pointer (some ⟨q, 0, none⟩), .int .i64 keep] W fun e W' => e = .returned (.tuple #[]) ∧ (∃ G', PDat W' S q (crashD keep m) mb 0 0 L G') ∧ Turn S W W' := by
  have c1 : W.cell? ⟨q, 1, none⟩ = some (.map (some mb)) := h.blk.cell 1
  have hmap := h.map
  have HH := Lib.hid h
  have HO := Lib.hid hO
  clear h hO
  go_enter Tryz.func17, Tryz.ntmps17
  go_wp2_with (first | (at_range; refine wpList_range_own _ rfl _ 53 rfl 9 76 (Maps.string_keyed Tryz.underlying9) Tryz.underlying53 rawR mb L.length (mapD L) rfl hmap ?_; intro w0 hrg0 hg0 hs0) | go_in)
  go_frame
  have ht0 : Below W.heap.size W w0 := (Below.refl _ W).grown hg0 (Nat.le_refl _) (fun q hq => by cases hq)
  have HR0 := Lib.hid (And.intro hrg0 (And.intro ht0 hs0))
  clear hrg0 hg0 hs0 ht0 c1
  go_loopw [] (fun wr => ∃ left cnt, wr.ranges Tryz.prog 9 rawR mb W.heap.size L.length (mapD L) left cnt ∧ AtG wr (cutG keep left G) ∧ Blk wr q 57 (dpL m mb l kp) ∧ Turn S W wr) (fun wr => wr.rangeLeft mb W.heap.size)
  case atStart =>
    obtain ⟨h1, h2, h3⟩ := HR0.out
    have ht : Turn (fun _ => False) W w0 := Turn.of_below h2
    refine ⟨_, _, h1, cut_start (HH.out.at_.turn ht (fun s x k _ _ e => e.elim)) (fun s x hx => ?_), ht.blk HH.out.blk (fun e => e.elim), Turn.of_below h2⟩
    rw [mapD_has, HH.out.tied.look, hx]
    rfl
  case round =>
    obtain ⟨left, cnt, hrg, hat, hbk, htu⟩ := hrel
    go_wp2_with (first | (at_next; refine wpList_next_mapS _ rfl _ rfl 9 Tryz.underlying9 mb W.heap.size L.length L left cnt rfl hrg ?_ ?_) | go_in)
    · intro hc0 hl0
      have hth : wr.there q 3 3 := dp_there hbk 3 3 (by show 6 ≤ 7; omega)
      have HE := Lib.hid (And.intro (World.ranges.owns hrg) (And.intro hat (And.intro hbk (And.intro htu hl0))))
      have hB3 := ((hbk.set 3 (.bool false)).set 4 (.int .u64 0)).set 5 (.int .i64 0)
      have c6 : (wr.setCells q 3 [.bool false, .int .u64 0, .int .i64 0]).cell? ⟨q, 6, none⟩ = some (.bool m.down) := hB3.cell 6
      have z6 : (wr.setCells q 3 [.bool false, .int .u64 0, .int .i64 0]).frozen? ⟨q, 6, none⟩ = false := hB3.frozen 6
      clear hrg hat htu hl0 hbk hB3
      go_wp2_with (refine wpList_store_list rfl 55 _ _ rfl q 3 [.bool false, .int .u64 0, .int .i64 0] rfl rfl hth (by kernel_rfl) (by simp [Value.oneCell']) ?_)
      go_end0
      obtain ⟨hmp, hat, hbk, htu, hl0⟩ := HE.out
      have ht2 : Turn (fun k => k = q) wr ((wr.setCells q 3 [.bool false, .int .u64 0, .int .i64 0]).setCell ⟨q, 6, none⟩ (.bool true)) :=
        ((((Turn.refl (fun k => k = q) wr).setCell (p := ⟨q, 3, none⟩) rfl _).setCell (p := ⟨q, 4, none⟩) rfl _).setCell (p := ⟨q, 5, none⟩) rfl _).setCell (p := ⟨q, 6, none⟩) rfl _
      have hB4 := (((hbk.set 3 (.bool false)).set 4 (.int .u64 0)).set 5 (.int .i64 0)).set 6 (.bool true)
      have h := HH.out
      refine ⟨rfl, ⟨cutG keep left G, hB4, fun e => (by cases e), by omega, (MapS.tight hmp).turn ht2 (fun e => h.ne e.symm), h.tied.cut keep left hl0, hat.turn ht2 (fun s x k hx hk e => ?_), h.sep.cut keep left, srt_map (cutF keep) m.files (fun f => rfl) h.srt, h.ne, h.sq, h.sm, fun k hk => Nat.lt_of_lt_of_le (h.lt k hk) (htu.trans (ht2.mono fun k e => by rw [e]; exact h.sq)).size⟩, htu.trans (ht2.mono fun k e => by rw [e]; exact h.sq)⟩
      obtain ⟨y, h1, h2, _⟩ := cutG_blks hx
      exact (h.sep.inS s y k h1 ((h2 k).1 hk)).2.1 e
    · intro s v w1 cnt1 hls hlk hrg1 hlt hg1 hs1 hen
      obtain ⟨x, hx, rfl, hxf⟩ := HH.out.tied.looked hlk
      have htr := turn_of_grown hg1
      have hsep := HH.out.sep
      have hlt2 := HH.out.lt
      have hr : ∀ s x k, G s = some x → x.blks k → k ≠ W.heap.size := fun s x k hx hk e => by have := hlt2 k (hsep.inS s x k hx hk).1; omega
      have hat1 : AtG w1 (cutG keep left G) := hat.turn htr fun s y k hy hk e => by
        obtain ⟨y', h1, h2, _⟩ := cutG_blks hy
        exact hr s y' k h1 ((h2 k).1 hk) e
      have hx1 := hat1 s x (cutG_here hx hls)
      have hsm := HH.out.small (k := 0) HO.out hx
      have hcut := pcut_any x w1 keep hx1 hsm.1 hsm.2 (hsep.two s x · hx)
      have HRG := Lib.hid (And.intro hrg (And.intro hrg1 (And.intro hat1 (And.intro hlt (And.intro hx hls)))))
      have hq1 : q ≠ W.heap.size := fun e => by have := hlt2 q HH.out.sq; omega
      have HB1 : Hid (Blk w1 q 57 (dpL m mb l kp) ∧ Turn S W w1) := Lib.hid ⟨htr.blk hbk hq1, turn_new htu htr (Nat.le_refl _)⟩
      clear hrg hrg1 hat hat1 hg1 hs1 htr hlk hxf hx1 hsm hr hlt2 hbk htu hls
      go_wp2_with fail
      refine hcut.mono ?_
      rintro e w2 ⟨rfl, hc2, ht2⟩
      have HC := Lib.hid (And.intro hc2 ht2)
      clear hcut hc2 ht2
      go_wp2_with fail
      obtain ⟨hrg, hrg1, hat1, hlt, hx, hls⟩ := HRG.out
      obtain ⟨hbk1, htu1⟩ := HB1.out
      obtain ⟨hc2, ht2⟩ := HC.out
      have hxS := HH.out.sep.inS s x x.g hx (.inl rfl)
      have hxl := HH.out.lt x.g hxS.1
      have hrg2 := hrg1.kept ht2.grown (fun e => hxS.2.2 (by cases e; rfl)) (fun e => by have := Option.some.inj e; omega)
      go_roundw
      case rel => exact ⟨_, cnt1, hrg2, cut_step hat1 HH.out.sep hx hc2 ht2, ht2.blk hbk1 (fun e => hxS.2.1 e.symm), htu1.trans (ht2.mono fun k e => by rw [e]; exact hxS.1)⟩
      case measure => rw [hrg2.left_eq, hrg.left_eq]; omega
end

end Go.Proofs.YthjikbhjciphiaaGreatDoor

/-
  The program's disk: does a call begin?
-/
namespace Go.Proofs.YthjikbhjciphiaaGreatDoor
open Go.RowKit
set_option linter.unusedVariables false
set_option linter.unusedSimpArgs false

/-- How a disk stands behind a call that its arming lets by, or not. -/
def sprD (m : Dk) : Dk := if m.armed then (if m.left = 0 then crashD m.keep m else ⟨m.files, m.cap, m.calls, m.armed, m.left - 1, m.keep, m.down⟩) else m

section
variable {S : Nat → Prop} {q mb l : Nat} {m : Dk} {kp : Int} {L : List (List UInt8 × Value)} {G : List UInt8 → Option FM}
set_option maxRecDepth 100000 in
set_option maxHeartbeats 2000000 in
theorem pspr_any (W : World) (h : PDat W S q m mb l kp L G) (hO : GoodD m) (hlf : m.left < 18446744073709551616) :
    Calls Tryz.prog 134 #[.pointer (some ⟨q, 0, none⟩)] W fun e W' => e = .returned (.bool (m.armed && decide (m.left = 0))) ∧ PD W' S q (sprD m) ∧ Turn S W W' := by
  have c3 : W.cell? ⟨q, 3, none⟩ = some (.bool m.armed) := h.blk.cell 3
  have c4 : W.cell? ⟨q, 4, none⟩ = some (.int .u64 ((l : Nat) : Int)) := h.blk.cell 4
  have c5 : W.cell? ⟨q, 5, none⟩ = some (.int .i64 kp) := h.blk.cell 5
  have z4 := h.blk.frozen 4
  have hcr := pcrash_any W kp h hO
  have HH := Lib.hid h
  have harm := h.arm
  clear h
  cases ha : m.armed
  · have HE : Hid (sprD m = m) := Lib.hid (by unfold sprD; rw [ha]; rfl)
    rw [ha] at c3
    clear hcr harm ha c4 c5 z4
    go_enter Tryz.func134, Tryz.ntmps134
    go_wp2
    go_ret
    exact ⟨rfl, by rw [HE.out]; exact ⟨_, _, _, _, _, HH.out⟩, Turn.refl _ _⟩
  · obtain ⟨hl1, hk1⟩ := harm ha
    rw [ha] at c3
    by_cases h0 : m.left = 0
    · have HE : Hid (sprD m = crashD m.keep m) := Lib.hid (by unfold sprD; rw [ha, if_pos rfl, if_pos h0])
      have HK := Lib.hid hk1
      obtain rfl : l = 0 := hl1.trans h0
      have HD : Hid (decide (m.left = 0) = true) := Lib.hid (decide_eq_true h0)
      clear ha harm hl1 h0 hk1
      go_enter Tryz.func134, Tryz.ntmps134
      go_wp2_with fail
      refine hcr.mono ?_
      rintro e W1 ⟨rfl, ⟨G', h1⟩, h2⟩
      have H1 := Lib.hid (And.intro h1 h2)
      clear hcr h1 h2
      go_wp2_with fail
      go_ret
      exact ⟨by rw [HD.out]; rfl, by rw [HE.out, ← HK.out]; exact ⟨_, _, _, _, _, H1.out.1⟩, H1.out.2⟩
    · have HE : Hid (sprD m = ⟨m.files, m.cap, m.calls, m.armed, m.left - 1, m.keep, m.down⟩) := Lib.hid (by unfold sprD; rw [ha, if_pos rfl, if_neg h0])
      have HK := Lib.hid hk1
      have HA := Lib.hid ha
      have HD : Hid (decide (m.left = 0) = false) := Lib.hid (decide_eq_false h0)
      obtain ⟨l2, hl2⟩ : ∃ l2, l = l2 + 1 := ⟨l - 1, by omega⟩
      subst hl2
      have HL : Hid (l2 = m.left - 1) := Lib.hid (by omega)
      have hlt : l2 < 18446744073709551615 := by omega
      have d0 : (((l2 + 1 : Nat) : Int) == 0) = false := by simp; omega
      have d1 : (((l2 + 1 : Nat) : Int)) - 1 = ((l2 : Nat) : Int) := by omega
      clear hcr harm ha hl1 h0 hk1
      go_enter Tryz.func134, Tryz.ntmps134
      go_wp2_with fail
      go_ret
      have hB := HH.out.blk.set 4 (.int .u64 ((l2 : Nat) : Int))
      have ht : Turn (fun k => k = q) W (W.setCell ⟨q, 4, none⟩ (.int .u64 ((l2 : Nat) : Int))) := (Turn.refl (fun k => k = q) W).setCell (p := ⟨q, 4, none⟩) rfl _
      refine ⟨by rw [HD.out]; rfl, ?_, ht.mono fun k e => by rw [e]; exact HH.out.sq⟩
      rw [HE.out]
      exact ⟨mb, l2, kp, L, G, HH.out.cells ht hB rfl (fun _ => ⟨HL.out, HK.out⟩) (by omega)⟩

/-- What a call's beginning answers. -/
def beginR (m : Dk) (ns : List (List UInt8)) : Int := if (beginD m).1 then (if ns.all targetB then 0 else 7) else 19
/-- Texts in a block of their own. -/
def Nms9 (w : World) (b : Nat) (ns : List (List UInt8)) : Prop := ∀ (j : Nat) (s : List UInt8), ns[j]? = some s → w.cell? ⟨b, 0 + j, none⟩ = some (.string ⟨s.toArray⟩)
theorem Nms9.turn {w w' : World} {T : Nat → Prop} {b : Nat} {ns : List (List UInt8)} (h : Nms9 w b ns) (ht : Turn T w w') (hb : ¬ T b) : Nms9 w' b ns := fun j s hs => ht.at_ (h j s hs) hb
theorem all_take (ns : List (List UInt8)) (k : Nat) (s : List UInt8) (h : ns[k]? = some s) : (ns.take (k + 1)).all targetB = ((ns.take k).all targetB && targetB s) := by
  rw [List.take_add_one, h, List.all_append]
  simp
theorem all_not (ns : List (List UInt8)) (k : Nat) (s : List UInt8) (h : ns[k]? = some s) (hs : targetB s = false) : ns.all targetB = false := by
  cases hx : ns.all targetB
  · rfl
  · rw [List.all_eq_true] at hx
    rw [hx s (List.mem_of_getElem? h)] at hs
    cases hs

set_option maxRecDepth 100000 in
set_option maxHeartbeats 2000000 in
theorem pbegin_any (W : World) (b : Nat) (ns : List (List UInt8)) (n : Nat) (h : PD W S q m) (hO : GoodD m) (hlf : m.left < 18446744073709551616) (hcl : m.calls ≤ 1000000) (hn : ns.length = n) (hn2 : n ≤ 10) (hns : ∀ s ∈ ns, s.length ≤ 10000) (hb : ¬ S b) (hT : Nms9 W b ns) :
    Calls Tryz.prog 91 #[.pointer (some ⟨q, 0, none⟩), .slice (some ⟨b, 0, none⟩) n n] W fun e W' => e = .returned (.int .i64 (beginR m ns)) ∧ PD W' S q (beginD m).2 ∧ Turn S W W' := by
  obtain ⟨mb, l, kp, L, G, h⟩ := h
  have hdn := pdown_any W h
  have hsp := pspr_any W h hO hlf
  have HH := Lib.hid h
  have HT := Lib.hid (And.intro hb (And.intro hT (And.intro hn hns)))
  clear h hb hT hn hns
  cases hd : m.down
  · rw [hd] at hdn
    cases ha : (m.armed && decide (m.left = 0))
    · rw [ha] at hsp
      have HE : Hid ((beginD m).1 = true ∧ (beginD m).2 = ⟨(sprD m).files, (sprD m).cap, m.calls + 1, (sprD m).armed, (sprD m).left, (sprD m).keep, (sprD m).down⟩ ∧ (sprD m).calls = m.calls) := Lib.hid (by
        unfold beginD sprD
        rw [hd, ha]
        cases h1 : m.armed
        · refine ⟨rfl, ?_, rfl⟩
          simp [h1, hd]
        · have h2 : ¬ m.left = 0 := fun e => by rw [h1, e] at ha; cases ha
          simp [h1, h2, hd])
      clear ha hd
      go_enter Tryz.func91, Tryz.ntmps91
      go_wp2_with fail
      refine hdn.mono ?_
      rintro e W1 ⟨rfl, rfl⟩
      clear hdn
      go_wp2_with fail
      refine hsp.mono ?_
      rintro e W2 ⟨rfl, ⟨mb2, l2, kp2, L2, G2, h2⟩, ht2⟩
      have c2 : W2.cell? ⟨q, 2, none⟩ = some (.int .u64 (((sprD m).calls : Nat) : Int)) := h2.blk.cell 2
      have z2 := h2.blk.frozen 2
      rw [HE.out.2.2] at c2
      obtain ⟨cl, hcl2⟩ : ∃ cl, m.calls = cl := ⟨_, rfl⟩
      have HC := Lib.hid hcl2
      rw [hcl2] at c2 hcl
      have H2 := Lib.hid (And.intro h2 ht2)
      clear hsp h2 ht2 hcl2
      go_wp2_with fail
      have H3 : Hid (PD (W2.setCell ⟨q, 2, none⟩ (.int .u64 ((cl : Nat) + 1))) S q (beginD m).2 ∧ Turn S W1 (W2.setCell ⟨q, 2, none⟩ (.int .u64 ((cl : Nat) + 1)))) := Lib.hid (by
        obtain ⟨h2, ht2⟩ := H2.out
        have hB := h2.blk.set 2 (.int .u64 ((cl : Nat) + 1))
        have ht : Turn (fun k => k = q) W2 (W2.setCell ⟨q, 2, none⟩ (.int .u64 ((cl : Nat) + 1))) := (Turn.refl (fun k => k = q) W2).setCell (p := ⟨q, 2, none⟩) rfl _
        refine ⟨?_, ht2.trans (ht.mono fun k e => by rw [e]; exact h2.sq)⟩
        rw [HE.out.2.1]
        refine ⟨mb2, l2, kp2, L2, G2, h2.cells ht ?_ rfl h2.arm h2.left⟩
        rw [HC.out]
        exact hB)
      revert H3
      generalize W2.setCell ⟨q, 2, none⟩ (.int .u64 ((cl : Nat) + 1)) = w3
      intro H3
      clear c2 z2 H2
      go_loopw [22] (fun i wr => ∃ k : Nat, k ≤ n ∧ i = .int .i64 k ∧ Hid ((ns.take k).all targetB = true) ∧ Below w3.heap.size w3 wr) (fun i _ => n - (intOf i).toNat)
      case atStart => exact ⟨0, Nat.zero_le _, rfl, Lib.hid rfl, Below.refl _ _⟩
      case round =>
        obtain ⟨k, hk, rfl, HA, hbl⟩ := hrel
        have hF : ∀ w', Below w3.heap.size w3 w' → PD w' S q (beginD m).2 ∧ Turn S W1 w' := fun w' hb => ⟨H3.out.1.below hb, H3.out.2.trans (Turn.of_below hb)⟩
        have HF := Lib.hid hF
        clear hF
        by_cases hlt : k < n
        · obtain ⟨hb, hT, hnn, hns⟩ := HT.out
          obtain ⟨s, hs⟩ : ∃ s, ns[k]? = some s := ⟨_, List.getElem?_eq_getElem (by omega)⟩
          have c0 : wr.cell? ⟨b, 0 + k, none⟩ = some (.string ⟨s.toArray⟩) := (hT.turn (HF.out wr hbl).2 hb) k s hs
          have hsl := hns s (List.mem_of_getElem? hs)
          have hta := target_any ⟨s.toArray⟩ (by show s.toArray.size ≤ _; unfold maxLen; simp; omega) wr
          have e1 : (⟨s.toArray⟩ : ByteArray).data.toList = s := by simp
          rw [e1] at hta
          obtain ⟨T, hT2⟩ : ∃ T : ByteArray, ⟨s.toArray⟩ = T := ⟨_, rfl⟩
          rw [hT2] at c0 hta
          have HS := Lib.hid hs
          rw [Nat.zero_add] at c0
          have i0 : (0 : Int) ≤ (k : Int) := by omega
          have i1 : (k : Int) < (n : Int) := by omega
          clear hT2 e1 hsl hs hb hT hnn hns
          go_wp2_with fail
          refine hta.mono ?_
          rintro e w4 ⟨rfl, hb4⟩
          have hb5 : Below w3.heap.size w3 w4 := bthen hbl hb4
          clear hta hb4 c0
          cases ht : targetB s
          · have HR : Hid (beginR m ns = 7) := Lib.hid (by unfold beginR; rw [HE.out.1, all_not ns k s HS.out ht]; rfl)
            clear ht
            go_wp2_with fail
            go_ret
            exact ⟨by rw [HR.out]; rfl, HF.out w4 hb5⟩
          · have HA2 : Hid ((ns.take (k + 1)).all targetB = true) := Lib.hid (by rw [all_take ns k s HS.out, HA.out, ht]; rfl)
            clear ht
            go_wp2_with fail
            go_roundw
            case rel => exact ⟨k + 1, by omega, by go_num, HA2, hb5⟩
            case measure => simp [intOf]; omega
        · have HR : Hid (beginR m ns = 0) := Lib.hid (by
            have h1 := HA.out
            rw [List.take_of_length_le (by have := HT.out.2.2.1; omega)] at h1
            unfold beginR; rw [HE.out.1, h1]; rfl)
          go_wp2_with fail
          go_ret
          exact ⟨by rw [HR.out]; rfl, HF.out wr hbl⟩
    · rw [ha] at hsp
      have HE : Hid ((beginD m).1 = false ∧ (beginD m).2 = sprD m) := Lib.hid (by
        have h1 : m.armed = true ∧ m.left = 0 := by simpa using ha
        unfold beginD sprD
        rw [hd, ha, h1.1, if_pos rfl, if_pos h1.2]
        exact ⟨rfl, rfl⟩)
      clear ha hd
      go_enter Tryz.func91, Tryz.ntmps91
      go_wp2_with fail
      refine hdn.mono ?_
      rintro e W1 ⟨rfl, rfl⟩
      clear hdn
      go_wp2_with fail
      refine hsp.mono ?_
      rintro e W2 ⟨rfl, h2⟩
      have H2 := Lib.hid h2
      clear hsp h2
      go_wp2_with fail
      go_ret
      exact ⟨by unfold beginR; rw [HE.out.1]; rfl, by rw [HE.out.2]; exact H2.out⟩
  · rw [hd] at hdn
    have HE : Hid ((beginD m).1 = false ∧ (beginD m).2 = m) := Lib.hid (by unfold beginD; rw [hd]; exact ⟨rfl, rfl⟩)
    clear hd hsp
    go_enter Tryz.func91, Tryz.ntmps91
    go_wp2_with fail
    refine hdn.mono ?_
    rintro e W1 ⟨rfl, rfl⟩
    clear hdn
    go_wp2_with fail
    go_ret
    exact ⟨by unfold beginR; rw [HE.out.1]; rfl, by rw [HE.out.2]; exact ⟨_, _, _, _, _, HH.out⟩, Turn.refl _ _⟩
end

end Go.Proofs.YthjikbhjciphiaaGreatDoor

/-
  The program's disk: what a call leaves; Sync, Remove.
-/
namespace Go.Proofs.YthjikbhjciphiaaGreatDoor
open Go.RowKit
set_option linter.unusedVariables false
set_option linter.unusedSimpArgs false

theorem turn_of_map {w w' : World} {b : Nat} (h : w.mapTurned w' b) : Turn (fun k => k = b) w w' := by
  obtain ⟨es, clock, es', clock', hb, rfl⟩ := h
  exact ⟨rfl, rfl, rfl, by simp [Go.ChangeMaps.setBlock], fun k hk hne => Go.ChangeMaps.heap_setBlock_other hb _ hne⟩

section
variable {w w' : World} {S S' T : Nat → Prop} {q mb l : Nat} {m : Dk} {kp : Int} {L : List (List UInt8 × Value)} {G : List UInt8 → Option FM} {s : List UInt8} {x y : FM}
/-- A file turned in its place. -/
theorem PDat.set (h : PDat w S q m mb l kp L G) (hx : G s = some x) (hg : y.g = x.g) (hn : y.f.name = s) (ht : Turn T w w') (hT : ∀ k, T k → x.blks k) (hy : y.at_ w') (hS : ∀ k, S k → S' k) (hyS : ∀ k, y.blks k → x.blks k ∨ (w.heap.size ≤ k ∧ S' k)) (hl : ∀ k, S' k → k < w'.heap.size) (h3 : ∀ a, y.A = some a → a.block ≠ y.g) :
    PDat w' S' q (withFs m (withF y.f false m.files)) mb l kp L (upG G s y) := by
  have hxS := fun k hk => h.sep.inS s x k hx hk
  refine ⟨ht.blk h.blk (fun e => (hxS q (hT q e)).2.1 rfl), h.arm, h.left, h.map.turn ht (fun e => (hxS mb (hT mb e)).2.2 rfl), h.tied.set hx hg hn, h.at_.up ht (fun t z k hts hz hk hTk => h.sep.apart t s z x k hts hz hx hk (hT k hTk)) hy, h.sep.up hS (fun k hk => ?_) (fun t z k hts hz hk hyk => ?_) h3, srt_with y.f m.files false h.srt (fun e => by cases e), h.ne, hS q h.sq, hS mb h.sm, hl⟩
  · rcases hyS k hk with h1 | ⟨h1, h2⟩
    · have := hxS k h1
      exact ⟨hS k this.1, this.2⟩
    · exact ⟨h2, fun e => by have := h.lt q h.sq; omega, fun e => by have := h.lt mb h.sm; omega⟩
  · rcases hyS k hyk with h1 | ⟨h1, h2⟩
    · exact h.sep.apart t s z x k hts hz hx hk h1
    · have := h.lt k (h.sep.inS t z k hz hk).1
      omega
/-- A file put under a name. -/
theorem PDat.put (h : PDat w S q m mb l kp L G) (hn : y.f.name = s) (ht : Turn (fun k => k = mb) w w') (hmap : MapS w' Tryz.prog 9 mb (putM s (.pointer (some ⟨y.g, 0, none⟩)) L)) (hy : y.at_ w') (hS : ∀ k, S k → S' k) (hyS : ∀ k, y.blks k → S' k ∧ k ≠ q ∧ k ≠ mb) (hdis : ∀ t z k, t ≠ s → G t = some z → z.blks k → ¬ y.blks k) (hl : ∀ k, S' k → k < w'.heap.size) (h3 : ∀ a, y.A = some a → a.block ≠ y.g) :
    PDat w' S' q (withFs m (withF y.f false m.files)) mb l kp (putM s (.pointer (some ⟨y.g, 0, none⟩)) L) (upG G s y) :=
  ⟨ht.blk h.blk (fun e => h.ne e), h.arm, h.left, hmap, h.tied.put hn, h.at_.up ht (fun t z k hts hz hk e => (h.sep.inS t z k hz hk).2.2 e) hy, h.sep.up hS hyS hdis h3, srt_with y.f m.files false h.srt (fun e => by cases e), h.ne, hS q h.sq, hS mb h.sm, hl⟩
/-- A name taken out. -/
theorem PDat.del (h : PDat w S q m mb l kp L G) (ht : Turn (fun k => k = mb) w w') (hmap : MapS w' Tryz.prog 9 mb (delM s L)) : PDat w' S q (withFs m (withoutF s m.files)) mb l kp (delM s L) (dnG G s) :=
  ⟨ht.blk h.blk (fun e => h.ne e), h.arm, h.left, hmap, h.tied.del, AtG.dn (w := w') (AtG.turn (T := fun k => k = mb) h.at_ ht (fun t z k hz hk e => (h.sep.inS t z k hz hk).2.2 e)), h.sep.dn, srt_without s m.files h.srt, h.ne, h.sq, h.sm, fun k hk => Nat.lt_of_lt_of_le (h.lt k hk) ht.size⟩
theorem key_mk (s : ByteArray) (hs : s.size ≤ 10000) : keyOf Tryz.prog 9 (.string s) = some (.string s.data.toList) := Go.WideMaps.keyOf_string_mk Tryz.underlying9 (by unfold maxLen; omega)
end

/-- What a call answers that does not get past its beginning. -/
theorem do_stop (m : Dk) (s : Sp) (hk : isCall s = true) (h3 : s.kind ≠ 3) (h : beginR m [s.name] ≠ 0) : doD m s = (beginR m [s.name], (beginD m).2) := by
  have h1 : 1 ≤ s.kind ∧ s.kind ≤ 4 := by unfold isCall at hk; simpa using hk
  unfold doD
  rw [if_neg (by omega), if_neg (by omega), if_neg (by omega), hk]
  unfold beginR at h ⊢
  cases hb : (beginD m).1
  · rfl
  · rw [hb] at h
    cases ht : targetB s.name
    · unfold callD
      simp [ht]
    · exact absurd (by simp [ht]) h
theorem do_stop3 (m : Dk) (s : Sp) (hk : s.kind = 3) (h : beginR m [s.name, s.to] ≠ 0) : doD m s = (beginR m [s.name, s.to], (beginD m).2) := by
  unfold doD
  rw [if_neg (by omega), if_neg (by omega), if_neg (by omega), show isCall s = true by unfold isCall; rw [hk]; rfl]
  unfold beginR at h ⊢
  cases hb : (beginD m).1
  · rfl
  · rw [hb] at h
    cases ht : targetB s.name
    · unfold callD
      simp [ht]
    · cases ht2 : targetB s.to
      · unfold callD
        simp [ht, ht2, hk]
      · exact absurd (by simp [ht, ht2]) h
theorem begin_past (m : Dk) (ns : List (List UInt8)) (h : beginR m ns = 0) : (beginD m).1 = true ∧ ns.all targetB = true := by
  unfold beginR at h
  cases hb : (beginD m).1
  · rw [hb] at h; cases h
  · rw [hb] at h
    refine ⟨rfl, ?_⟩
    cases ht : ns.all targetB
    · rw [ht] at h; cases h
    · rfl

end Go.Proofs.YthjikbhjciphiaaGreatDoor
