/-
  The program's disk: a crash.
-/
import Derived.Test.YtnjkilmhphcocaaDpD
namespace Go.Proofs.Ytnjkilmhphcocaa
open Go.RowKit
set_option linter.unusedVariables false
set_option linter.unusedSimpArgs false

theorem Turn.grown {w w' : World} {g : Nat} (h : Turn (fun k => k = g) w w') : w.grownBy w' (some g) := ⟨h.os, h.tape, h.output, h.size, fun k hk hne => h.block k hk fun e => hne (by rw [e])⟩
theorem turn_of_grown {w w' : World} {g : Nat} (h : w.grownBy w' (some g)) : Turn (fun k => k = g) w w' := ⟨h.os, h.tape, h.output, h.size, fun k hk hne => h.block k hk fun e => hne (by cases e; rfl)⟩

theorem turn_new {S : Nat → Prop} {W w w' : World} {r : Nat} (h : Turn S W w) (k : Turn (fun j => j = r) w w') (hr : W.heap.size ≤ r) : Turn S W w' :=
  ⟨k.os.trans h.os, k.tape.trans h.tape, k.output.trans h.output, Nat.le_trans h.size k.size, fun j hj hs => (k.block j (Nat.lt_of_lt_of_le hj h.size) (fun e => by omega)).trans (h.block j hj hs)⟩

/-- The files in memory while some are still to be cut. -/
def cutG (keep : Int) (left : Lit → Bool) (G : List UInt8 → Option FM) : List UInt8 → Option FM := fun s => (G s).map fun x => if left (.string s) then x else x.cut keep
theorem cutG_is {keep : Int} {left : Lit → Bool} {G : List UInt8 → Option FM} {s : List UInt8} {x : FM} (h : cutG keep left G s = some x) : ∃ y, G s = some y ∧ (x = y ∨ x = y.cut keep) := by
  unfold cutG at h
  cases hg : G s with
  | none => rw [hg] at h; cases h
  | some y =>
    rw [hg] at h
    refine ⟨y, rfl, ?_⟩
    have e := Option.some.inj h
    cases hl : left (.string s)
    · rw [hl] at e; exact .inr e.symm
    · rw [hl] at e; exact .inl e.symm
theorem cutG_blks {keep : Int} {left : Lit → Bool} {G : List UInt8 → Option FM} {s : List UInt8} {x : FM} (h : cutG keep left G s = some x) : ∃ y, G s = some y ∧ (∀ k, x.blks k ↔ y.blks k) ∧ x.A = y.A ∧ x.g = y.g := by
  obtain ⟨y, hy, rfl | rfl⟩ := cutG_is h
  · exact ⟨_, hy, fun k => Iff.rfl, rfl, rfl⟩
  · exact ⟨_, hy, fun k => Iff.rfl, rfl, rfl⟩
theorem SepG.cut {S : Nat → Prop} {q mb : Nat} {G : List UInt8 → Option FM} (h : SepG S q mb G) (keep : Int) (left : Lit → Bool) : SepG S q mb (cutG keep left G) := by
  refine ⟨fun s x k hx hk => ?_, fun s t x y k hst hx hy hk hk2 => ?_, fun s x a hx ha => ?_⟩
  · obtain ⟨x', h1, h2, _⟩ := cutG_blks hx
    exact h.inS s x' k h1 ((h2 k).1 hk)
  · obtain ⟨x', h1, h2, _⟩ := cutG_blks hx
    obtain ⟨y', h3, h4, _⟩ := cutG_blks hy
    exact h.apart s t x' y' k hst h1 h3 ((h2 k).1 hk) ((h4 k).1 hk2)
  · obtain ⟨x', h1, h2, h3, h4⟩ := cutG_blks hx
    rw [h4]
    exact h.two s x' a h1 (by rw [← h3]; exact ha)
theorem cutG_here {keep : Int} {left : Lit → Bool} {G : List UInt8 → Option FM} {s : List UInt8} {x : FM} (hx : G s = some x) (hl : left (.string s) = true) : cutG keep left G s = some x := by
  unfold cutG
  rw [hx, hl]
  rfl
theorem cut_start {w : World} {keep : Int} {left : Lit → Bool} {G : List UInt8 → Option FM} (h : AtG w G) (hl : ∀ s x, G s = some x → left (.string s) = true) : AtG w (cutG keep left G) := by
  intro s x hx
  obtain ⟨y, hy, _⟩ := cutG_is hx
  rw [cutG_here hy (hl s y hy)] at hx
  cases hx
  exact h s _ hy
theorem cut_step {w1 w2 : World} {S : Nat → Prop} {q mb : Nat} {keep : Int} {left : Lit → Bool} {G : List UInt8 → Option FM} {s : List UInt8} {x : FM} (h : AtG w1 (cutG keep left G)) (hsep : SepG S q mb G) (hx : G s = some x) (hc : (x.cut keep).at_ w2) (ht : Turn (fun k => k = x.g) w1 w2) :
    AtG w2 (cutG keep (fun z => left z && !z.sameKey (.string s)) G) := by
  intro t y hy
  by_cases hts : t = s
  · subst hts
    unfold cutG at hy
    have e : (Lit.string t).sameKey (.string t) = true := by simp [Lit.sameKey]
    rw [hx] at hy
    simp only [e, Option.map_some, Bool.not_true, Bool.and_false, Bool.false_eq_true, if_false] at hy
    rw [← Option.some.inj hy]
    exact hc
  · have e : (Lit.string t).sameKey (.string s) = false := by simpa [Lit.sameKey] using hts
    have hy2 : cutG keep left G t = some y := by
      unfold cutG at hy ⊢
      simpa [e] using hy
    obtain ⟨y', h1, h2, _⟩ := cutG_blks hy2
    refine FM.turn (h t y hy2) ht fun k hk hkx => ?_
    exact hsep.apart t s y' x k hts h1 hx ((h2 k).1 hk) (by rw [hkx]; exact .inl rfl)
theorem Tied.cut {L : List (List UInt8 × Value)} {G : List UInt8 → Option FM} {fs : List Fl} (h : Tied L G fs) (keep : Int) (left : Lit → Bool) (hl : ∀ kl, left kl = false) : Tied L (cutG keep left G) (fs.map (cutF keep)) := by
  have e : ∀ s, cutG keep left G s = (G s).map (FM.cut keep) := fun s => by
    unfold cutG
    simp only [hl, Bool.false_eq_true, if_false]
  refine ⟨fun s => ?_, fun s => ?_⟩
  · rw [h.look, e, Option.map_map]
    cases G s <;> rfl
  · rw [look_map (cutF keep) fs (fun f => rfl), h.file, e, Option.map_map, Option.map_map]
    rfl

section
variable {S : Nat → Prop} {q mb l : Nat} {m : Dk} {kp : Int} {L : List (List UInt8 × Value)} {G : List UInt8 → Option FM}
theorem PDat.small {w : World} (h : PDat w S q m mb l kp L G) {k : Nat} (hO : GoodD m) {s : List UInt8} {x : FM} (hx : G s = some x) : x.f.data.length ≤ 100000 ∧ x.f.sure ≤ x.f.data.length := by
  have h1 := h.tied.file s
  rw [hx] at h1
  have h2 := look_mem s m.files x.f h1
  exact ⟨Nat.le_trans (mem_size m.files x.f h2) hO.2.1, hO.2.2 x.f h2⟩

set_option maxRecDepth 100000 in
set_option maxHeartbeats 2000000 in
theorem pcrash_any (W : World) (keep : Int) (h : PDat W S q m mb l kp L G) (hO : GoodD m) :
    Calls Try.prog 22 #[.pointer (some ⟨q, 0, none⟩), .int .i64 keep] W fun e W' => e = .returned (.tuple #[]) ∧ (∃ G', PDat W' S q (crashD keep m) mb 0 0 L G') ∧ Turn S W W' := by
  have c1 : W.cell? ⟨q, 1, none⟩ = some (.map (some mb)) := h.blk.cell 1
  have hmap := h.map
  have HH := Lib.hid h
  have HO := Lib.hid hO
  clear h hO
  go_enter Try.func22, Try.ntmps22
  go_wp2_with (first | (at_range; refine wpList_range_own _ rfl _ 57 rfl 9 67 (Maps.string_keyed Try.underlying9) Try.underlying57 rawR mb L.length (mapD L) rfl hmap ?_; intro w0 hrg0 hg0 hs0) | go_in)
  go_frame
  have ht0 : Below W.heap.size W w0 := (Below.refl _ W).grown hg0 (Nat.le_refl _) (fun q hq => by cases hq)
  have HR0 := Lib.hid (And.intro hrg0 (And.intro ht0 hs0))
  clear hrg0 hg0 hs0 ht0 c1
  go_loopw [] (fun wr => ∃ left cnt, wr.ranges Try.prog 9 rawR mb W.heap.size L.length (mapD L) left cnt ∧ AtG wr (cutG keep left G) ∧ Blk wr q 61 (dpL m mb l kp) ∧ Turn S W wr) (fun wr => wr.rangeLeft mb W.heap.size)
  case atStart =>
    obtain ⟨h1, h2, h3⟩ := HR0.out
    have ht : Turn (fun _ => False) W w0 := Turn.of_below h2
    refine ⟨_, _, h1, cut_start (HH.out.at_.turn ht (fun s x k _ _ e => e.elim)) (fun s x hx => ?_), ht.blk HH.out.blk (fun e => e.elim), Turn.of_below h2⟩
    rw [mapD_has, HH.out.tied.look, hx]
    rfl
  case round =>
    obtain ⟨left, cnt, hrg, hat, hbk, htu⟩ := hrel
    go_wp2_with (first | (at_next; refine wpList_next_mapS _ rfl _ rfl 9 Try.underlying9 mb W.heap.size L.length L left cnt rfl hrg ?_ ?_) | go_in)
    · intro hc0 hl0
      have hth : wr.there q 3 3 := dp_there hbk 3 3 (by show 6 ≤ 7; omega)
      have HE := Lib.hid (And.intro (World.ranges.owns hrg) (And.intro hat (And.intro hbk (And.intro htu hl0))))
      have hB3 := ((hbk.set 3 (.bool false)).set 4 (.int .u64 0)).set 5 (.int .i64 0)
      have c6 : (wr.setCells q 3 [.bool false, .int .u64 0, .int .i64 0]).cell? ⟨q, 6, none⟩ = some (.bool m.down) := hB3.cell 6
      have z6 : (wr.setCells q 3 [.bool false, .int .u64 0, .int .i64 0]).frozen? ⟨q, 6, none⟩ = false := hB3.frozen 6
      clear hrg hat htu hl0 hbk hB3
      go_wp2_with (refine wpList_store_list rfl 59 _ _ rfl q 3 [.bool false, .int .u64 0, .int .i64 0] rfl rfl hth (by kernel_rfl) (by simp [Value.oneCell']) ?_)
      go_end0
      obtain ⟨hmp, hat, hbk, htu, hl0⟩ := HE.out
      have ht2 : Turn (fun k => k = q) wr ((wr.setCells q 3 [.bool false, .int .u64 0, .int .i64 0]).setCell ⟨q, 6, none⟩ (.bool true)) :=
        ((((Turn.refl (fun k => k = q) wr).setCell (p := ⟨q, 3, none⟩) rfl _).setCell (p := ⟨q, 4, none⟩) rfl _).setCell (p := ⟨q, 5, none⟩) rfl _).setCell (p := ⟨q, 6, none⟩) rfl _
      have hB4 := (((hbk.set 3 (.bool false)).set 4 (.int .u64 0)).set 5 (.int .i64 0)).set 6 (.bool true)
      have h := HH.out
      refine ⟨rfl, ⟨cutG keep left G, hB4, fun e => (by cases e), by omega, (MapS.tight hmp).turn ht2 (fun e => h.ne e.symm), h.tied.cut keep left hl0, hat.turn ht2 (fun s x k hx hk e => ?_), h.sep.cut keep left, srt_map (cutF keep) m.files (fun f => rfl) h.srt, h.ne, h.sq, h.sm, fun k hk => Nat.lt_of_lt_of_le (h.lt k hk) (htu.trans (ht2.mono fun k e => by rw [e]; exact h.sq)).size⟩, htu.trans (ht2.mono fun k e => by rw [e]; exact h.sq)⟩
      obtain ⟨y, h1, h2, _⟩ := cutG_blks hx
      exact (h.sep.inS s y k h1 ((h2 k).1 hk)).2.1 e
    · intro s v w1 cnt1 hls hlk hrg1 hlt hg1 hs1 hen
      obtain ⟨x, hx, rfl, hxf⟩ := HH.out.tied.looked hlk
      have htr := turn_of_grown hg1
      have hsep := HH.out.sep
      have hlt2 := HH.out.lt
      have hr : ∀ s x k, G s = some x → x.blks k → k ≠ W.heap.size := fun s x k hx hk e => by have := hlt2 k (hsep.inS s x k hx hk).1; omega
      have hat1 : AtG w1 (cutG keep left G) := hat.turn htr fun s y k hy hk e => by
        obtain ⟨y', h1, h2, _⟩ := cutG_blks hy
        exact hr s y' k h1 ((h2 k).1 hk) e
      have hx1 := hat1 s x (cutG_here hx hls)
      have hsm := HH.out.small (k := 0) HO.out hx
      have hcut := pcut_any x w1 keep hx1 hsm.1 hsm.2 (hsep.two s x · hx)
      have HRG := Lib.hid (And.intro hrg (And.intro hrg1 (And.intro hat1 (And.intro hlt (And.intro hx hls)))))
      have hq1 : q ≠ W.heap.size := fun e => by have := hlt2 q HH.out.sq; omega
      have HB1 : Hid (Blk w1 q 61 (dpL m mb l kp) ∧ Turn S W w1) := Lib.hid ⟨htr.blk hbk hq1, turn_new htu htr (Nat.le_refl _)⟩
      clear hrg hrg1 hat hat1 hg1 hs1 htr hlk hxf hx1 hsm hr hlt2 hbk htu hls
      go_wp2_with fail
      refine hcut.mono ?_
      rintro e w2 ⟨rfl, hc2, ht2⟩
      have HC := Lib.hid (And.intro hc2 ht2)
      clear hcut hc2 ht2
      go_wp2_with fail
      obtain ⟨hrg, hrg1, hat1, hlt, hx, hls⟩ := HRG.out
      obtain ⟨hbk1, htu1⟩ := HB1.out
      obtain ⟨hc2, ht2⟩ := HC.out
      have hxS := HH.out.sep.inS s x x.g hx (.inl rfl)
      have hxl := HH.out.lt x.g hxS.1
      have hrg2 := hrg1.kept ht2.grown (fun e => hxS.2.2 (by cases e; rfl)) (fun e => by have := Option.some.inj e; omega)
      go_roundw
      case rel => exact ⟨_, cnt1, hrg2, cut_step hat1 HH.out.sep hx hc2 ht2, ht2.blk hbk1 (fun e => hxS.2.1 e.symm), htu1.trans (ht2.mono fun k e => by rw [e]; exact hxS.1)⟩
      case measure => rw [hrg2.left_eq, hrg.left_eq]; omega
end

end Go.Proofs.Ytnjkilmhphcocaa
