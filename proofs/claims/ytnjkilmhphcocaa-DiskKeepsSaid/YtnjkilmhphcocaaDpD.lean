/-
  The program's disk: how many bytes all files have.
-/
import Derived.Test.YtnjkilmhphcocaaDpC
import Derived.Test.YtnjkilmhphcocaaMapR
namespace Go.Proofs.Ytnjkilmhphcocaa
open Go.RowKit
set_option linter.unusedVariables false
set_option linter.unusedSimpArgs false

/-- Bytes of the files that are done. -/
def doneF (left : Lit → Bool) (fs : List Fl) : Nat := sizeF (fs.filter fun f => !left (.string f.name))
theorem done_start (left : Lit → Bool) (fs : List Fl) (h : ∀ f ∈ fs, left (.string f.name) = true) : doneF left fs = 0 := by
  unfold doneF
  rw [List.filter_eq_nil_iff.2 (fun f hf => by rw [h f hf]; simp)]
  rfl
theorem done_end (left : Lit → Bool) (fs : List Fl) (h : ∀ kl, left kl = false) : doneF left fs = sizeF fs := by
  unfold doneF
  rw [List.filter_eq_self.2 (fun f hf => by rw [h]; rfl)]
theorem done_cons (left : Lit → Bool) (g : Fl) (r : List Fl) : doneF left (g :: r) = (if left (.string g.name) then 0 else g.data.length) + doneF left r := by
  unfold doneF
  rw [List.filter_cons]
  cases left (.string g.name)
  · simp [sizeF]
  · simp [sizeF]
theorem done_same (left : Lit → Bool) (s : List UInt8) (fs : List Fl) (h : lookF s fs = none) : doneF (fun z => left z && !z.sameKey (.string s)) fs = doneF left fs := by
  induction fs with
  | nil => rfl
  | cons g r ih =>
    rw [look_cons] at h
    have hg : ¬ g.name = s := fun e => by rw [if_pos e] at h; cases h
    rw [if_neg hg] at h
    have e : (Lit.string g.name).sameKey (.string s) = false := by simpa [Lit.sameKey] using hg
    rw [done_cons, done_cons, ih h, e]
    simp
theorem done_step (left : Lit → Bool) (s : List UInt8) (fs : List Fl) (f : Fl) (hs : SrtF fs) (hf : lookF s fs = some f) (hl : left (.string s) = true) : doneF (fun z => left z && !z.sameKey (.string s)) fs = doneF left fs + f.data.length := by
  induction fs with
  | nil => cases hf
  | cons g r ih =>
    have hs1 := List.pairwise_cons.1 hs
    rw [look_cons] at hf
    rw [done_cons, done_cons]
    by_cases hg : g.name = s
    · rw [if_pos hg] at hf
      obtain rfl := Option.some.inj hf
      have hn : lookF s r = none := by
        cases hx : lookF s r with
        | none => rfl
        | some y =>
          have h1 := hs1.1 y (List.mem_of_find?_eq_some hx)
          rw [look_name s r y hx, hg, bl_irrefl] at h1
          cases h1
      have e : (Lit.string s).sameKey (.string s) = true := by simp [Lit.sameKey]
      rw [done_same left s r hn, hg, hl, e]
      simp
      omega
    · rw [if_neg hg] at hf
      have e : (Lit.string g.name).sameKey (.string s) = false := by simpa [Lit.sameKey] using hg
      rw [ih hs1.2 hf, e]
      simp
      omega
theorem done_le (left : Lit → Bool) (fs : List Fl) : doneF left fs ≤ sizeF fs := by
  induction fs with
  | nil => exact Nat.le_refl _
  | cons g r ih =>
    rw [done_cons]
    have e : sizeF (g :: r) = g.data.length + sizeF r := by simp [sizeF]
    split <;> omega

section
variable {S : Nat → Prop} {q mb l : Nat} {m : Dk} {kp : Int} {L : List (List UInt8 × Value)} {G : List UInt8 → Option FM}
theorem PDat.has {w : World} (h : PDat w S q m mb l kp L G) (f : Fl) (hf : f ∈ m.files) : Maps.has (mapD L) (.string f.name) = true := by
  obtain ⟨g, hg⟩ := look_mem_some m.files f hf
  obtain ⟨x, _, _, hx⟩ := h.tied.yes hg
  rw [mapD_has, hx]
  rfl

set_option maxRecDepth 100000 in
set_option maxHeartbeats 2000000 in
theorem psize_any (W : World) (h : PDat W S q m mb l kp L G) (hO : sizeF m.files ≤ 1000000) :
    Calls Try.prog 18 #[.pointer (some ⟨q, 0, none⟩)] W fun e W' => e = .returned (.int .i64 ((sizeF m.files : Nat) : Int)) ∧ Below W.heap.size W W' := by
  have c1 : W.cell? ⟨q, 1, none⟩ = some (.map (some mb)) := h.blk.cell 1
  have hmap := h.map
  have HH := Lib.hid h
  have HO := Lib.hid hO
  clear h hO
  go_enter Try.func18, Try.ntmps18
  go_wp2_with (first | (at_range; refine wpList_range_own _ rfl _ 57 rfl 9 67 (Maps.string_keyed Try.underlying9) Try.underlying57 rawR mb L.length (mapD L) rfl hmap ?_; intro w0 hrg0 hg0 hs0) | go_in)
  go_frame
  have hb0 : Below W.heap.size W w0 := (Below.refl _ W).grown hg0 (Nat.le_refl _) (fun q hq => by cases hq)
  have HR0 := Lib.hid (And.intro hrg0 hb0)
  clear hrg0 hg0 hs0 hb0 c1
  go_loopw [3] (fun v wr => ∃ left cnt, ∃ u : Nat, v = .int .i64 (u : Int) ∧ wr.ranges Try.prog 9 rawR mb W.heap.size L.length (mapD L) left cnt ∧ Below W.heap.size W wr ∧ Hid (u = doneF left m.files)) (fun _ wr => wr.rangeLeft mb W.heap.size)
  case atStart => exact ⟨_, _, 0, rfl, HR0.out.1, HR0.out.2, Lib.hid (done_start _ _ fun f hf => HH.out.has f hf).symm⟩
  case round =>
    obtain ⟨left, cnt, u, rfl, hrg, hb, HU⟩ := hrel
    have hu : u ≤ 1000000 := by have h1 := HU.out; have h2 := done_le left m.files; have h3 := HO.out; omega
    go_wp2_with (first | (at_next; refine wpList_next_mapS _ rfl _ rfl 9 Try.underlying9 mb W.heap.size L.length L left cnt rfl hrg ?_ ?_) | go_in)
    · intro hc0 hl0
      have HE : Hid (u = sizeF m.files) := Lib.hid (by rw [HU.out, done_end left m.files hl0])
      clear hrg hl0
      go_wp2_with fail
      go_ret
      exact ⟨by rw [HE.out]; rfl, hb⟩
    · intro s v w1 cnt1 hls hlk hrg1 hlt hg1 hs1 hen
      have hb1 : Below W.heap.size W w1 := hb.grown hg1 hb.size (fun q hq => by cases hq; exact Nat.le_refl _)
      obtain ⟨x, hx, rfl, hxf⟩ := HH.out.tied.looked hlk
      have hat := FM.turn (HH.out.at_ s x hx) (Turn.of_below hb1 : Turn (fun _ => False) W w1) (fun k hk e => e.elim)
      have c0 : w1.cell? ⟨x.g, 0, none⟩ = some (.slice x.A x.f.data.length x.c) := hat.1.cell 0
      have HST := Lib.hid (done_step left s m.files x.f HH.out.srt hxf hls)
      have HB := Lib.hid hb1
      have HRG := Lib.hid (And.intro hrg hrg1)
      obtain ⟨g, hgx⟩ : ∃ g, x.g = g := ⟨_, rfl⟩
      obtain ⟨A, hA⟩ : ∃ A, x.A = A := ⟨_, rfl⟩
      obtain ⟨c, hc⟩ : ∃ c, x.c = c := ⟨_, rfl⟩
      obtain ⟨n, hn⟩ : ∃ n, x.f.data.length = n := ⟨_, rfl⟩
      rw [hgx, hA, hc, hn] at c0
      rw [hgx] at hen ⊢
      rw [hn] at HST
      have HU2 : Hid (u + n = doneF (fun z => left z && !z.sameKey (.string s)) m.files) := Lib.hid (by rw [HST.out, ← HU.out])
      have hn2 : n ≤ 1000000 := by have h1 := HU2.out; have h2 := done_le (fun z => left z && !z.sameKey (.string s)) m.files; have h3 := HO.out; omega
      clear hrg hrg1 hg1 hs1 hb1 hat hgx hA hc hn hx hxf hlk hls hb hmap
      go_wp2_with fail
      go_roundw
      case rel => exact ⟨_, cnt1, u + n, by go_num, HRG.out.2, HB.out, HU2⟩
      case measure => rw [HRG.out.2.left_eq, HRG.out.1.left_eq]; omega
end

end Go.Proofs.Ytnjkilmhphcocaa
