/-
  The program's disk: what a call leaves; Sync, Remove.
-/
import Derived.Test.YtnjkilmhphcocaaDpF
namespace Go.Proofs.Ytnjkilmhphcocaa
open Go.RowKit
set_option linter.unusedVariables false
set_option linter.unusedSimpArgs false

theorem turn_of_map {w w' : World} {b : Nat} (h : w.mapTurned w' b) : Turn (fun k => k = b) w w' := by
  obtain ⟨es, clock, es', clock', hb, rfl⟩ := h
  exact ⟨rfl, rfl, rfl, by simp [Go.ChangeMaps.setBlock], fun k hk hne => Go.ChangeMaps.heap_setBlock_other hb _ hne⟩

section
variable {w w' : World} {S S' T : Nat → Prop} {q mb l : Nat} {m : Dk} {kp : Int} {L : List (List UInt8 × Value)} {G : List UInt8 → Option FM} {s : List UInt8} {x y : FM}
/-- A file turned in its place. -/
theorem PDat.set (h : PDat w S q m mb l kp L G) (hx : G s = some x) (hg : y.g = x.g) (hn : y.f.name = s) (ht : Turn T w w') (hT : ∀ k, T k → x.blks k) (hy : y.at_ w') (hS : ∀ k, S k → S' k) (hyS : ∀ k, y.blks k → x.blks k ∨ (w.heap.size ≤ k ∧ S' k)) (hl : ∀ k, S' k → k < w'.heap.size) (h3 : ∀ a, y.A = some a → a.block ≠ y.g) :
    PDat w' S' q (withFs m (withF y.f false m.files)) mb l kp L (upG G s y) := by
  have hxS := fun k hk => h.sep.inS s x k hx hk
  refine ⟨ht.blk h.blk (fun e => (hxS q (hT q e)).2.1 rfl), h.arm, h.left, h.map.turn ht (fun e => (hxS mb (hT mb e)).2.2 rfl), h.tied.set hx hg hn, h.at_.up ht (fun t z k hts hz hk hTk => h.sep.apart t s z x k hts hz hx hk (hT k hTk)) hy, h.sep.up hS (fun k hk => ?_) (fun t z k hts hz hk hyk => ?_) h3, srt_with y.f m.files false h.srt (fun e => by cases e), h.ne, hS q h.sq, hS mb h.sm, hl⟩
  · rcases hyS k hk with h1 | ⟨h1, h2⟩
    · have := hxS k h1
      exact ⟨hS k this.1, this.2⟩
    · exact ⟨h2, fun e => by have := h.lt q h.sq; omega, fun e => by have := h.lt mb h.sm; omega⟩
  · rcases hyS k hyk with h1 | ⟨h1, h2⟩
    · exact h.sep.apart t s z x k hts hz hx hk h1
    · have := h.lt k (h.sep.inS t z k hz hk).1
      omega
/-- A file put under a name. -/
theorem PDat.put (h : PDat w S q m mb l kp L G) (hn : y.f.name = s) (ht : Turn (fun k => k = mb) w w') (hmap : MapS w' Try.prog 9 mb (putM s (.pointer (some ⟨y.g, 0, none⟩)) L)) (hy : y.at_ w') (hS : ∀ k, S k → S' k) (hyS : ∀ k, y.blks k → S' k ∧ k ≠ q ∧ k ≠ mb) (hdis : ∀ t z k, t ≠ s → G t = some z → z.blks k → ¬ y.blks k) (hl : ∀ k, S' k → k < w'.heap.size) (h3 : ∀ a, y.A = some a → a.block ≠ y.g) :
    PDat w' S' q (withFs m (withF y.f false m.files)) mb l kp (putM s (.pointer (some ⟨y.g, 0, none⟩)) L) (upG G s y) :=
  ⟨ht.blk h.blk (fun e => h.ne e), h.arm, h.left, hmap, h.tied.put hn, h.at_.up ht (fun t z k hts hz hk e => (h.sep.inS t z k hz hk).2.2 e) hy, h.sep.up hS hyS hdis h3, srt_with y.f m.files false h.srt (fun e => by cases e), h.ne, hS q h.sq, hS mb h.sm, hl⟩
/-- A name taken out. -/
theorem PDat.del (h : PDat w S q m mb l kp L G) (ht : Turn (fun k => k = mb) w w') (hmap : MapS w' Try.prog 9 mb (delM s L)) : PDat w' S q (withFs m (withoutF s m.files)) mb l kp (delM s L) (dnG G s) :=
  ⟨ht.blk h.blk (fun e => h.ne e), h.arm, h.left, hmap, h.tied.del, AtG.dn (w := w') (AtG.turn (T := fun k => k = mb) h.at_ ht (fun t z k hz hk e => (h.sep.inS t z k hz hk).2.2 e)), h.sep.dn, srt_without s m.files h.srt, h.ne, h.sq, h.sm, fun k hk => Nat.lt_of_lt_of_le (h.lt k hk) ht.size⟩
theorem key_mk (s : ByteArray) (hs : s.size ≤ 10000) : keyOf Try.prog 9 (.string s) = some (.string s.data.toList) := Go.WideMaps.keyOf_string_mk Try.underlying9 (by unfold maxLen; omega)
end

/-- What a call answers that does not get past its beginning. -/
theorem do_stop (m : Dk) (s : Sp) (hk : isCall s = true) (h3 : s.kind ≠ 3) (h : beginR m [s.name] ≠ 0) : doD m s = (beginR m [s.name], (beginD m).2) := by
  have h1 : 1 ≤ s.kind ∧ s.kind ≤ 4 := by unfold isCall at hk; simpa using hk
  unfold doD
  rw [if_neg (by omega), if_neg (by omega), if_neg (by omega), hk]
  unfold beginR at h ⊢
  cases hb : (beginD m).1
  · rfl
  · rw [hb] at h
    cases ht : targetB s.name
    · unfold callD
      simp [ht]
    · exact absurd (by simp [ht]) h
theorem do_stop3 (m : Dk) (s : Sp) (hk : s.kind = 3) (h : beginR m [s.name, s.to] ≠ 0) : doD m s = (beginR m [s.name, s.to], (beginD m).2) := by
  unfold doD
  rw [if_neg (by omega), if_neg (by omega), if_neg (by omega), show isCall s = true by unfold isCall; rw [hk]; rfl]
  unfold beginR at h ⊢
  cases hb : (beginD m).1
  · rfl
  · rw [hb] at h
    cases ht : targetB s.name
    · unfold callD
      simp [ht]
    · cases ht2 : targetB s.to
      · unfold callD
        simp [ht, ht2, hk]
      · exact absurd (by simp [ht, ht2]) h
theorem begin_past (m : Dk) (ns : List (List UInt8)) (h : beginR m ns = 0) : (beginD m).1 = true ∧ ns.all targetB = true := by
  unfold beginR at h
  cases hb : (beginD m).1
  · rw [hb] at h; cases h
  · rw [hb] at h
    refine ⟨rfl, ?_⟩
    cases ht : ns.all targetB
    · rw [ht] at h; cases h
    · rfl

end Go.Proofs.Ytnjkilmhphcocaa
