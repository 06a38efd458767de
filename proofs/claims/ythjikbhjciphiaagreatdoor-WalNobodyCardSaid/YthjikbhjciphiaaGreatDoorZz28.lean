/-
  The program's disk: does a call begin?
-/
import Derived.Test.YthjikbhjciphiaaGreatDoorZz27
namespace Go.Proofs.YthjikbhjciphiaaGreatDoor
open Go.RowKit
set_option linter.unusedVariables false
set_option linter.unusedSimpArgs false

/-- How a disk stands behind a call that its arming lets by, or not. -/
def sprD (m : Dk) : Dk := if m.armed then (if m.left = 0 then crashD m.keep m else ⟨m.files, m.cap, m.calls, m.armed, m.left - 1, m.keep, m.down⟩) else m

section
variable {S : Nat → Prop} {q mb l : Nat} {m : Dk} {kp : Int} {L : List (List UInt8 × Value)} {G : List UInt8 → Option FM}
set_option maxRecDepth 100000 in
set_option maxHeartbeats 2000000 in
theorem pspr_any (W : World) (h : PDat W S q m mb l kp L G) (hO : GoodD m) (hlf : m.left < 18446744073709551616) :
    Calls Tryz.prog 134 #[.pointer (some ⟨q, 0, none⟩)] W fun e W' => e = .returned (.bool (m.armed && decide (m.left = 0))) ∧ PD W' S q (sprD m) ∧ Turn S W W' := by
  have c3 : W.cell? ⟨q, 3, none⟩ = some (.bool m.armed) := h.blk.cell 3
  have c4 : W.cell? ⟨q, 4, none⟩ = some (.int .u64 ((l : Nat) : Int)) := h.blk.cell 4
  have c5 : W.cell? ⟨q, 5, none⟩ = some (.int .i64 kp) := h.blk.cell 5
  have z4 := h.blk.frozen 4
  have hcr := pcrash_any W kp h hO
  have HH := Lib.hid h
  have harm := h.arm
  clear h
  cases ha : m.armed
  · have HE : Hid (sprD m = m) := Lib.hid (by unfold sprD; rw [ha]; rfl)
    rw [ha] at c3
    clear hcr harm ha c4 c5 z4
    go_enter Tryz.func134, Tryz.ntmps134
    go_wp2
    go_ret
    exact ⟨rfl, by rw [HE.out]; exact ⟨_, _, _, _, _, HH.out⟩, Turn.refl _ _⟩
  · obtain ⟨hl1, hk1⟩ := harm ha
    rw [ha] at c3
    by_cases h0 : m.left = 0
    · have HE : Hid (sprD m = crashD m.keep m) := Lib.hid (by unfold sprD; rw [ha, if_pos rfl, if_pos h0])
      have HK := Lib.hid hk1
      obtain rfl : l = 0 := hl1.trans h0
      have HD : Hid (decide (m.left = 0) = true) := Lib.hid (decide_eq_true h0)
      clear ha harm hl1 h0 hk1
      go_enter Tryz.func134, Tryz.ntmps134
      go_wp2_with fail
      refine hcr.mono ?_
      rintro e W1 ⟨rfl, ⟨G', h1⟩, h2⟩
      have H1 := Lib.hid (And.intro h1 h2)
      clear hcr h1 h2
      go_wp2_with fail
      go_ret
      exact ⟨by rw [HD.out]; rfl, by rw [HE.out, ← HK.out]; exact ⟨_, _, _, _, _, H1.out.1⟩, H1.out.2⟩
    · have HE : Hid (sprD m = ⟨m.files, m.cap, m.calls, m.armed, m.left - 1, m.keep, m.down⟩) := Lib.hid (by unfold sprD; rw [ha, if_pos rfl, if_neg h0])
      have HK := Lib.hid hk1
      have HA := Lib.hid ha
      have HD : Hid (decide (m.left = 0) = false) := Lib.hid (decide_eq_false h0)
      obtain ⟨l2, hl2⟩ : ∃ l2, l = l2 + 1 := ⟨l - 1, by omega⟩
      subst hl2
      have HL : Hid (l2 = m.left - 1) := Lib.hid (by omega)
      have hlt : l2 < 18446744073709551615 := by omega
      have d0 : (((l2 + 1 : Nat) : Int) == 0) = false := by simp; omega
      have d1 : (((l2 + 1 : Nat) : Int)) - 1 = ((l2 : Nat) : Int) := by omega
      clear hcr harm ha hl1 h0 hk1
      go_enter Tryz.func134, Tryz.ntmps134
      go_wp2_with fail
      go_ret
      have hB := HH.out.blk.set 4 (.int .u64 ((l2 : Nat) : Int))
      have ht : Turn (fun k => k = q) W (W.setCell ⟨q, 4, none⟩ (.int .u64 ((l2 : Nat) : Int))) := (Turn.refl (fun k => k = q) W).setCell (p := ⟨q, 4, none⟩) rfl _
      refine ⟨by rw [HD.out]; rfl, ?_, ht.mono fun k e => by rw [e]; exact HH.out.sq⟩
      rw [HE.out]
      exact ⟨mb, l2, kp, L, G, HH.out.cells ht hB rfl (fun _ => ⟨HL.out, HK.out⟩) (by omega)⟩

/-- What a call's beginning answers. -/
def beginR (m : Dk) (ns : List (List UInt8)) : Int := if (beginD m).1 then (if ns.all targetB then 0 else 7) else 19
/-- Texts in a block of their own. -/
def Nms9 (w : World) (b : Nat) (ns : List (List UInt8)) : Prop := ∀ (j : Nat) (s : List UInt8), ns[j]? = some s → w.cell? ⟨b, 0 + j, none⟩ = some (.string ⟨s.toArray⟩)
theorem Nms9.turn {w w' : World} {T : Nat → Prop} {b : Nat} {ns : List (List UInt8)} (h : Nms9 w b ns) (ht : Turn T w w') (hb : ¬ T b) : Nms9 w' b ns := fun j s hs => ht.at_ (h j s hs) hb
theorem all_take (ns : List (List UInt8)) (k : Nat) (s : List UInt8) (h : ns[k]? = some s) : (ns.take (k + 1)).all targetB = ((ns.take k).all targetB && targetB s) := by
  rw [List.take_add_one, h, List.all_append]
  simp
theorem all_not (ns : List (List UInt8)) (k : Nat) (s : List UInt8) (h : ns[k]? = some s) (hs : targetB s = false) : ns.all targetB = false := by
  cases hx : ns.all targetB
  · rfl
  · rw [List.all_eq_true] at hx
    rw [hx s (List.mem_of_getElem? h)] at hs
    cases hs

set_option maxRecDepth 100000 in
set_option maxHeartbeats 2000000 in
theorem pbegin_any (W : World) (b : Nat) (ns : List (List UInt8)) (n : Nat) (h : PD W S q m) (hO : GoodD m) (hlf : m.left < 18446744073709551616) (hcl : m.calls ≤ 1000000) (hn : ns.length = n) (hn2 : n ≤ 10) (hns : ∀ s ∈ ns, s.length ≤ 10000) (hb : ¬ S b) (hT : Nms9 W b ns) :
    Calls Tryz.prog 91 #[.pointer (some ⟨q, 0, none⟩), .slice (some ⟨b, 0, none⟩) n n] W fun e W' => e = .returned (.int .i64 (beginR m ns)) ∧ PD W' S q (beginD m).2 ∧ Turn S W W' := by
  obtain ⟨mb, l, kp, L, G, h⟩ := h
  have hdn := pdown_any W h
  have hsp := pspr_any W h hO hlf
  have HH := Lib.hid h
  have HT := Lib.hid (And.intro hb (And.intro hT (And.intro hn hns)))
  clear h hb hT hn hns
  cases hd : m.down
  · rw [hd] at hdn
    cases ha : (m.armed && decide (m.left = 0))
    · rw [ha] at hsp
      have HE : Hid ((beginD m).1 = true ∧ (beginD m).2 = ⟨(sprD m).files, (sprD m).cap, m.calls + 1, (sprD m).armed, (sprD m).left, (sprD m).keep, (sprD m).down⟩ ∧ (sprD m).calls = m.calls) := Lib.hid (by
        unfold beginD sprD
        rw [hd, ha]
        cases h1 : m.armed
        · refine ⟨rfl, ?_, rfl⟩
          simp [h1, hd]
        · have h2 : ¬ m.left = 0 := fun e => by rw [h1, e] at ha; cases ha
          simp [h1, h2, hd])
      clear ha hd
      go_enter Tryz.func91, Tryz.ntmps91
      go_wp2_with fail
      refine hdn.mono ?_
      rintro e W1 ⟨rfl, rfl⟩
      clear hdn
      go_wp2_with fail
      refine hsp.mono ?_
      rintro e W2 ⟨rfl, ⟨mb2, l2, kp2, L2, G2, h2⟩, ht2⟩
      have c2 : W2.cell? ⟨q, 2, none⟩ = some (.int .u64 (((sprD m).calls : Nat) : Int)) := h2.blk.cell 2
      have z2 := h2.blk.frozen 2
      rw [HE.out.2.2] at c2
      obtain ⟨cl, hcl2⟩ : ∃ cl, m.calls = cl := ⟨_, rfl⟩
      have HC := Lib.hid hcl2
      rw [hcl2] at c2 hcl
      have H2 := Lib.hid (And.intro h2 ht2)
      clear hsp h2 ht2 hcl2
      go_wp2_with fail
      have H3 : Hid (PD (W2.setCell ⟨q, 2, none⟩ (.int .u64 ((cl : Nat) + 1))) S q (beginD m).2 ∧ Turn S W1 (W2.setCell ⟨q, 2, none⟩ (.int .u64 ((cl : Nat) + 1)))) := Lib.hid (by
        obtain ⟨h2, ht2⟩ := H2.out
        have hB := h2.blk.set 2 (.int .u64 ((cl : Nat) + 1))
        have ht : Turn (fun k => k = q) W2 (W2.setCell ⟨q, 2, none⟩ (.int .u64 ((cl : Nat) + 1))) := (Turn.refl (fun k => k = q) W2).setCell (p := ⟨q, 2, none⟩) rfl _
        refine ⟨?_, ht2.trans (ht.mono fun k e => by rw [e]; exact h2.sq)⟩
        rw [HE.out.2.1]
        refine ⟨mb2, l2, kp2, L2, G2, h2.cells ht ?_ rfl h2.arm h2.left⟩
        rw [HC.out]
        exact hB)
      revert H3
      generalize W2.setCell ⟨q, 2, none⟩ (.int .u64 ((cl : Nat) + 1)) = w3
      intro H3
      clear c2 z2 H2
      go_loopw [22] (fun i wr => ∃ k : Nat, k ≤ n ∧ i = .int .i64 k ∧ Hid ((ns.take k).all targetB = true) ∧ Below w3.heap.size w3 wr) (fun i _ => n - (intOf i).toNat)
      case atStart => exact ⟨0, Nat.zero_le _, rfl, Lib.hid rfl, Below.refl _ _⟩
      case round =>
        obtain ⟨k, hk, rfl, HA, hbl⟩ := hrel
        have hF : ∀ w', Below w3.heap.size w3 w' → PD w' S q (beginD m).2 ∧ Turn S W1 w' := fun w' hb => ⟨H3.out.1.below hb, H3.out.2.trans (Turn.of_below hb)⟩
        have HF := Lib.hid hF
        clear hF
        by_cases hlt : k < n
        · obtain ⟨hb, hT, hnn, hns⟩ := HT.out
          obtain ⟨s, hs⟩ : ∃ s, ns[k]? = some s := ⟨_, List.getElem?_eq_getElem (by omega)⟩
          have c0 : wr.cell? ⟨b, 0 + k, none⟩ = some (.string ⟨s.toArray⟩) := (hT.turn (HF.out wr hbl).2 hb) k s hs
          have hsl := hns s (List.mem_of_getElem? hs)
          have hta := target_any ⟨s.toArray⟩ (by show s.toArray.size ≤ _; unfold maxLen; simp; omega) wr
          have e1 : (⟨s.toArray⟩ : ByteArray).data.toList = s := by simp
          rw [e1] at hta
          obtain ⟨T, hT2⟩ : ∃ T : ByteArray, ⟨s.toArray⟩ = T := ⟨_, rfl⟩
          rw [hT2] at c0 hta
          have HS := Lib.hid hs
          rw [Nat.zero_add] at c0
          have i0 : (0 : Int) ≤ (k : Int) := by omega
          have i1 : (k : Int) < (n : Int) := by omega
          clear hT2 e1 hsl hs hb hT hnn hns
          go_wp2_with fail
          refine hta.mono ?_
          rintro e w4 ⟨rfl, hb4⟩
          have hb5 : Below w3.heap.size w3 w4 := bthen hbl hb4
          clear hta hb4 c0
          cases ht : targetB s
          · have HR : Hid (beginR m ns = 7) := Lib.hid (by unfold beginR; rw [HE.out.1, all_not ns k s HS.out ht]; rfl)
            clear ht
            go_wp2_with fail
            go_ret
            exact ⟨by rw [HR.out]; rfl, HF.out w4 hb5⟩
          · have HA2 : Hid ((ns.take (k + 1)).all targetB = true) := Lib.hid (by rw [all_take ns k s HS.out, HA.out, ht]; rfl)
            clear ht
            go_wp2_with fail
            go_roundw
            case rel => exact ⟨k + 1, by omega, by go_num, HA2, hb5⟩
            case measure => simp [intOf]; omega
        · have HR : Hid (beginR m ns = 0) := Lib.hid (by
            have h1 := HA.out
            rw [List.take_of_length_le (by have := HT.out.2.2.1; omega)] at h1
            unfold beginR; rw [HE.out.1, h1]; rfl)
          go_wp2_with fail
          go_ret
          exact ⟨by rw [HR.out]; rfl, HF.out wr hbl⟩
    · rw [ha] at hsp
      have HE : Hid ((beginD m).1 = false ∧ (beginD m).2 = sprD m) := Lib.hid (by
        have h1 : m.armed = true ∧ m.left = 0 := by simpa using ha
        unfold beginD sprD
        rw [hd, ha, h1.1, if_pos rfl, if_pos h1.2]
        exact ⟨rfl, rfl⟩)
      clear ha hd
      go_enter Tryz.func91, Tryz.ntmps91
      go_wp2_with fail
      refine hdn.mono ?_
      rintro e W1 ⟨rfl, rfl⟩
      clear hdn
      go_wp2_with fail
      refine hsp.mono ?_
      rintro e W2 ⟨rfl, h2⟩
      have H2 := Lib.hid h2
      clear hsp h2
      go_wp2_with fail
      go_ret
      exact ⟨by unfold beginR; rw [HE.out.1]; rfl, by rw [HE.out.2]; exact H2.out⟩
  · rw [hd] at hdn
    have HE : Hid ((beginD m).1 = false ∧ (beginD m).2 = m) := Lib.hid (by unfold beginD; rw [hd]; exact ⟨rfl, rfl⟩)
    clear hd hsp
    go_enter Tryz.func91, Tryz.ntmps91
    go_wp2_with fail
    refine hdn.mono ?_
    rintro e W1 ⟨rfl, rfl⟩
    clear hdn
    go_wp2_with fail
    go_ret
    exact ⟨by unfold beginR; rw [HE.out.1]; rfl, by rw [HE.out.2]; exact ⟨_, _, _, _, _, HH.out⟩, Turn.refl _ _⟩
end

end Go.Proofs.YthjikbhjciphiaaGreatDoor

/-
  The program's disk: what a call leaves; Sync, Remove.
-/
namespace Go.Proofs.YthjikbhjciphiaaGreatDoor
open Go.RowKit
set_option linter.unusedVariables false
set_option linter.unusedSimpArgs false

theorem turn_of_map {w w' : World} {b : Nat} (h : w.mapTurned w' b) : Turn (fun k => k = b) w w' := by
  obtain ⟨es, clock, es', clock', hb, rfl⟩ := h
  exact ⟨rfl, rfl, rfl, by simp [Go.ChangeMaps.setBlock], fun k hk hne => Go.ChangeMaps.heap_setBlock_other hb _ hne⟩

section
variable {w w' : World} {S S' T : Nat → Prop} {q mb l : Nat} {m : Dk} {kp : Int} {L : List (List UInt8 × Value)} {G : List UInt8 → Option FM} {s : List UInt8} {x y : FM}
/-- A file turned in its place. -/
theorem PDat.set (h : PDat w S q m mb l kp L G) (hx : G s = some x) (hg : y.g = x.g) (hn : y.f.name = s) (ht : Turn T w w') (hT : ∀ k, T k → x.blks k) (hy : y.at_ w') (hS : ∀ k, S k → S' k) (hyS : ∀ k, y.blks k → x.blks k ∨ (w.heap.size ≤ k ∧ S' k)) (hl : ∀ k, S' k → k < w'.heap.size) (h3 : ∀ a, y.A = some a → a.block ≠ y.g) :
    PDat w' S' q (withFs m (withF y.f false m.files)) mb l kp L (upG G s y) := by
  have hxS := fun k hk => h.sep.inS s x k hx hk
  refine ⟨ht.blk h.blk (fun e => (hxS q (hT q e)).2.1 rfl), h.arm, h.left, h.map.turn ht (fun e => (hxS mb (hT mb e)).2.2 rfl), h.tied.set hx hg hn, h.at_.up ht (fun t z k hts hz hk hTk => h.sep.apart t s z x k hts hz hx hk (hT k hTk)) hy, h.sep.up hS (fun k hk => ?_) (fun t z k hts hz hk hyk => ?_) h3, srt_with y.f m.files false h.srt (fun e => by cases e), h.ne, hS q h.sq, hS mb h.sm, hl⟩
  · rcases hyS k hk with h1 | ⟨h1, h2⟩
    · have := hxS k h1
      exact ⟨hS k this.1, this.2⟩
    · exact ⟨h2, fun e => by have := h.lt q h.sq; omega, fun e => by have := h.lt mb h.sm; omega⟩
  · rcases hyS k hyk with h1 | ⟨h1, h2⟩
    · exact h.sep.apart t s z x k hts hz hx hk h1
    · have := h.lt k (h.sep.inS t z k hz hk).1
      omega
/-- A file put under a name. -/
theorem PDat.put (h : PDat w S q m mb l kp L G) (hn : y.f.name = s) (ht : Turn (fun k => k = mb) w w') (hmap : MapS w' Tryz.prog 9 mb (putM s (.pointer (some ⟨y.g, 0, none⟩)) L)) (hy : y.at_ w') (hS : ∀ k, S k → S' k) (hyS : ∀ k, y.blks k → S' k ∧ k ≠ q ∧ k ≠ mb) (hdis : ∀ t z k, t ≠ s → G t = some z → z.blks k → ¬ y.blks k) (hl : ∀ k, S' k → k < w'.heap.size) (h3 : ∀ a, y.A = some a → a.block ≠ y.g) :
    PDat w' S' q (withFs m (withF y.f false m.files)) mb l kp (putM s (.pointer (some ⟨y.g, 0, none⟩)) L) (upG G s y) :=
  ⟨ht.blk h.blk (fun e => h.ne e), h.arm, h.left, hmap, h.tied.put hn, h.at_.up ht (fun t z k hts hz hk e => (h.sep.inS t z k hz hk).2.2 e) hy, h.sep.up hS hyS hdis h3, srt_with y.f m.files false h.srt (fun e => by cases e), h.ne, hS q h.sq, hS mb h.sm, hl⟩
/-- A name taken out. -/
theorem PDat.del (h : PDat w S q m mb l kp L G) (ht : Turn (fun k => k = mb) w w') (hmap : MapS w' Tryz.prog 9 mb (delM s L)) : PDat w' S q (withFs m (withoutF s m.files)) mb l kp (delM s L) (dnG G s) :=
  ⟨ht.blk h.blk (fun e => h.ne e), h.arm, h.left, hmap, h.tied.del, AtG.dn (w := w') (AtG.turn (T := fun k => k = mb) h.at_ ht (fun t z k hz hk e => (h.sep.inS t z k hz hk).2.2 e)), h.sep.dn, srt_without s m.files h.srt, h.ne, h.sq, h.sm, fun k hk => Nat.lt_of_lt_of_le (h.lt k hk) ht.size⟩
theorem key_mk (s : ByteArray) (hs : s.size ≤ 10000) : keyOf Tryz.prog 9 (.string s) = some (.string s.data.toList) := Go.WideMaps.keyOf_string_mk Tryz.underlying9 (by unfold maxLen; omega)
end

/-- What a call answers that does not get past its beginning. -/
theorem do_stop (m : Dk) (s : Sp) (hk : isCall s = true) (h3 : s.kind ≠ 3) (h : beginR m [s.name] ≠ 0) : doD m s = (beginR m [s.name], (beginD m).2) := by
  have h1 : 1 ≤ s.kind ∧ s.kind ≤ 4 := by unfold isCall at hk; simpa using hk
  unfold doD
  rw [if_neg (by omega), if_neg (by omega), if_neg (by omega), hk]
  unfold beginR at h ⊢
  cases hb : (beginD m).1
  · rfl
  · rw [hb] at h
    cases ht : targetB s.name
    · unfold callD
      simp [ht]
    · exact absurd (by simp [ht]) h
theorem do_stop3 (m : Dk) (s : Sp) (hk : s.kind = 3) (h : beginR m [s.name, s.to] ≠ 0) : doD m s = (beginR m [s.name, s.to], (beginD m).2) := by
  unfold doD
  rw [if_neg (by omega), if_neg (by omega), if_neg (by omega), show isCall s = true by unfold isCall; rw [hk]; rfl]
  unfold beginR at h ⊢
  cases hb : (beginD m).1
  · rfl
  · rw [hb] at h
    cases ht : targetB s.name
    · unfold callD
      simp [ht]
    · cases ht2 : targetB s.to
      · unfold callD
        simp [ht, ht2, hk]
      · exact absurd (by simp [ht, ht2]) h
theorem begin_past (m : Dk) (ns : List (List UInt8)) (h : beginR m ns = 0) : (beginD m).1 = true ∧ ns.all targetB = true := by
  unfold beginR at h
  cases hb : (beginD m).1
  · rw [hb] at h; cases h
  · rw [hb] at h
    refine ⟨rfl, ?_⟩
    cases ht : ns.all targetB
    · rw [ht] at h; cases h
    · rfl

end Go.Proofs.YthjikbhjciphiaaGreatDoor

/-
  The program's disk: Sync, Remove.
-/
namespace Go.Proofs.YthjikbhjciphiaaGreatDoor
open Go.RowKit
set_option linter.unusedVariables false
set_option linter.unusedSimpArgs false

/-- Looking a name up. -/
theorem look_no {w : World} {S : Nat → Prop} {q mb l : Nat} {m : Dk} {kp : Int} {L : List (List UInt8 × Value)} {G : List UInt8 → Option FM} (h : PDat w S q m mb l kp L G) (T : ByteArray) (hs : T.size ≤ 10000) (hl : lookF T.data.toList m.files = none) (w' : World) (hw : MapS w' Tryz.prog 9 mb L) :
    (Instr.lookup 53 (.map (some mb)) (.string T) true).run Tryz.prog w' = .ok (.tuple #[.pointer none, .bool false]) w' := by
  have h1 := hw.look (z := .pointer none) (Maps.string_keyed Tryz.underlying9) Tryz.underlying53 (Tryz.zeroValue76 w') T (key_mk T hs)
  rw [(h.tied.no hl).2] at h1
  exact h1
theorem look_yes {w : World} {S : Nat → Prop} {q mb l : Nat} {m : Dk} {kp : Int} {L : List (List UInt8 × Value)} {G : List UInt8 → Option FM} (h : PDat w S q m mb l kp L G) (T : ByteArray) (hs : T.size ≤ 10000) {f : Fl} (hl : lookF T.data.toList m.files = some f) : ∃ x, G T.data.toList = some x ∧ x.f = f ∧ f.name = T.data.toList ∧ ∀ w', MapS w' Tryz.prog 9 mb L →
    (Instr.lookup 53 (.map (some mb)) (.string T) true).run Tryz.prog w' = .ok (.tuple #[.pointer (some ⟨x.g, 0, none⟩), .bool true]) w' := by
  obtain ⟨x, h1, h2, h3⟩ := h.tied.yes hl
  refine ⟨x, h1, h2, look_name _ _ _ hl, fun w' hw => ?_⟩
  have h4 := hw.look (z := .pointer none) (Maps.string_keyed Tryz.underlying9) Tryz.underlying53 (Tryz.zeroValue76 w') T (key_mk T hs)
  rw [h3] at h4
  exact h4

theorem pcall_sync (m : Dk) (s : List UInt8) (ht : targetB s = true) : callD m ⟨2, s, [], [], 0, 0⟩ = match lookF s m.files with | none => (8, m) | some f => (0, withFs m (withF ⟨s, f.data, f.data.length⟩ false m.files)) := by
  unfold callD fileF
  simp only [ht]
  cases h : lookF s m.files <;> simp
theorem pcall_rem (m : Dk) (s : List UInt8) (ht : targetB s = true) : callD m ⟨4, s, [], [], 0, 0⟩ = match lookF s m.files with | none => (8, m) | some f => (0, withFs m (withoutF s m.files)) := by
  unfold callD
  simp only [ht]
  cases h : lookF s m.files <;> simp
theorem begin_fit {m : Dk} (h : OkD 200 m) : (beginD m).2.files.length ≤ 200 ∧ sizeF (beginD m).2.files ≤ 40000 ∧ GoodD (beginD m).2 := by
  have h1 : (beginD m).2.files.length ≤ m.files.length ∧ sizeF (beginD m).2.files ≤ 200 * 200 := by
    unfold beginD
    split
    · exact ⟨Nat.le_refl _, h.size⟩
    · split
      · exact ⟨by show (m.files.map _).length ≤ _; rw [List.length_map]; exact Nat.le_refl _, (h.crash m.keep).size⟩
      · exact ⟨Nat.le_refl _, h.size⟩
  have h2 := begin_ok h
  exact ⟨by have := h.len; omega, h1.2, by have := h.len; omega, by omega, h2.sure⟩
/-- A call's head: the names laid, the beginning. -/
theorem phead_any (W : World) (S : Nat → Prop) (q : Nat) (m : Dk) (ns : List (List UInt8)) (C : Array Value) (n : Nat) (h : PD W S q m) (hO : OkD 200 m) (hn : ns.length = n) (hn2 : n ≤ 10) (hns : ∀ s ∈ ns, s.length ≤ 10000) (hC : C.toList = wsV ns) :
    Calls Tryz.prog 91 #[.pointer (some ⟨q, 0, none⟩), .slice (some ⟨W.heap.size, 0, none⟩) n n] (W.alloc (.cells C 9)) fun e W' => e = .returned (.int .i64 (beginR m ns)) ∧ PD W' S q (beginD m).2 ∧ Turn S W W' := by
  have hlt : ∀ k, S k → k < W.heap.size := by
    obtain ⟨_, _, _, _, _, hp⟩ := h
    exact hp.lt
  refine (pbegin_any (W.alloc (.cells C 9)) W.heap.size ns n (h.below ((Below.refl _ W).alloc (Nat.le_refl _) _)) (hO.good (by omega)) hO.left (by have := hO.calls; omega) hn hn2 hns (fun e => by have := hlt _ e; omega) (fun j s hs => ?_)).mono ?_
  · rw [Nat.zero_add, World.cell?_alloc_new, ← Array.getElem?_toList, hC, wsV, List.getElem?_map, hs]
    rfl
  · rintro e W' ⟨rfl, h1, h2⟩
    exact ⟨rfl, h1, ((Turn.refl S W).alloc _).trans h2⟩

set_option maxRecDepth 100000 in
set_option maxHeartbeats 2000000 in
theorem psync_any (W : World) (S : Nat → Prop) (q : Nat) (m : Dk) (name : List UInt8) (h : PD W S q m) (hO : OkD 200 m) (hl : name.length ≤ 100) :
    Calls Tryz.prog 61 #[.pointer (some ⟨q, 0, none⟩), .string ⟨name.toArray⟩] W (StepPost PD S q (doD m ⟨2, name, [], [], 0, 0⟩) W) := by
  have hB := phead_any W S q m [name] #[.string ⟨name.toArray⟩] 1 h hO rfl (by omega) (fun s hs => by have := List.mem_singleton.1 hs; rw [this]; omega) rfl
  obtain ⟨r, hr⟩ : ∃ r, beginR m [name] = r := ⟨_, rfl⟩
  obtain ⟨m1, hm1⟩ : ∃ m1, (beginD m).2 = m1 := ⟨_, rfl⟩
  have hfit := begin_fit hO
  rw [hm1] at hfit hB
  rw [hr] at hB
  by_cases h0 : r = 0
  · subst h0
    obtain ⟨hb1, hb2⟩ := begin_past m [name] hr
    have hta : targetB name = true := by simpa using hb2
    have hE := do_call m ⟨2, name, [], [], 0, 0⟩ rfl hb1
    rw [hm1, pcall_sync m1 name hta] at hE
    rw [hE]
    have HF := Lib.hid hfit
    clear hE hb1 hb2 hta hr h hO hfit hm1
    obtain ⟨T, hT⟩ : ∃ T : ByteArray, ⟨name.toArray⟩ = T := ⟨_, rfl⟩
    have hTl : T.data.toList = name := by rw [← hT]
    have hTs : T.size ≤ 10000 := by rw [← hT]; show name.toArray.size ≤ _; simp; omega
    rw [hT] at hB ⊢
    have HT := Lib.hid (And.intro hTl hTs)
    clear hT hTl hTs
    cases hlo : lookF name m1.files with
    | none =>
      have HLO := Lib.hid hlo
      clear hlo
      go_enter Tryz.func61, Tryz.ntmps61
      go_wp2_with fail
      refine hB.mono ?_
      rintro e W1 ⟨rfl, ⟨mb, l, kp, L, G, h1⟩, ht1⟩
      have c1 : W1.cell? ⟨q, 1, none⟩ = some (.map (some mb)) := h1.blk.cell 1
      have hlk := look_no h1 T HT.out.2 (by rw [HT.out.1]; exact HLO.out) W1 h1.map
      have HH := Lib.hid (And.intro h1 ht1)
      clear hB h1 ht1
      go_wp2_with fail
      go_ret
      exact ⟨S, rfl, ⟨_, _, _, _, _, HH.out.1⟩, fun k hk => .inl hk, HH.out.2⟩
    | some f =>
      have HLO := Lib.hid hlo
      clear hlo
      go_enter Tryz.func61, Tryz.ntmps61
      go_wp2_with fail
      refine hB.mono ?_
      rintro e W1 ⟨rfl, ⟨mb, l, kp, L, G, h1⟩, ht1⟩
      have c1 : W1.cell? ⟨q, 1, none⟩ = some (.map (some mb)) := h1.blk.cell 1
      obtain ⟨x, hx, hxf, hfn, hlk⟩ := look_yes h1 T HT.out.2 (by rw [HT.out.1]; exact HLO.out)
      have hlk1 := hlk W1 h1.map
      have hat := h1.at_ _ x hx
      have c0 : W1.cell? ⟨x.g, 0, none⟩ = some (.slice x.A x.f.data.length x.c) := hat.1.cell 0
      have e1 : W1.cell? ⟨x.g, 1, none⟩ = some (.int .i64 ((x.f.sure : Nat) : Int)) := hat.1.cell 1
      have z1 := hat.1.frozen 1
      rw [HT.out.1] at hx hfn
      have HX := Lib.hid (And.intro hx (And.intro hxf (And.intro hfn hat)))
      have HH := Lib.hid (And.intro h1 ht1)
      obtain ⟨g, hg⟩ : ∃ g, x.g = g := ⟨_, rfl⟩
      obtain ⟨n, hn⟩ : ∃ n, x.f.data.length = n := ⟨_, rfl⟩
      rw [hg] at c0 e1 z1 hlk1
      rw [hn] at c0
      have HG := Lib.hid (And.intro hg hn)
      clear hB h1 ht1 hlk hx hxf hfn hat hg hn
      go_wp2_with fail
      go_ret
      obtain ⟨h1, ht1⟩ := HH.out
      obtain ⟨hx, hxf, hfn, hat⟩ := HX.out
      obtain ⟨hg, hn⟩ := HG.out
      have ht2 : Turn (fun k => k = g) W1 (W1.setCell ⟨g, 1, none⟩ (.int .i64 ((n : Nat) : Int))) := (Turn.refl (fun k => k = g) W1).setCell (p := ⟨g, 1, none⟩) rfl _
      have hgS : S g := by rw [← hg]; exact (h1.sep.inS name x x.g hx (.inl rfl)).1
      have hy : FM.at_ (W1.setCell ⟨g, 1, none⟩ (.int .i64 ((n : Nat) : Int))) ⟨⟨name, f.data, f.data.length⟩, x.g, x.A, x.c⟩ := by
        rw [← hxf]
        refine ⟨?_, own_turn hat.2 ht2 fun a ha => by rw [← hg]; exact h1.sep.two name x a hx ha⟩
        have := hat.1.set 1 (.int .i64 ((n : Nat) : Int))
        rw [hg] at this ⊢
        show Blk _ g _ [.slice x.A x.f.data.length x.c, .int .i64 ((x.f.data.length : Nat) : Int)]
        rw [hn] at this ⊢
        exact this
      refine ⟨S, rfl, ⟨mb, l, kp, L, _, h1.set (y := ⟨⟨name, f.data, f.data.length⟩, x.g, x.A, x.c⟩) hx rfl rfl ht2 (fun k hk => .inl (hk.trans hg.symm)) hy (fun k hk => hk) (fun k hk => .inl hk) (fun k hk => Nat.lt_of_lt_of_le (h1.lt k hk) ht2.size) (fun a ha => h1.sep.two name x a hx ha)⟩, fun k hk => .inl hk, ht1.trans (ht2.mono fun k e => by rw [e]; exact hgS)⟩
  · have hE := do_stop m ⟨2, name, [], [], 0, 0⟩ rfl (by show (2 : Int) ≠ 3; omega) (by rw [hr]; exact h0)
    rw [hE, hr, hm1]
    have d0 : (r != 0) = true := by simpa using h0
    clear hE hr h hO hfit hm1 h0
    go_enter Tryz.func61, Tryz.ntmps61
    go_wp2_with fail
    refine hB.mono ?_
    rintro e W1 ⟨rfl, h1, ht1⟩
    have HH := Lib.hid (And.intro h1 ht1)
    clear hB h1 ht1
    go_wp2_with fail
    go_ret
    exact ⟨S, rfl, HH.out.1, fun k hk => .inl hk, HH.out.2⟩

set_option maxRecDepth 100000 in
set_option maxHeartbeats 2000000 in
theorem prem_any (W : World) (S : Nat → Prop) (q : Nat) (m : Dk) (name : List UInt8) (h : PD W S q m) (hO : OkD 200 m) (hl : name.length ≤ 100) :
    Calls Tryz.prog 63 #[.pointer (some ⟨q, 0, none⟩), .string ⟨name.toArray⟩] W (StepPost PD S q (doD m ⟨4, name, [], [], 0, 0⟩) W) := by
  have hB := phead_any W S q m [name] #[.string ⟨name.toArray⟩] 1 h hO rfl (by omega) (fun s hs => by have := List.mem_singleton.1 hs; rw [this]; omega) rfl
  obtain ⟨r, hr⟩ : ∃ r, beginR m [name] = r := ⟨_, rfl⟩
  obtain ⟨m1, hm1⟩ : ∃ m1, (beginD m).2 = m1 := ⟨_, rfl⟩
  have hfit := begin_fit hO
  rw [hm1] at hfit hB
  rw [hr] at hB
  by_cases h0 : r = 0
  · subst h0
    obtain ⟨hb1, hb2⟩ := begin_past m [name] hr
    have hta : targetB name = true := by simpa using hb2
    have hE := do_call m ⟨4, name, [], [], 0, 0⟩ rfl hb1
    rw [hm1, pcall_rem m1 name hta] at hE
    rw [hE]
    have HF := Lib.hid hfit
    clear hE hb1 hb2 hta hr h hO hfit hm1
    obtain ⟨T, hT⟩ : ∃ T : ByteArray, ⟨name.toArray⟩ = T := ⟨_, rfl⟩
    have hTl : T.data.toList = name := by rw [← hT]
    have hTs : T.size ≤ 10000 := by rw [← hT]; show name.toArray.size ≤ _; simp; omega
    rw [hT] at hB ⊢
    have HT := Lib.hid (And.intro hTl hTs)
    clear hT hTl hTs
    cases hlo : lookF name m1.files with
    | none =>
      have HLO := Lib.hid hlo
      clear hlo
      go_enter Tryz.func63, Tryz.ntmps63
      go_wp2_with fail
      refine hB.mono ?_
      rintro e W1 ⟨rfl, ⟨mb, l, kp, L, G, h1⟩, ht1⟩
      have c1 : W1.cell? ⟨q, 1, none⟩ = some (.map (some mb)) := h1.blk.cell 1
      have hlk := look_no h1 T HT.out.2 (by rw [HT.out.1]; exact HLO.out) W1 h1.map
      have HH := Lib.hid (And.intro h1 ht1)
      clear hB h1 ht1
      go_wp2_with fail
      go_ret
      exact ⟨S, rfl, ⟨_, _, _, _, _, HH.out.1⟩, fun k hk => .inl hk, HH.out.2⟩
    | some f =>
      have HLO := Lib.hid hlo
      clear hlo
      go_enter Tryz.func63, Tryz.ntmps63
      go_wp2_with fail
      refine hB.mono ?_
      rintro e W1 ⟨rfl, ⟨mb, l, kp, L, G, h1⟩, ht1⟩
      have c1 : W1.cell? ⟨q, 1, none⟩ = some (.map (some mb)) := h1.blk.cell 1
      obtain ⟨x, hx, hxf, hfn, hlk⟩ := look_yes h1 T HT.out.2 (by rw [HT.out.1]; exact HLO.out)
      have hlk1 := hlk W1 h1.map
      obtain ⟨w2, hdl, hm2, htu⟩ := h1.map.drop (Maps.string_keyed Tryz.underlying9) Tryz.underlying53 T (key_mk T HT.out.2) 0
      have ht2 := turn_of_map htu
      rw [HT.out.1] at hm2
      have HH := Lib.hid (And.intro h1 (And.intro ht1 (And.intro hm2 ht2)))
      clear hB h1 ht1 hlk hx hxf hfn hm2 ht2 htu
      go_wp2_with fail
      go_ret
      obtain ⟨h1, ht1, hm2, ht2⟩ := HH.out
      exact ⟨S, rfl, ⟨mb, l, kp, _, _, h1.del ht2 hm2⟩, fun k hk => .inl hk, ht1.trans (ht2.mono fun k e => by rw [e]; exact h1.sm)⟩
  · have hE := do_stop m ⟨4, name, [], [], 0, 0⟩ rfl (by show (4 : Int) ≠ 3; omega) (by rw [hr]; exact h0)
    rw [hE, hr, hm1]
    have d0 : (r != 0) = true := by simpa using h0
    clear hE hr h hO hfit hm1 h0
    go_enter Tryz.func63, Tryz.ntmps63
    go_wp2_with fail
    refine hB.mono ?_
    rintro e W1 ⟨rfl, h1, ht1⟩
    have HH := Lib.hid (And.intro h1 ht1)
    clear hB h1 ht1
    go_wp2_with fail
    go_ret
    exact ⟨S, rfl, HH.out.1, fun k hk => .inl hk, HH.out.2⟩

end Go.Proofs.YthjikbhjciphiaaGreatDoor

/-
  The program's disk: Rename.
-/
namespace Go.Proofs.YthjikbhjciphiaaGreatDoor
open Go.RowKit
set_option linter.unusedVariables false
set_option linter.unusedSimpArgs false

theorem pcall_ren (m : Dk) (s d : List UInt8) (ht : targetB s = true) (ht2 : targetB d = true) : callD m ⟨3, s, d, [], 0, 0⟩ = match lookF s m.files with | none => (8, m) | some f => (0, withFs m (withF ⟨d, f.data, f.sure⟩ false (withoutF s m.files))) := by
  unfold callD fileF
  simp only [ht, ht2]
  cases h : lookF s m.files <;> simp

end Go.Proofs.YthjikbhjciphiaaGreatDoor
