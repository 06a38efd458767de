/-
  The program's journal in memory: Next, Sure, Waits, and what a journal that is nil answers.
-/
import Derived.Test.YthjikbhjciphiaaGreatDoorZz28
import Derived.Test.YthjikbhjciphiaaGreatDoorZz22
import Derived.Test.YthjikbhjciphiaaGreatDoorZz36
import Derived.BigRegion
import Derived.Test.YthjikbhjciphiaaGreatDoorZz19
import Derived.Test.YthjikbhjciphiaaGreatDoorZz3
import Derived.Test.YthjikbhjciphiaaGreatDoorZz10
import Derived.Laws.BitsAllLaws
namespace Go.Proofs.YthjikbhjciphiaaGreatDoor
open Go.RowKit
set_option linter.unusedVariables false
set_option linter.unusedSimpArgs false

/-- The cells of a journal. -/
def lgL (q : Nat) (j : Jn) (A : Option Addr) (c : Nat) : List Value := [.pointer (some ⟨q, 0, none⟩), .int .u64 ((j.next : Nat) : Int), .slice A j.buf.length c, .int .u64 ((j.own : Nat) : Int), .int .i64 ((j.size : Nat) : Int)]
/-- Block p is the journal j on the disk q, T its blocks; A: where its buffered records lie. -/
structure LDat (w : World) (T : Nat → Prop) (p q : Nat) (j : Jn) (A : Option Addr) (c : Nat) : Prop where
  blk : Blk w p 68 (lgL q j A c)
  own : w.ownsRow (p + 1) 35 6 (.slice A j.buf.length c) j.buf.length (rcCells j.buf)
  sp : ∀ k, T k ↔ k = p ∨ ∃ a, A = some a ∧ a.block = k
  next : j.next = j.sure + 1 + j.buf.length
  small : j.next < 18446744073709551616 ∧ j.own < 18446744073709551616 ∧ j.size < 1000000000
/-- .. with no word of where its records lie; above N. -/
def LAn (N : Nat) (w : World) (T : Nat → Prop) (p q : Nat) (j : Jn) : Prop := N ≤ p ∧ ∃ A c, LDat w T p q j A c
theorem own_lenA {w : World} {base : Nat} {A : Option Addr} {n c : Nat} {xs : List Value} {e : TypeId} {size : Nat} (h : w.ownsRow base e size (.slice A n c) n xs) : n ≤ c ∧ c ≤ maxLen ∧ (A = none → n = 0 ∧ c = 0) ∧ ∀ a, A = some a → base ≤ a.block ∧ a.block < w.heap.size := by
  rcases h.2 with ⟨h1, h2⟩ | ⟨g, cap, cur, hv, hg, hh, hn, hc, _⟩
  · injection h1 with e1 e2 e3
    subst e1 e3 h2
    exact ⟨Nat.le_refl _, Nat.zero_le _, fun _ => ⟨rfl, rfl⟩, fun a h => by cases h⟩
  · injection hv with e1 e2 e3
    subst e1 e3
    exact ⟨hn, hc, fun h => (by cases h), fun a h => by cases h; exact ⟨hg, (Array.getElem?_eq_some_iff.1 hh).1⟩⟩
section
variable {w w' : World} {T S' : Nat → Prop} {p q c : Nat} {j : Jn} {A : Option Addr}
theorem LDat.turn (h : LDat w T p q j A c) (ht : Turn S' w w') (hn : ∀ k, S' k → ¬ T k) : LDat w' T p q j A c :=
  ⟨ht.blk h.blk (fun e => hn _ e ((h.sp _).2 (.inl rfl))), own_turn h.own ht (fun a ha e => hn _ e ((h.sp _).2 (.inr ⟨a, ha, rfl⟩))), h.sp, h.next, h.small⟩
theorem LDat.here (h : LDat w T p q j A c) : T p ∧ ∀ k, T k → p ≤ k ∧ k < w.heap.size := by
  refine ⟨(h.sp p).2 (.inl rfl), fun k hk => ?_⟩
  rcases (h.sp k).1 hk with rfl | ⟨a, ha, rfl⟩
  · exact ⟨Nat.le_refl _, h.blk.lt⟩
  · have := (own_lenA h.own).2.2.2 a ha
    exact ⟨by omega, this.2⟩

theorem lnext_any (W : World) (h : LDat W T p q j A c) : Calls Tryz.prog 11 #[.pointer (some ⟨p, 0, none⟩)] W fun e W' => e = .returned (.int .u64 ((j.next : Nat) : Int)) ∧ W' = W := by
  have c1 : W.cell? ⟨p, 1, none⟩ = some (.int .u64 ((j.next : Nat) : Int)) := h.blk.cell 1
  clear h
  go_enter Tryz.func11, Tryz.ntmps11
  go_wp2_with fail
  go_ret
  exact ⟨rfl, rfl⟩

theorem lwaits_any (W : World) (h : LDat W T p q j A c) : Calls Tryz.prog 22 #[.pointer (some ⟨p, 0, none⟩)] W fun e W' => e = .returned (.int .i64 ((j.buf.length : Nat) : Int)) ∧ W' = W := by
  have c1 : W.cell? ⟨p, 2, none⟩ = some (.slice A j.buf.length c) := h.blk.cell 2
  clear h
  go_enter Tryz.func22, Tryz.ntmps22
  go_wp2_with fail
  go_ret
  exact ⟨rfl, rfl⟩

theorem lsure_any (W : World) (h : LDat W T p q j A c) : Calls Tryz.prog 21 #[.pointer (some ⟨p, 0, none⟩)] W fun e W' => e = .returned (.int .u64 ((j.sure : Nat) : Int)) ∧ ∃ k, W' = W.drewN k := by
  have c1 : W.cell? ⟨p, 1, none⟩ = some (.int .u64 ((j.next : Nat) : Int)) := h.blk.cell 1
  have c2 : W.cell? ⟨p, 2, none⟩ = some (.slice A j.buf.length c) := h.blk.cell 2
  obtain ⟨n, hn⟩ : ∃ n, j.buf.length = n := ⟨_, rfl⟩
  obtain ⟨x, hx⟩ : ∃ x, j.next = x := ⟨_, rfl⟩
  obtain ⟨s, hs⟩ : ∃ s, j.sure = s := ⟨_, rfl⟩
  have hnx := h.next
  have hsm := h.small.1
  rw [hn] at c2 hnx
  rw [hx] at c1 hnx hsm
  rw [hs] at hnx ⊢
  have e1 : IntKind.u64.wrap ((x : Int) - 1) = (x : Int) - 1 := by rw [IntKind.wrap_u64]; omega
  have e2 : IntKind.u64.wrap (n : Int) = (n : Int) := by rw [IntKind.wrap_u64]; omega
  have e3 : IntKind.u64.wrap ((x : Int) - 1 - (n : Int)) = (s : Int) := by rw [IntKind.wrap_u64]; omega
  clear h hn hx hs hnx hsm
  go_enter Tryz.func21, Tryz.ntmps21
  go_wp2_with fail
  go_region
  go_wp2_with fail
  go_ret
  exact ⟨rfl, ⟨_, rfl⟩⟩
end

theorem lnext_nil (W : World) : Calls Tryz.prog 11 #[.pointer none] W fun e W' => e = .returned (.int .u64 0) ∧ W' = W := by
  go_enter Tryz.func11, Tryz.ntmps11
  go_wp2_with fail
  go_ret
  exact ⟨rfl, rfl⟩

theorem lsure_nil (W : World) : Calls Tryz.prog 21 #[.pointer none] W fun e W' => e = .returned (.int .u64 0) ∧ W' = W := by
  go_enter Tryz.func21, Tryz.ntmps21
  go_wp2_with fail
  go_ret
  exact ⟨rfl, rfl⟩

theorem lwaits_nil (W : World) : Calls Tryz.prog 22 #[.pointer none] W fun e W' => e = .returned (.int .i64 0) ∧ W' = W := by
  go_enter Tryz.func22, Tryz.ntmps22
  go_wp2_with fail
  go_ret
  exact ⟨rfl, rfl⟩

theorem lcommit_nil (W : World) : Calls Tryz.prog 14 #[.pointer none] W fun e W' => e = .returned (.int .i64 8) ∧ W' = W := by
  go_enter Tryz.func14, Tryz.ntmps14
  go_wp2_with fail
  go_ret
  exact ⟨rfl, rfl⟩

theorem lput_nil (W : World) (s : Nat) (k : Int) (X : ByteArray) (l n b : Nat) : Calls Tryz.prog 12 #[.pointer none, rcV s k X l n b] W fun e W' => e = .returned (.tuple #[.int .u64 0, .int .i64 8]) ∧ Below W.heap.size W W' := by
  unfold rcV
  go_enter Tryz.func12, Tryz.ntmps12
  go_wp2_with fail
  go_ret2
  exact ⟨rfl, (Below.refl _ _).alloc (Nat.le_refl _) _⟩

theorem ldrop_nil (W : World) (s : Nat) : Calls Tryz.prog 25 #[.pointer none, .int .u64 ((s : Nat) : Int)] W fun e W' => e = .returned (.int .i64 8) ∧ W' = W := by
  go_enter Tryz.func25, Tryz.ntmps25
  go_wp2_with fail
  go_ret
  exact ⟨rfl, rfl⟩

end Go.Proofs.YthjikbhjciphiaaGreatDoor

/-
  The program's journal: Put.
-/
namespace Go.Proofs.YthjikbhjciphiaaGreatDoor
open Go.RowKit
set_option linter.unusedVariables false
set_option linter.unusedSimpArgs false

/-- A record appended, its number told. -/
theorem lput_tail {w w1 : World} {T : Nat → Prop} {p q c : Nat} {j : Jn} {A : Option Addr} {v' : Value} {m x : Nat} (h : LDat w T p q j A c) (r : Rc) (hm : j.buf.length = m) (hx : j.next = x) (hown : w1.ownsRow (p + 1) 35 6 v' (m + 1) (rcCells j.buf ++ r.cells))
    (hgr : w.grownBy w1 (Value.slice A m c).ownBlock) (hat : v'.ownBlock = (Value.slice A m c).ownBlock ∨ v'.ownBlock = some w.heap.size) (hs : x + 1 < 18446744073709551616) :
    (w1.cell? ⟨p, 2, none⟩ = some (.slice A m c) ∧ w1.frozen? ⟨p, 2, none⟩ = false) ∧ (w1.cell? ⟨p, 1, none⟩ = some (.int .u64 ((x : Nat) : Int)) ∧ w1.frozen? ⟨p, 1, none⟩ = false) ∧ p < w1.heap.size ∧ (∃ A' c', v' = .slice A' (m + 1) c') ∧
    ∃ T' A' c', LDat ((w1.setCell ⟨p, 2, none⟩ v').setCell ⟨p, 1, none⟩ (.int .u64 (((x + 1 : Nat) : Nat) : Int))) T' p q ⟨j.own, j.next + 1, j.sure, j.buf ++ [r], j.size⟩ A' c' ∧ (∀ k, T' k → T k ∨ w.heap.size ≤ k) ∧ Turn T w ((w1.setCell ⟨p, 2, none⟩ v').setCell ⟨p, 1, none⟩ (.int .u64 (((x + 1 : Nat) : Nat) : Int))) := by
  subst hm hx
  have hb1 : Turn (fun k => ∃ a, A = some a ∧ a.block = k) w w1 := by
    refine ⟨hgr.os, hgr.tape, hgr.output, hgr.size, fun k hk hne => hgr.block k hk fun e => hne ?_⟩
    cases hA : A with
    | none => rw [hA] at e; cases e
    | some a => rw [hA] at e; exact ⟨a, rfl, Option.some.inj e.symm⟩
  have hB := hb1.blk h.blk (fun ⟨a, ha, e⟩ => by have := ((own_lenA h.own).2.2.2 a ha).1; omega)
  obtain ⟨A', c', rfl, hf1, hf2, hf3⟩ := own_formk hown
  have ht2 : Turn (fun k => k = p) w1 ((w1.setCell ⟨p, 2, none⟩ (.slice A' (j.buf.length + 1) c')).setCell ⟨p, 1, none⟩ (.int .u64 (((j.next + 1 : Nat) : Nat) : Int))) :=
    ((Turn.refl (fun k => k = p) w1).setCell (p := ⟨p, 2, none⟩) rfl _).setCell (p := ⟨p, 1, none⟩) rfl _
  have ht : Turn T w ((w1.setCell ⟨p, 2, none⟩ (.slice A' (j.buf.length + 1) c')).setCell ⟨p, 1, none⟩ (.int .u64 (((j.next + 1 : Nat) : Nat) : Int))) :=
    (hb1.mono fun k hk => (h.sp k).2 (.inr hk)).trans (ht2.mono fun k hk => (h.sp k).2 (.inl hk))
  have hlen : (j.buf ++ [r]).length = j.buf.length + 1 := by rw [List.length_append, List.length_singleton]
  have hat2 : ∀ a, A' = some a → (∃ b, A = some b ∧ b.block = a.block) ∨ a.block = w.heap.size := by
    intro a ha
    subst ha
    rcases hat with e | e
    · left
      cases hA : A with
      | none => rw [hA] at e; cases e
      | some a2 => rw [hA] at e; exact ⟨a2, rfl, (Option.some.inj e).symm⟩
    · right
      exact Option.some.inj e
  refine ⟨⟨hB.cell 2, hB.frozen 2⟩, ⟨hB.cell 1, hB.frozen 1⟩, hB.lt, ⟨A', c', rfl⟩, fun k => k = p ∨ ∃ a, A' = some a ∧ a.block = k, A', c', ⟨?_, ?_, fun k => Iff.rfl, ?_, ?_⟩, fun k hk => ?_, ht⟩
  · show Blk _ p _ (lgL q ⟨j.own, j.next + 1, j.sure, j.buf ++ [r], j.size⟩ A' c')
    unfold lgL
    simp only
    rw [hlen]
    exact (hB.set 2 (.slice A' (j.buf.length + 1) c')).set 1 (.int .u64 (((j.next + 1 : Nat) : Nat) : Int))
  · show World.ownsRow _ (p + 1) _ 6 (.slice A' (j.buf ++ [r]).length c') (j.buf ++ [r]).length (rcCells (j.buf ++ [r]))
    rw [hlen, rcCells_snoc]
    exact own_turn hown ht2 fun a ha e => by
      have := ((own_lenA hown).2.2.2 a ha).1
      have e' : a.block = p := e
      omega
  · show j.next + 1 = j.sure + 1 + (j.buf ++ [r]).length
    rw [hlen, h.next]
    omega
  · exact ⟨hs, h.small.2.1, h.small.2.2⟩
  · rcases hk with rfl | ⟨a, ha, rfl⟩
    · exact .inl ((h.sp _).2 (.inl rfl))
    · rcases hat2 a ha with ⟨b, hb, e⟩ | e
      · exact .inl ((h.sp _).2 (.inr ⟨b, hb, e⟩))
      · exact .inr (by omega)

set_option maxRecDepth 100000 in
set_option maxHeartbeats 2000000 in
theorem lput_any (W : World) (T : Nat → Prop) (p q c : Nat) (j : Jn) (A : Option Addr) (s : Nat) (k : Int) (X : ByteArray) (l n b : Nat) (h : LDat W T p q j A c) (hD : DK W) (hs : j.next + 1 < 18446744073709551616) (hbl : j.buf.length ≤ 200) (ho : (⟨s, k, X.data.toList, l, n, b⟩ : Rc).okay) (hX : X.size ≤ 10000) :
    Calls Tryz.prog 12 #[.pointer (some ⟨p, 0, none⟩), rcV s k X l n b] W fun e W' => ∃ T' A' c', e = .returned (.tuple #[.int .u64 ((putJ j ⟨s, k, X.data.toList, l, n, b⟩).1.1 : Nat), .int .i64 (putJ j ⟨s, k, X.data.toList, l, n, b⟩).1.2]) ∧ LDat W' T' p q (putJ j ⟨s, k, X.data.toList, l, n, b⟩).2 A' c' ∧ (∀ k, T' k → T k ∨ W.heap.size ≤ k) ∧ Turn T W W' := by
  obtain ⟨i0, hi, hz0, hz1, hz2⟩ := info_parts Tryz.infoRc
  have hpj : putJ j ⟨s, k, X.data.toList, l, n, b⟩ = if checkC ⟨j.next, k, X.data.toList, l, n, b⟩ = 0 then ((j.next, 0), ⟨j.own, j.next + 1, j.sure, j.buf ++ [⟨j.next, k, X.data.toList, l, n, b⟩], j.size⟩) else ((0, checkC ⟨j.next, k, X.data.toList, l, n, b⟩), j) := rfl
  have c1 : W.cell? ⟨p, 1, none⟩ = some (.int .u64 ((j.next : Nat) : Int)) := h.blk.cell 1
  have hplt := h.blk.lt
  obtain ⟨x, hx⟩ : ∃ x, j.next = x := ⟨_, rfl⟩
  obtain ⟨m, hm⟩ : ∃ m, j.buf.length = m := ⟨_, rfl⟩
  rw [hm] at hbl
  rw [hx] at c1 hs
  have hC := fun w (hw : DK w) => check_any x k X l n b (by unfold maxLen; omega) ho.2.2.2.2.2 w hw
  obtain ⟨ck, hck⟩ : ∃ ck, checkC ⟨x, k, X.data.toList, l, n, b⟩ = ck := ⟨_, rfl⟩
  rw [hx, hck] at hpj
  rw [hck] at hC
  have HH := Lib.hid (And.intro h (And.intro hD (And.intro hx (And.intro hm ho))))
  unfold rcV at hC ⊢
  rw [hpj]
  clear h hD hx hm ho hpj hck
  by_cases h0 : ck = 0
  · subst h0
    rw [if_pos rfl]
    go_enter Tryz.func12, Tryz.ntmps12
    go_wp2_with fail
    refine (hC _ (dk_below HH.out.2.1 (by first | exact (Below.refl _ W).alloc (Nat.le_refl _) _) (Nat.le_refl _))).mono ?_
    rintro e w1 ⟨rfl, hb1⟩
    have hBk := (Blk.new W 35 #[.int .u64 (x : Nat), .int .i64 k, .string X, .int .u64 (l : Nat), .int .u64 (n : Nat), .int .u64 (b : Nat)] (cs := [.int .u64 (x : Nat), .int .i64 k, .string X, .int .u64 (l : Nat), .int .u64 (n : Nat), .int .u64 (b : Nat)]) rfl).below hb1 (by simp)
    have d0 : w1.cell? ⟨W.heap.size, 0, none⟩ = some (.int .u64 (x : Nat)) := hBk.cell 0
    have d1 : w1.cell? ⟨W.heap.size, 1, none⟩ = some (.int .i64 k) := hBk.cell 1
    have d2 : w1.cell? ⟨W.heap.size, 2, none⟩ = some (.string X) := hBk.cell 2
    have d3 : w1.cell? ⟨W.heap.size, 3, none⟩ = some (.int .u64 (l : Nat)) := hBk.cell 3
    have d4 : w1.cell? ⟨W.heap.size, 4, none⟩ = some (.int .u64 (n : Nat)) := hBk.cell 4
    have d5 : w1.cell? ⟨W.heap.size, 5, none⟩ = some (.int .u64 (b : Nat)) := hBk.cell 5
    have hb2 : Below W.heap.size W w1 := bthen ((Below.refl _ W).alloc (Nat.le_refl _) _) hb1
    have h1 := HH.out.1.turn (Turn.of_below (S := fun _ => False) hb2) (fun _ h => h.elim)
    have e2 : w1.cell? ⟨p, 2, none⟩ = some (.slice A m c) := by rw [← HH.out.2.2.2.1]; exact h1.blk.cell 2
    have hlt1 : W.heap.size < w1.heap.size := hBk.lt
    have hplt1 : p < w1.heap.size := by omega
    have hown := h1.own
    rw [HH.out.2.2.2.1] at hown
    have HNE : Hid (some W.heap.size ≠ (Value.slice A m c).ownBlock) := Lib.hid (fun e => by
      cases hA : A with
      | none => rw [hA] at e; cases e
      | some a =>
        rw [hA] at e
        have e2 : W.heap.size = a.block := Option.some.inj e
        have := ((own_lenA HH.out.1.own).2.2.2 a hA).2
        omega)
    have hw : IntKind.u64.wrap ((x : Int) + 1) = ((x + 1 : Nat) : Int) := by rw [IntKind.wrap_u64]; omega
    have H1 := Lib.hid (And.intro h1 (And.intro hb2 hBk))
    clear hC hb1 hBk hb2 h1
    go_wp2_with fail
    go_region_law (refine step_append_own rfl (.tmp 23) (.tmp 25) 29 rfl (p + 1) 35 i0 _ 6 56 Tryz.underlying29 hi hz0 hz1 hz2 rfl (by decide) (Value.slice A m c) m (rcCells j.buf) rfl (by first | exact hown.alloc _ | exact hown.drew.alloc _ | exact (hown.alloc _).drew) ⟨w1.heap.size, 0, none⟩ 1 1 [.int .u64 (x : Nat), .int .i64 k, .string X, .int .u64 (l : Nat), .int .u64 (n : Nat), .int .u64 (b : Nat)] rfl rfl (fun y u hu => by
        rw [Addr.add_lit, Nat.zero_add]
        first | (show (w1.alloc _).cell? _ = _; rw [World.cell?_alloc_new]; simpa using hu) | (show (w1.drew.alloc _).cell? ⟨w1.drew.heap.size, y, none⟩ = _; rw [World.cell?_alloc_new]; simpa using hu)) (by simp [Value.oneCell']) (by unfold maxLen; omega) (by omega) (by first | (simp; omega) | (show p + 1 ≤ _; simp; omega)) ?_; intro v4 w4 hown4 hgr hat; obtain ⟨⟨y0, yz⟩, ⟨y1, yw⟩, y5, ⟨A4, c4, rfl⟩, y6⟩ := lput_tail (H1.out.1.turn (S' := fun _ => False) (by first | exact Turn.of_below ((Below.refl _ w1).alloc (Nat.le_refl _) _) | exact Turn.of_below (below_drew ((Below.refl _ w1).alloc (Nat.le_refl _) _)) | exact Turn.of_below ((below_drew (Below.refl _ w1)).alloc (Nat.le_refl _) _)) (fun _ h => h.elim)) ⟨x, k, X.data.toList, l, n, b⟩ HH.out.2.2.2.1 HH.out.2.2.1 hown4 hgr hat hs; have z0 : w4.cell? ⟨W.heap.size, 0, none⟩ = some (.int .u64 (x : Nat)) := Blk.cell ((hgr.block W.heap.size (by first | (simp; omega) | (show W.heap.size < _; simp; omega)) HNE.out).trans (by first | exact H1.out.2.2.alloc _ | exact (H1.out.2.2.alloc _).drew | exact H1.out.2.2.drew.alloc _)) 0; have H6 := Lib.hid y6; have hsz4 := Lib.hid hgr.size; clear y6 hown4 hgr hat)
    all_goals
      go_wp2_with fail
      go_ret2
      obtain ⟨T', A', c', q1, q2, q3⟩ := H6.out
      rw [HH.out.2.2.1] at q1
      refine ⟨T', A', c', rfl, q1, fun k hk => ?_, (Turn.of_below H1.out.2.1 : Turn T W w1).trans (Turn.trans (by first | exact Turn.of_below ((Below.refl _ w1).alloc (Nat.le_refl _) _) | exact Turn.of_below (below_drew ((Below.refl _ w1).alloc (Nat.le_refl _) _)) | exact Turn.of_below ((below_drew (Below.refl _ w1)).alloc (Nat.le_refl _) _)) q3)⟩
      rcases q2 k hk with h | h
      · exact .inl h
      · refine .inr (Nat.le_trans ?_ h)
        first | (simp; omega) | (show W.heap.size ≤ _; simp; omega)
  · rw [if_neg h0]
    go_enter Tryz.func12, Tryz.ntmps12
    go_wp2_with fail
    refine (hC _ (dk_below HH.out.2.1 (by first | exact (Below.refl _ W).alloc (Nat.le_refl _) _) (Nat.le_refl _))).mono ?_
    rintro e w1 ⟨rfl, hb1⟩
    have hb2 : Below W.heap.size W w1 := bthen ((Below.refl _ W).alloc (Nat.le_refl _) _) hb1
    have H1 := Lib.hid hb2
    clear hC hb1 hb2
    go_wp2_with fail
    go_ret2
    exact ⟨T, A, c, rfl, HH.out.1.turn (Turn.of_below (S := fun _ => False) H1.out) (fun _ h => h.elim), fun k hk => .inl hk, Turn.of_below H1.out⟩

end Go.Proofs.YthjikbhjciphiaaGreatDoor

/-
  The library's sort of words: patterns broken by chance.
-/
namespace Go.Proofs.YthjikbhjciphiaaGreatDoor
open Go.RowKit
set_option linter.unusedVariables false
set_option linter.unusedSimpArgs false

theorem pow_len (x : Nat) : 0 < x → x < 18446744073709551616 → 2 ^ Lib.bitLen x ≤ 2 * x := by
  induction x using Nat.strongRecOn with
  | ind x ih =>
    intro h0 h1
    rw [Lib.bitLen_half x (by omega) h1, Nat.add_comm 1, Nat.pow_succ]
    by_cases h : x = 1
    · subst h; decide
    · have := ih (x / 2) (by omega) (by omega) (by omega)
      omega

set_option maxRecDepth 100000 in
theorem npow_any (l M : Nat) (h0 : 0 < l) (hl : l ≤ 1000000000) (hM : 2 ^ Lib.bitLen l = M) (W : World) :
    Calls Tryz.prog 152 #[.int .i64 (l : Nat)] W fun e W' => e = .returned (.int .u64 (M : Nat)) ∧ W' = W := by
  have hp := pow_len l h0 (by omega)
  have hB := fun w => Tryz.bits_Len (l : Int) w (by omega) (by omega)
  rw [Int.toNat_natCast] at hB
  have hk : Lib.bitLen l < 31 := by
    rcases Nat.lt_or_ge (Lib.bitLen l) 31 with h | h
    · exact h
    · have := Nat.pow_le_pow_right (show 0 < 2 by decide) h
      omega
  obtain ⟨k, hkk⟩ : ∃ k, Lib.bitLen l = k := ⟨_, rfl⟩
  rw [hkk] at hB hk hM hp
  have hw : IntKind.u64.wrap (l : Int) = (l : Int) := by rw [IntKind.wrap_u64]; omega
  have hmk : min k 64 = k := by omega
  have hM2 : ((2 : Int) ^ k) = (M : Int) := by rw [← hM]; simp
  have hwM : IntKind.u64.wrap (M : Int) = (M : Int) := by rw [IntKind.wrap_u64]; omega
  clear hkk hp hM
  go_enter Tryz.func152, Tryz.ntmps152
  go_wp2_with fail
  refine (hB _).mono ?_
  rintro e w1 ⟨rfl, rfl⟩
  go_wp2_with fail
  go_ret
  exact ⟨rfl, rfl⟩

def XsP (W : World) (gx : Nat) (e : Ending) (W' : World) : Prop := ∃ v : Nat, v < 18446744073709551616 ∧ e = .returned (.int .u64 (v : Nat)) ∧ Blk W' gx 191 [.int .u64 (v : Nat)] ∧ Turn (fun k => k = gx) W W'

set_option maxRecDepth 100000 in
set_option maxHeartbeats 4000000 in
theorem xs_any (gx v : Nat) (W : World) (hb : Blk W gx 191 [.int .u64 (v : Nat)]) (hv : v < 18446744073709551616) :
    Calls Tryz.prog 153 #[.pointer (some ⟨gx, 0, none⟩)] W (XsP W gx) := by
  obtain ⟨v1, h1⟩ : ∃ x, v * 8192 % 18446744073709551616 = x := ⟨_, rfl⟩
  obtain ⟨v2, h2⟩ : ∃ x, v ^^^ v1 = x := ⟨_, rfl⟩
  have l1 : v1 < 18446744073709551616 := by omega
  have l2 : v2 < 18446744073709551616 := by rw [← h2]; exact Nat.xor_lt_two_pow (n := 64) (by omega) (by omega)
  obtain ⟨v3, h3⟩ : ∃ x, v2 / 128 = x := ⟨_, rfl⟩
  have l3 : v3 < 18446744073709551616 := by omega
  obtain ⟨v4, h4⟩ : ∃ x, v2 ^^^ v3 = x := ⟨_, rfl⟩
  have l4 : v4 < 18446744073709551616 := by rw [← h4]; exact Nat.xor_lt_two_pow (n := 64) (by omega) (by omega)
  obtain ⟨v5, h5⟩ : ∃ x, v4 * 131072 % 18446744073709551616 = x := ⟨_, rfl⟩
  have l5 : v5 < 18446744073709551616 := by omega
  obtain ⟨v6, h6⟩ : ∃ x, v4 ^^^ v5 = x := ⟨_, rfl⟩
  have l6 : v6 < 18446744073709551616 := by rw [← h6]; exact Nat.xor_lt_two_pow (n := 64) (by omega) (by omega)
  have e1 : IntKind.u64.wrap ((v : Int) * 8192) = (v1 : Int) := by rw [IntKind.wrap_u64]; omega
  have e2 : bits .xor .u64 (v : Int) (v1 : Int) = (v2 : Int) := by rw [u64_xor_nat v v1 hv l1, h2]
  have e3 : (v2 : Int) / 128 = (v3 : Int) := by omega
  have e4 : bits .xor .u64 (v2 : Int) (v3 : Int) = (v4 : Int) := by rw [u64_xor_nat v2 v3 l2 l3, h4]
  have e5 : IntKind.u64.wrap ((v4 : Int) * 131072) = (v5 : Int) := by rw [IntKind.wrap_u64]; omega
  have e6 : bits .xor .u64 (v4 : Int) (v5 : Int) = (v6 : Int) := by rw [u64_xor_nat v4 v5 l4 l5, h6]
  have k3 : IntKind.u64.wrap (v3 : Int) = (v3 : Int) := by rw [IntKind.wrap_u64]; omega
  have HL := Lib.hid l6
  have c1 : W.cell? ⟨gx, 0, none⟩ = some (.int .u64 (v : Nat)) := hb.cell 0
  have f1 := hb.frozen 0
  have B2 := hb.set 0 (.int .u64 (v2 : Nat))
  have T2 := (Turn.refl (fun k => k = gx) W).setCell (p := ⟨gx, 0, none⟩) rfl (.int .u64 (v2 : Nat))
  clear h1 h2 h3 h4 h5 h6 l1 l2 l3 l4 l5 l6 hv hb
  go_enter Tryz.func153, Tryz.ntmps153
  go_wp2_with fail
  go_region
  obtain ⟨w2, hw2⟩ : ∃ x, (W.setCell ⟨gx, 0, none⟩ (.int .u64 (v2 : Nat))).drew = x := ⟨_, rfl⟩
  have H2 := Lib.hid (show Blk w2 gx 191 [.int .u64 (v2 : Nat)] ∧ Turn (fun k => k = gx) W w2 from by rw [← hw2]; exact ⟨B2, ⟨T2.os, T2.tape, T2.output, T2.size, T2.block⟩⟩)
  rw [hw2]
  clear hw2 B2 T2 c1 f1
  have c1 : w2.cell? ⟨gx, 0, none⟩ = some (.int .u64 (v2 : Nat)) := H2.out.1.cell 0
  have f1 := H2.out.1.frozen 0
  have B4 := H2.out.1.set 0 (.int .u64 (v4 : Nat))
  have T4 := H2.out.2.setCell (p := ⟨gx, 0, none⟩) rfl (.int .u64 (v4 : Nat))
  clear H2
  go_wp2_with fail
  go_region
  obtain ⟨w4, hw4⟩ : ∃ x, (w2.setCell ⟨gx, 0, none⟩ (.int .u64 (v4 : Nat))).drew = x := ⟨_, rfl⟩
  have H4 := Lib.hid (show Blk w4 gx 191 [.int .u64 (v4 : Nat)] ∧ Turn (fun k => k = gx) W w4 from by rw [← hw4]; exact ⟨B4, ⟨T4.os, T4.tape, T4.output, T4.size, T4.block⟩⟩)
  rw [hw4]
  clear hw4 B4 T4 c1 f1
  have c1 : w4.cell? ⟨gx, 0, none⟩ = some (.int .u64 (v4 : Nat)) := H4.out.1.cell 0
  have f1 := H4.out.1.frozen 0
  have B6 := H4.out.1.set 0 (.int .u64 (v6 : Nat))
  have T6 := H4.out.2.setCell (p := ⟨gx, 0, none⟩) rfl (.int .u64 (v6 : Nat))
  clear H4
  go_wp2_with fail
  go_region
  obtain ⟨w6, hw6⟩ : ∃ x, (w4.setCell ⟨gx, 0, none⟩ (.int .u64 (v6 : Nat))).drew = x := ⟨_, rfl⟩
  have H6 := Lib.hid (show Blk w6 gx 191 [.int .u64 (v6 : Nat)] ∧ Turn (fun k => k = gx) W w6 from by rw [← hw6]; exact ⟨B6, ⟨T6.os, T6.tape, T6.output, T6.size, T6.block⟩⟩)
  rw [hw6]
  clear hw6 B6 T6 c1 f1
  have c1 : w6.cell? ⟨gx, 0, none⟩ = some (.int .u64 (v6 : Nat)) := H6.out.1.cell 0
  go_wp2_with fail
  go_ret
  exact ⟨v6, HL.out, rfl, H6.out.1, H6.out.2⟩

end Go.Proofs.YthjikbhjciphiaaGreatDoor

/-
  The library's sort of words: patterns broken.
-/
namespace Go.Proofs.YthjikbhjciphiaaGreatDoor
open Go.RowKit
set_option linter.unusedVariables false
set_option linter.unusedSimpArgs false

/-- What the breaking of patterns keeps. -/
def BrkI (W : World) (B g n c gx a b : Nat) (xs ys : List Nat) (w : World) : Prop := RowN w B g n c ys ∧ (∃ v : Nat, v < 18446744073709551616 ∧ Blk w gx 191 [.int .u64 (v : Nat)]) ∧ Turn (fun k => k = g) W w ∧ Sws a b xs ys

set_option maxRecDepth 100000 in
set_option maxHeartbeats 8000000 in
theorem break_any (B g n c a b : Nat) (xs : List Nat) (W : World) (h : RowN W B g n c xs) (hab : a + 8 ≤ b) (hb : b ≤ n) (hn : n ≤ 1000000000) :
    Calls Tryz.prog 104 #[.slice (some ⟨g, 0, none⟩) n c, .int .i64 (a : Nat), .int .i64 (b : Nat)] W (SoPost W B g n c fun ys => Sws a b xs ys) := by
  obtain ⟨l, hl⟩ : ∃ x, b - a = x := ⟨_, rfl⟩
  obtain ⟨q, hq⟩ : ∃ x, l / 4 = x := ⟨_, rfl⟩
  obtain ⟨q2, hq2⟩ : ∃ x, q * 2 = x := ⟨_, rfl⟩
  obtain ⟨p, hp⟩ : ∃ x, a + q2 = x := ⟨_, rfl⟩
  obtain ⟨p0, hp0⟩ : ∃ x, p - 1 = x := ⟨_, rfl⟩
  obtain ⟨p1, hp1⟩ : ∃ x, p + 1 = x := ⟨_, rfl⟩
  obtain ⟨M, hM⟩ : ∃ x, 2 ^ Lib.bitLen l = x := ⟨_, rfl⟩
  obtain ⟨m1, hm1⟩ : ∃ x, M - 1 = x := ⟨_, rfl⟩
  have hMl : M ≤ 2 * l := by rw [← hM]; exact pow_len l (by omega) (by omega)
  have hM0 : 0 < M := by rw [← hM]; exact Nat.pow_pos (by decide)
  have hN := fun w => npow_any l M (by omega) (by omega) hM w
  have e1 : (b : Int) - (a : Int) = (l : Int) := by omega
  have e2 : (l : Int) / 4 = (q : Int) := by omega
  have e3 : Int.tdiv (l : Int) 4 = (q : Int) := by rw [Int.tdiv_eq_ediv_of_nonneg (by omega)]; exact e2
  have e4 : (q : Int) * 2 = (q2 : Int) := by omega
  have e5 : (a : Int) + (q2 : Int) = (p : Int) := by omega
  have e6 : (p : Int) - 1 = (p0 : Int) := by omega
  have e7 : (p : Int) + 1 = (p1 : Int) := by omega
  have e8 : (M : Int) - 1 = (m1 : Int) := by omega
  have e9 : IntKind.u64.wrap (l : Int) = (l : Int) := by rw [IntKind.wrap_u64]; omega
  have e10 : IntKind.u64.wrap (m1 : Int) = (m1 : Int) := by rw [IntKind.wrap_u64]; omega
  have t8 : (8 : Int) ≤ (l : Int) := by omega
  have b1 : a ≤ 1000000000 := by omega
  have b2 : b ≤ 1000000000 := by omega
  have b3 : l ≤ 1000000000 := by omega
  have b4 : q ≤ 1000000000 := by omega
  have b5 : q2 ≤ 1000000000 := by omega
  have b6 : p ≤ 1000000000 := by omega
  have b7 : p0 ≤ 1000000000 := by omega
  have b8 : p1 ≤ 1000000000 := by omega
  have b9 : M ≤ 2000000000 := by omega
  have b10 : m1 ≤ 2000000000 := by omega
  have HB := Lib.hid (show a ≤ p0 ∧ p0 + 2 = p1 ∧ p1 < b ∧ b ≤ n ∧ n ≤ 1000000000 ∧ a + l = b ∧ m1 < 2 * l from ⟨by omega, by omega, by omega, hb, hn, by omega, by omega⟩)
  have hlt := h.lt
  have hz := Blk.new (cs := [.int .u64 (l : Nat)]) W 191 _ rfl
  have H0 := Lib.hid (show BrkI W B g n c W.heap.size a b xs xs (W.alloc (.cells #[.int .u64 (l : Nat)] 191)) from
    ⟨h.below ((Below.refl _ _).alloc (Nat.le_refl _) _), ⟨l, by omega, hz⟩, Turn.of_below ((Below.refl _ _).alloc (Nat.le_refl _) _), .refl _⟩)
  have HG := Lib.hid (show W.heap.size ≠ g ∧ W.heap.size ≤ W.heap.size from ⟨by omega, Nat.le_refl _⟩)
  clear h hab hb hn hl hq hq2 hp hp0 hp1 hM hm1 hMl hM0 hlt hz
  go_enter Tryz.func104, Tryz.ntmps104
  go_wp2_with fail
  refine (hN _).mono ?_
  rintro e w1 ⟨rfl, rfl⟩
  obtain ⟨gx, hgx⟩ : ∃ x, W.heap.size = x := ⟨_, rfl⟩
  rw [hgx] at H0 HG ⊢
  have HGX := Lib.hid hgx
  clear hgx hN
  generalize W.alloc (.cells #[.int .u64 (l : Nat)] 191) = w0 at H0 ⊢
  go_wp2_with fail
  go_loopw [9] (fun vi wr => ∃ (i : Nat) (ys : List Nat), vi = .int .i64 i ∧ p0 ≤ i ∧ i ≤ p1 + 1 ∧ BrkI W B g n c gx a b xs ys wr) (fun vi _ => n - (intOf vi).toNat)
  case atStart => exact ⟨p0, xs, rfl, Nat.le_refl _, by have := HB.out; omega, H0.out⟩
  case round =>
    obtain ⟨i, ys, rfl, h0i, hi1, hI⟩ := hrel
    by_cases hlt : i ≤ p1
    · have t1 : (i : Int) ≤ (p1 : Int) := by omega
      have hi9 : i ≤ 1000000000 := by omega
      obtain ⟨hr, ⟨v, hv, hx⟩, ht, hs⟩ := hI
      have hX := xs_any gx v wr hx hv
      have HI := Lib.hid (show RowN wr B g n c ys ∧ Turn (fun k => k = g) W wr ∧ Sws a b xs ys ∧ p0 ≤ i ∧ i ≤ p1 from ⟨hr, ht, hs, h0i, hlt⟩)
      clear hr hx ht hs h0i hi1 hlt hv
      go_wp2_with fail
      refine hX.mono ?_
      rintro e w9 ⟨u, hu, rfl, hx9, ht9⟩
      obtain ⟨s, hs⟩ : ∃ x, u &&& m1 = x := ⟨_, rfl⟩
      have hsm : s ≤ m1 := by rw [← hs]; exact Nat.and_le_right
      have e11 : bits .and .u64 (u : Int) (m1 : Int) = (s : Int) := by rw [u64_and_nat u m1 hu (by omega), hs]
      have e12 : IntKind.i64.wrap (s : Int) = (s : Int) := by rw [IntKind.wrap_i64]; omega
      have hs9 : s ≤ 2000000000 := by omega
      have HS9 := Lib.hid (show RowN w9 B g n c ys ∧ Turn (fun k => k = g) W w9 ∧ Sws a b xs ys ∧ p0 ≤ i ∧ i ≤ p1 ∧ s ≤ m1 ∧ u < 18446744073709551616 ∧ Blk w9 gx 191 [.int .u64 (u : Nat)] from
        ⟨HI.out.1.turn ht9 (fun e => HG.out.1 e.symm), turn_cnt HI.out.2.1 (by have := HGX.out; omega) ht9, HI.out.2.2.1, HI.out.2.2.2.1, HI.out.2.2.2.2, hsm, hu, hx9⟩)
      clear HI hX hu hx9 ht9 hs hsm
      have h9 := HS9.out.2.2
      by_cases hsl : l ≤ s
      · skip
        have t2 : (l : Int) ≤ (s : Int) := by omega
        obtain ⟨s2, hs2⟩ : ∃ x, s - l = x := ⟨_, rfl⟩
        have e13 : (s : Int) - (l : Int) = (s2 : Int) := by omega
        obtain ⟨k, hk⟩ : ∃ x, a + s2 = x := ⟨_, rfl⟩
        have e14 : (a : Int) + (s2 : Int) = (k : Int) := by omega
        have hkb : a ≤ k ∧ k < b := by have := HB.out; omega
        have hib : a ≤ i ∧ i < b := by have := HB.out; omega
        have hk9 : k ≤ 1000000000 := by omega
        have e15 : IntKind.i64.wrap (k : Int) = (k : Int) := by rw [IntKind.wrap_i64]; omega
        have r9 := HS9.out.1
        have t9 := HS9.out.2.1
        have hln := r9.len
        have hb := HB.out
        obtain ⟨x, hx⟩ : ∃ x, atN ys i = x := ⟨_, rfl⟩
        obtain ⟨y, hy⟩ : ∃ y, atN ys k = y := ⟨_, rfl⟩
        have hpn : i < n := by omega
        have hqn : k < n := by omega
        have c1 := r9.cell i hpn x hx
        have c2 := r9.cell k hqn y hy
        have f1 := r9.frozen i
        have f2 := r9.frozen k
        obtain ⟨x3, hx3⟩ : ∃ x, atN (ys.set i y) k = x := ⟨_, rfl⟩
        have c3 := (r9.set i y).cell k hqn x3 hx3
        have f3 := (r9.set i y).frozen k
        have HRT := Lib.hid (show RowN ((w9.setCell ⟨g, i, none⟩ (.int .u64 (y : Nat))).setCell ⟨g, k, none⟩ (.int .u64 (x : Nat))).drew B g n c (swp ys i k) ∧ Turn (fun k => k = g) W ((w9.setCell ⟨g, i, none⟩ (.int .u64 (y : Nat))).setCell ⟨g, k, none⟩ (.int .u64 (x : Nat))).drew from ⟨r9.swap i k x y hx hy, turn_swap0 t9 i k (.int .u64 (y : Nat)) (.int .u64 (x : Nat))⟩)
        have hpni : (i : Int) < (n : Int) := by omega
        have hqni : (k : Int) < (n : Int) := by omega
        have HN := Lib.hid (show BrkI W B g n c gx a b xs (swp ys i k) ((w9.setCell ⟨g, i, none⟩ (.int .u64 (y : Nat))).setCell ⟨g, k, none⟩ (.int .u64 (x : Nat))).drew ∧ i + 1 ≤ p1 + 1 ∧ p0 ≤ i + 1 ∧ i < n from
          ⟨⟨HRT.out.1, ⟨u, h9.2.2.2.2.1, (h9.2.2.2.2.2.other ⟨g, i, none⟩ _ HG.out.1).other ⟨g, k, none⟩ _ HG.out.1⟩, HRT.out.2, Sws.step i k h9.1 hib.1 hib.2 hkb.1 hkb.2 (by omega)⟩, by omega, by omega, hpn⟩)
        clear r9 t9 hln hb hx hy hx3 hpn hqn hkb hib h9 hk hsl HRT HS9 hs2
        go_wp2_with fail
        go_region
        go_wp2_with fail
        go_roundw
        case rel => exact ⟨i + 1, swp ys i k, by go_num, HN.out.2.2.1, HN.out.2.1, HN.out.1⟩
        case measure => have := HN.out; simp [intOf]; omega
      · skip
        have t2 : ¬ (l : Int) ≤ (s : Int) := by omega
        obtain ⟨k, hk⟩ : ∃ x, a + s = x := ⟨_, rfl⟩
        have e14 : (a : Int) + (s : Int) = (k : Int) := by omega
        have hkb : a ≤ k ∧ k < b := by have := HB.out; omega
        have hib : a ≤ i ∧ i < b := by have := HB.out; omega
        have hk9 : k ≤ 1000000000 := by omega
        have e15 : IntKind.i64.wrap (k : Int) = (k : Int) := by rw [IntKind.wrap_i64]; omega
        have r9 := HS9.out.1
        have t9 := HS9.out.2.1
        have hln := r9.len
        have hb := HB.out
        obtain ⟨x, hx⟩ : ∃ x, atN ys i = x := ⟨_, rfl⟩
        obtain ⟨y, hy⟩ : ∃ y, atN ys k = y := ⟨_, rfl⟩
        have hpn : i < n := by omega
        have hqn : k < n := by omega
        have c1 := r9.cell i hpn x hx
        have c2 := r9.cell k hqn y hy
        have f1 := r9.frozen i
        have f2 := r9.frozen k
        obtain ⟨x3, hx3⟩ : ∃ x, atN (ys.set i y) k = x := ⟨_, rfl⟩
        have c3 := (r9.set i y).cell k hqn x3 hx3
        have f3 := (r9.set i y).frozen k
        have HRT := Lib.hid (show RowN ((w9.setCell ⟨g, i, none⟩ (.int .u64 (y : Nat))).setCell ⟨g, k, none⟩ (.int .u64 (x : Nat))).drew B g n c (swp ys i k) ∧ Turn (fun k => k = g) W ((w9.setCell ⟨g, i, none⟩ (.int .u64 (y : Nat))).setCell ⟨g, k, none⟩ (.int .u64 (x : Nat))).drew from ⟨r9.swap i k x y hx hy, turn_swap0 t9 i k (.int .u64 (y : Nat)) (.int .u64 (x : Nat))⟩)
        have hpni : (i : Int) < (n : Int) := by omega
        have hqni : (k : Int) < (n : Int) := by omega
        have HN := Lib.hid (show BrkI W B g n c gx a b xs (swp ys i k) ((w9.setCell ⟨g, i, none⟩ (.int .u64 (y : Nat))).setCell ⟨g, k, none⟩ (.int .u64 (x : Nat))).drew ∧ i + 1 ≤ p1 + 1 ∧ p0 ≤ i + 1 ∧ i < n from
          ⟨⟨HRT.out.1, ⟨u, h9.2.2.2.2.1, (h9.2.2.2.2.2.other ⟨g, i, none⟩ _ HG.out.1).other ⟨g, k, none⟩ _ HG.out.1⟩, HRT.out.2, Sws.step i k h9.1 hib.1 hib.2 hkb.1 hkb.2 (by omega)⟩, by omega, by omega, hpn⟩)
        clear r9 t9 hln hb hx hy hx3 hpn hqn hkb hib h9 hk hsl HRT HS9
        go_wp2_with fail
        go_region
        go_wp2_with fail
        go_roundw
        case rel => exact ⟨i + 1, swp ys i k, by go_num, HN.out.2.2.1, HN.out.2.1, HN.out.1⟩
        case measure => have := HN.out; simp [intOf]; omega
    · have t1 : ¬ (i : Int) ≤ (p1 : Int) := by omega
      have HN := Lib.hid hI
      clear hI h0i hi1 hlt
      go_wp2_with fail
      go_end0
      exact ⟨rfl, ys, HN.out.1, HN.out.2.2.1, HN.out.2.2.2⟩

end Go.Proofs.YthjikbhjciphiaaGreatDoor
