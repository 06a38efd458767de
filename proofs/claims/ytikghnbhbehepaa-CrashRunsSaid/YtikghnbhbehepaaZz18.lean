/-
  The program's work: each call is done, and its answer heeded, up to the one that is thrown.
-/
import Derived.Test.YtikghnbhbehepaaZz17
import Derived.Maps.AppendAt
namespace Go.Proofs.Ytikghnbhbehepaa
open Go.RowKit
set_option linter.unusedVariables false
set_option linter.unusedSimpArgs false

/-- A function that heeds answers: J w T told: so much was told, its blocks T; an answer at which the work is to end is thrown. -/
structure Heeds (F : FuncId) (cap : Array Value) (st : Int → Bool) (J : World → (Nat → Prop) → List Int → Prop) : Prop where
  enters : ∀ args w, (callFunc F args).run Try.prog w = .ok (.enter F args) w
  turn : ∀ {w w' : World} {S T : Nat → Prop} {told : List Int}, J w T told → Turn S w w' → (∀ k, S k → ¬ T k) → J w' T told
  here : ∀ {w : World} {T : Nat → Prop} {told : List Int}, J w T told → ∀ k, T k → k < w.heap.size
  goes : ∀ (W : World) (T : Nat → Prop) (told : List Int) (e : Int), J W T told → told.length ≤ 1000 → st e = false →
    Calls Try.prog F (#[.int .i64 e] ++ cap) W fun r W' => ∃ T', r = .returned (.tuple #[]) ∧ J W' T' (told ++ [e]) ∧ (∀ k, T' k → T k ∨ W.heap.size ≤ k) ∧ Turn T W W'
  stops : ∀ (W : World) (T : Nat → Prop) (told : List Int) (e : Int), J W T told → st e = true →
    Calls Try.prog F (#[.int .i64 e] ++ cap) W fun r W' => r = .panicked [{ v := .iface 42 (.int .i64 e), recovered := false }] ∧ W' = W

/-- How the work stands: the disk, what was told, blocks apart. -/
def WorkS (J : World → (Nat → Prop) → List Int → Prop) (W w : World) (q : Nat) (S0 T0 : Nat → Prop) (m : Dk) (told : List Int) : Prop :=
  ∃ S T, PD w S q m ∧ J w T told ∧ (∀ j, S j → ¬ T j) ∧ (∀ j, S j → S0 j ∨ W.heap.size < j) ∧ (∀ j, T j → T0 j ∨ W.heap.size < j) ∧ Turn (fun j => S0 j ∨ T0 j ∨ W.heap.size ≤ j) W w
/-- Ahead of the k-th call. -/
def WorkI (J : World → (Nat → Prop) → List Int → Prop) (st : Int → Bool) (W w : World) (q k0 : Nat) (S0 T0 : Nat → Prop) (m0 : Dk) (told0 : List Int) (l : List Wk) (k : Nat) : Prop :=
  ∃ m told, WorkS J W w q S0 T0 m (told0 ++ told) ∧ Blk w W.heap.size 42 [.int .i64 0] ∧ OkD (k0 + k) m ∧ told.length ≤ k ∧ workD st m0 l = (told ++ (workD st m (l.drop k)).1, (workD st m (l.drop k)).2)
def WorkPost (J : World → (Nat → Prop) → List Int → Prop) (st : Int → Bool) (W : World) (q : Nat) (S0 T0 : Nat → Prop) (m0 : Dk) (told0 : List Int) (l : List Wk) (e : Ending) (W' : World) : Prop :=
  e = .returned (.int .i64 (workD st m0 l).2.2) ∧ WorkS J W W' q S0 T0 (workD st m0 l).2.1 (told0 ++ (workD st m0 l).1) ∧ OkD 200 (workD st m0 l).2.1

set_option maxRecDepth 100000 in
set_option maxHeartbeats 4000000 in
theorem work_any {F : FuncId} {cap : Array Value} {st : Int → Bool} {J : World → (Nat → Prop) → List Int → Prop} (H : Heeds F cap st J) (A : Option Addr) (n c : Nat) (l : List Wk) (W : World) (S0 T0 : Nat → Prop) (q k0 : Nat) (m0 : Dk) (told0 : List Int)
    (hPD : PD W S0 q m0) (hJ : J W T0 told0) (hST : ∀ j, S0 j → ¬ T0 j) (hO : OkD k0 m0) (hk0 : k0 ≤ 100) (ht0 : told0.length ≤ 100) (hl : Wks W (fun k => S0 k ∨ T0 k ∨ W.heap.size ≤ k) A n l) (hs : SmallW l) :
    Calls Try.prog 25 #[.pointer (some ⟨q, 0, none⟩), .slice A n c, .func (.func F) #[] cap] W (WorkPost J st W q S0 T0 m0 told0 l) := by
  have hmf : ∀ (fn : Fn) (first cap : Array Value) (w : World), (Instr.makeFunc fn first cap).run Try.prog w = .ok (.func fn first cap) w := fun _ _ _ _ => rfl
  have HL : Hid (l.length = n) := Lib.hid hl.len
  have HF := Lib.hid (And.intro hl hs)
  have hn60 : n ≤ 60 := by have := hl.len; have := hs.1; omega
  have hI0 : WorkI J st W (W.alloc (.cells #[.int .i64 0] 42)) q k0 S0 T0 m0 told0 l 0 := by
    refine ⟨m0, [], ?_, Blk.new W _ _ rfl, hO, Nat.le_refl _, rfl⟩
    have ht : Turn (fun _ => False) W (W.alloc (.cells #[.int .i64 0] 42)) := (Turn.refl _ W).alloc _
    refine ⟨S0, T0, hPD.turn ht (fun k hk => hk.elim), ?_, hST, fun j hj => .inl hj, fun j hj => .inl hj, ht.mono fun _ h => h.elim⟩
    rw [List.append_nil]
    exact H.turn hJ ht (fun k hk => hk.elim)
  have HI := Lib.hid hI0
  have HLT : Hid ((∀ j, S0 j → j < W.heap.size) ∧ ∀ j, T0 j → j < W.heap.size) := Lib.hid ⟨fun j hj => by
    obtain ⟨_, _, _, _, _, h⟩ := hPD
    exact h.lt j hj, H.here hJ⟩
  clear hPD hJ hST hO hl hs hI0
  go_enter_defers Try.func25, Try.ntmps25
  go_wp2_with fail
  go_loopw [13] (fun i wr => ∃ k : Nat, k ≤ n ∧ i = .int .i64 k ∧ WorkI J st W wr q k0 S0 T0 m0 told0 l k) (fun i _ => n - (intOf i).toNat)
  case atStart => exact ⟨0, Nat.zero_le _, rfl, HI.out⟩
  case round =>
    obtain ⟨k, hk, rfl, hWI⟩ := hrel
    by_cases hlt : k < n
    · obtain ⟨o, ho⟩ : ∃ o, l[k]? = some o := ⟨_, List.getElem?_eq_getElem (by have := HL.out; omega)⟩
      have hdr : l.drop k = o :: l.drop (k + 1) := by
        rw [List.drop_eq_getElem_cons (by have := HL.out; omega)]
        congr 1
        have := List.getElem?_eq_getElem (l := l) (i := k) (by have := HL.out; omega)
        rw [ho] at this
        exact (Option.some.inj this).symm
      have hsm : SmallO o := HF.out.2.2 o (List.mem_of_getElem? ho)
      obtain ⟨m, told, ⟨S, T, hPD, hJ, hST, hS, hT, hTu⟩, hG, hOk, htl, hwk⟩ := hWI
      obtain ⟨b, f, A2, n2, c2, rfl, hbS, hbl, hcells, hby, hnil2, _, _⟩ := (HF.out.1.turn hTu).at_ ho
      rw [hdr] at hwk
      have hPC := fun w => pcall_any o A2 n2 c2 w
      unfold wkV at hPC
      obtain ⟨TN, hTN⟩ : ∃ T : ByteArray, ⟨o.name.toArray⟩ = T := ⟨_, rfl⟩
      obtain ⟨TU, hTU⟩ : ∃ T : ByteArray, ⟨o.dest.toArray⟩ = T := ⟨_, rfl⟩
      obtain ⟨K, hK⟩ : ∃ K, o.kind = K := ⟨_, rfl⟩
      rw [hTN, hTU, hK] at hPC hcells
      obtain ⟨r0, r1, r2, r3⟩ := hcells
      cases hw : isWk o
      · have hv : ∀ g, callV K g = .nilFunc := fun g => by rw [← hK]; exact call_none_of o g hw
        have hqn : ∀ w : World, (binOp .neq 67 .nilFunc .nilFunc).run Try.prog w = .ok (.bool false) w := fun _ => by kernel_rfl
        have HR : Hid (∀ o1 o2, WorkI J st W ((wr.alloc o1).alloc o2) q k0 S0 T0 m0 told0 l (k + 1)) := Lib.hid (fun o1 o2 => by
          have ht : Turn (fun _ => False) wr ((wr.alloc o1).alloc o2) := ((Turn.refl _ wr).alloc _).alloc _
          refine ⟨m, told, ⟨S, T, hPD.turn ht (fun k hk => hk.elim), H.turn hJ ht (fun k hk => hk.elim), hST, hS, hT, hTu.trans (ht.mono fun _ h => h.elim)⟩, ht.blk hG (fun h => h), hOk.upto (by omega), by omega, ?_⟩
          rw [hwk, workD_skip _ _ _ _ hw])
        clear ho hdr hsm hPD hJ hST hS hT hTu hG hOk htl hwk hbS hby hnil2 hTN hTU hK hw
        go_wp2_with fail
        refine (hPC _).mono ?_
        rintro e W2 ⟨rfl, rfl⟩
        rw [hv]
        go_wp2_with fail
        go_roundw
        case rel => exact ⟨k + 1, by omega, by go_num, HR.out _ _⟩
        case measure => simp [intOf]; omega
      · obtain ⟨F2, hF2, hD⟩ := call_does o (wr.heap.size + 1) hw
        rw [hK] at hF2
        have he2 := hD.enters
        have heF := H.enters
        have hqn : ∀ (F : FuncId) (a b : Array Value) (w : World), (binOp .neq 67 (.func (.func F) a b) .nilFunc).run Try.prog w = .ok (.bool true) w := fun _ _ _ _ => by kernel_rfl
        obtain ⟨w2, hw2⟩ : ∃ w2, (wr.alloc (.cells #[.int .i64 K, .string TN, .string TU, .slice A2 n2 c2] 49)).alloc (.cells #[.int .i64 K, .string TN, .string TU, .slice A2 n2 c2] 49) = w2 := ⟨_, rfl⟩
        have ht2 : Turn (fun _ => False) wr w2 := by rw [← hw2]; exact ((Turn.refl _ wr).alloc _).alloc _
        have hat : OpAt w2 (wr.heap.size + 1) o A2 n2 c2 := by
          rw [← hw2]
          unfold OpAt
          rw [hTN, hTU, hK]
          exact ⟨by simp [go_sem], by simp [go_sem], by simp [go_sem], by simp [go_sem]⟩
        have hDo := hD.does w2 S q m o A2 n2 c2 (wr.heap.size + 1) rfl (hPD.turn ht2 (fun k hk => hk.elim)) (hOk.upto (by omega)) hsm hat ((hby.less fun j hj => (hS j hj).elim .inl fun h => .inr (.inr (Nat.le_of_lt h))).turn (ht2.mono fun _ h => h.elim)) hnil2
        have HN := Lib.hid (And.intro hw2 ht2)
        clear hD hat
        go_wp2_with fail
        refine (hPC _).mono ?_
        rintro e W2 ⟨rfl, rfl⟩
        rw [show (wr.alloc (.cells #[.int .i64 K, .string TN, .string TU, .slice A2 n2 c2] 49)).heap.size = wr.heap.size + 1 from by simp, hF2, hw2]
        have HQ := Lib.hid (And.intro hPD (And.intro hJ (And.intro hST (And.intro hS (And.intro hT (And.intro hTu (And.intro hG (And.intro hOk (And.intro htl (And.intro hwk hsm))))))))))
        clear hPD hJ hST hS hT hTu hG hOk htl hwk hsm hbS hby hnil2 r0 r1 r2 r3 hPC hw2 ho hdr hTN hTU hK hF2 hbl
        obtain ⟨a1, ha1⟩ : ∃ a, (doD m o.sp).1 = a := ⟨_, rfl⟩
        obtain ⟨m1, hm1⟩ : ∃ a, (doD m o.sp).2 = a := ⟨_, rfl⟩
        unfold StepPost at hDo
        rw [ha1, hm1] at hDo
        go_wp2_with (go_at_fn F2; refine hDo.mono ?_; rintro e W3 ⟨S', rfl, hPD3, hS3, ht3⟩)
        have HG : Hid (Blk W3 W.heap.size 42 [.int .i64 0] ∧ J W3 T (told0 ++ told) ∧ Turn (fun j => S0 j ∨ T0 j ∨ W.heap.size ≤ j) W W3 ∧ (∀ j, S' j → ¬ T j) ∧ (∀ j, S' j → S0 j ∨ W.heap.size < j) ∧ OkD (k0 + (k + 1)) m1) := Lib.hid (by
          obtain ⟨hPD, hJ, hST, hS, hT, hTu, hG, hOk, htl, hwk, hsm⟩ := HQ.out
          have hng : ∀ j, S j → j ≠ W.heap.size := fun j hj => by
            rcases hS j hj with h | h
            · have := HLT.out.1 j h; omega
            · omega
          have hw2s := ht2.size
          have hwrs := hTu.size
          refine ⟨ht3.blk (ht2.blk hG (fun h => h)) (fun h => hng _ h rfl), H.turn (H.turn hJ ht2 (fun k hk => hk.elim)) ht3 hST, hTu.trans ((ht2.mono fun _ h => h.elim).trans (ht3.mono fun j hj => ?_)), fun j hj hj2 => ?_, fun j hj => ?_, ?_⟩
          · rcases hS j hj with h | h
            · exact .inl h
            · exact .inr (.inr (by omega))
          · rcases hS3 j hj with h | h
            · exact hST j h hj2
            · have := H.here hJ j hj2
              omega
          · rcases hS3 j hj with h | h
            · exact hS j h
            · have := hG.lt
              exact .inr (by omega)
          · rw [← hm1]
            exact do_ok o.sp hOk hsm.1 (by show (0 : Nat) < _; omega))
        cases hst : st a1
        · have HW : Hid (workD st m0 l = (told ++ [a1] ++ (workD st m1 (l.drop (k + 1))).1, (workD st m1 (l.drop (k + 1))).2) ∧ (told ++ [a1]).length ≤ k + 1) := Lib.hid (by
            obtain ⟨hPD, hJ, hST, hS, hT, hTu, hG, hOk, htl, hwk, hsm⟩ := HQ.out
            refine ⟨?_, by simp; omega⟩
            rw [hwk, workD_go _ _ _ _ hw (by rw [ha1]; exact hst), ha1, hm1]
            simp)
          refine (H.goes W3 T (told0 ++ told) a1 HG.out.2.1 (by rw [List.length_append]; have := HQ.out.2.2.2.2.2.2.2.2.1; omega) hst).mono ?_
          rintro e W4 ⟨T', rfl, hJ4, hT4, ht4⟩
          have HR : Hid (WorkI J st W W4 q k0 S0 T0 m0 told0 l (k + 1)) := Lib.hid (by
            obtain ⟨hG3, hJ3, hTu3, hST3, hS4, hOk4⟩ := HG.out
            obtain ⟨hPD, hJ, hST, hS, hT, hTu, hG, hOk, htl, hwk, hsm⟩ := HQ.out
            have hPDl : ∀ j, S' j → j < W3.heap.size := fun j hj => by
              obtain ⟨_, _, _, _, _, h⟩ := hPD3
              exact h.lt j hj
            have hgl := hG3.lt
            have hTg : ∀ j, T j → j ≠ W.heap.size := fun j hj => by
              rcases hT j hj with h | h
              · have := HLT.out.2 j h; omega
              · omega
            refine ⟨m1, told ++ [a1], ⟨S', T', hPD3.turn ht4 (fun j hj hj2 => hST3 j hj2 hj), by rw [← List.append_assoc]; exact hJ4, fun j hj hj2 => ?_, hS4, fun j hj => ?_, hTu3.trans (ht4.mono fun j hj => ?_)⟩, ht4.blk hG3 (fun h => hTg _ h rfl), hOk4, HW.out.2, HW.out.1⟩
            · rcases hT4 j hj2 with h | h
              · exact hST3 j hj h
              · have := hPDl j hj; omega
            · rcases hT4 j hj with h | h
              · exact hT j h
              · exact .inr (by omega)
            · rcases hT j hj with h | h
              · exact .inr (.inl h)
              · exact .inr (.inr (by omega)))
          clear hJ4 hT4 ht4 hPD3 hS3 ht3 ht2 he2 heF HG HW HQ
          go_wp2_with fail
          go_roundw
          case rel => exact ⟨k + 1, by omega, by go_num, HR.out⟩
          case measure => simp [intOf]; omega
        · refine (H.stops W3 T (told0 ++ told) a1 HG.out.2.1 hst).mono ?_
          rintro e W4 ⟨rfl, rfl⟩
          have HR : Hid (WorkPost J st W q S0 T0 m0 told0 l (.returned (.int .i64 a1)) (W4.setCell ⟨W.heap.size, 0, none⟩ (.int .i64 a1))) := Lib.hid (by
            obtain ⟨hG3, hJ3, hTu3, hST3, hS4, hOk4⟩ := HG.out
            obtain ⟨hPD, hJ, hST, hS, hT, hTu, hG, hOk, htl, hwk, hsm⟩ := HQ.out
            have hst2 := workD_stop st m o (l.drop (k + 1)) hw (by rw [ha1]; exact hst)
            rw [ha1, hm1] at hst2
            rw [hst2] at hwk
            simp only [List.append_nil] at hwk
            have ht : Turn (fun j => j = W.heap.size) W4 (W4.setCell ⟨W.heap.size, 0, none⟩ (.int .i64 a1)) := (Turn.refl (fun j => j = W.heap.size) W4).setCell (p := ⟨W.heap.size, 0, none⟩) rfl _
            have hng : ∀ j, S' j → j ≠ W.heap.size := fun j hj => by
              rcases hS4 j hj with h | h
              · have := HLT.out.1 j h; omega
              · omega
            have hTg : ∀ j, T j → j ≠ W.heap.size := fun j hj => by
              rcases hT j hj with h | h
              · have := HLT.out.2 j h; omega
              · omega
            unfold WorkPost
            rw [hwk]
            refine ⟨rfl, ⟨S', T, hPD3.turn ht (fun j hj hj2 => hng j hj2 hj), H.turn hJ3 ht (fun j hj hj2 => hTg j hj2 hj), hST3, hS4, hT, hTu3.trans (ht.mono fun j hj => .inr (.inr (by omega)))⟩, hOk4.upto (by omega)⟩)
          have hc : W4.cell? ⟨W.heap.size, 0, none⟩ = some (.int .i64 0) := HG.out.1.cell 0
          have hz : W4.frozen? ⟨W.heap.size, 0, none⟩ = false := HG.out.1.frozen _
          clear hPD3 hS3 ht3 ht2 he2 heF HG HQ
          change bodyPostD Try.prog Try.f25 _ (Exit.panic _) _ W4
          refine leaves_cons (f := 40) (args := #[.pointer (some ⟨W.heap.size, 0, none⟩)]) (by simp) (by simp [go_sem]) ?_
          refine (catch_panic W.heap.size 0 a1 [] W4 hc hz).mono ?_
          rintro e u' w'' ⟨rfl, rfl, rfl⟩
          simp [Leaves, settle, results, Try.results25, go_sem, hc]
          exact HR.out
    · obtain rfl : k = n := by omega
      have HR : Hid (WorkPost J st W q S0 T0 m0 told0 l (.returned (.int .i64 0)) (wr.setCell ⟨W.heap.size, 0, none⟩ (.int .i64 0))) := Lib.hid (by
        obtain ⟨m, told, ⟨S, T, hPD, hJ, hST, hS, hT, hTu⟩, hG, hOk, htl, hwk⟩ := hWI
        rw [List.drop_eq_nil_of_le (by have := HL.out; omega), workD_nil, List.append_nil] at hwk
        have ht : Turn (fun j => j = W.heap.size) wr (wr.setCell ⟨W.heap.size, 0, none⟩ (.int .i64 0)) := (Turn.refl (fun j => j = W.heap.size) wr).setCell (p := ⟨W.heap.size, 0, none⟩) rfl _
        have hng : ∀ j, S j → j ≠ W.heap.size := fun j hj => by
          rcases hS j hj with h | h
          · have := HLT.out.1 j h; omega
          · omega
        have hTg : ∀ j, T j → j ≠ W.heap.size := fun j hj => by
          rcases hT j hj with h | h
          · have := HLT.out.2 j h; omega
          · omega
        unfold WorkPost
        rw [hwk]
        refine ⟨rfl, ⟨S, T, hPD.turn ht (fun j hj hj2 => hng j hj2 hj), H.turn hJ ht (fun j hj hj2 => hTg j hj2 hj), hST, hS, hT, hTu.trans (ht.mono fun j hj => .inr (.inr (by omega)))⟩, hOk.upto (by omega)⟩)
      have hc : wr.cell? ⟨W.heap.size, 0, none⟩ = some (.int .i64 0) := by
        obtain ⟨_, _, _, hG, _⟩ := hWI
        exact hG.cell 0
      have hz : wr.frozen? ⟨W.heap.size, 0, none⟩ = false := by
        obtain ⟨_, _, _, hG, _⟩ := hWI
        exact hG.frozen _
      clear hWI
      go_wp2_with fail
      refine leaves_cons (f := 40) (args := #[.pointer (some ⟨W.heap.size, 0, none⟩)]) (by simp) (by simp [go_sem]) ?_
      refine (catch_none W.heap.size _).mono ?_
      rintro e u' w'' ⟨rfl, rfl, rfl⟩
      simp [Leaves, settle, results, Try.results25, go_sem, hc]
      exact HR.out

end Go.Proofs.Ytikghnbhbehepaa

/-
  The two functions that heed answers; work as Run and Must do it; how many calls there are; what a crash leaves.
-/
namespace Go.Proofs.Ytikghnbhbehepaa
open Go.RowKit
set_option linter.unusedVariables false
set_option linter.unusedSimpArgs false

/-- An append onto a row of one's own, and where it lies behind it. -/
theorem wpList_append_own_at {P : Program} (w : World) {ops : Array Oper} {rest : List Oper} {o : Oper} {a : Act} {Q : Exit → Act → World → Prop} (hgd : Region.wanted o (yielded ops a.tmps) = true) (s x : Operand) (t : TypeId)
    (ho : o.op = .call { callee := .builtin .append, args := #[s, x], argTypes := #[t, t] })
    (base : Nat) (e : TypeId) (i : TypeInfo) (z : Value) (size bytes : Nat) (ht : P.underlying t = some (.slice e)) (hi : P.info? e = some i) (hz : i.zero = some z)
    (hsize : i.size = size) (hby : i.bytes = bytes) (hzs : z.cells.size = size) (hsz : 0 < size)
    (v : Value) (n : Nat) (xs : List Value) (hs : a.eval s = v) (hown : w.ownsRow base e size v n xs)
    (ad : Addr) (m c : Nat) (news : List Value) (hx : a.eval x = .slice (some ad) m c) (hl : news.length = m * size) (hnews : ∀ j u, news[j]? = some u → w.cell? (ad.add j) = some u) (h1 : ∀ u ∈ news, u.oneCell' = true)
    (h63 : n + m ≤ maxLen) (hbytes : (n + m) * bytes ≤ 140737488355328) (hbase : base ≤ w.heap.size)
    (h : ∀ v' w', w'.ownsRow base e size v' (n + m) (xs ++ news) → w.grownBy w' v.ownBlock → (v'.ownBlock = v.ownBlock ∨ v'.ownBlock = some w.heap.size) → wpList P ops Q rest (a.put o.dst v') w') : wpList P ops Q (o :: rest) a w := by
  refine BigFrame.wpList_want hgd fun K hK => ?_
  obtain ⟨v', w', hr, h2, h3, _, h4⟩ := run_append_own_at (P := P) w base t o.type e i z size bytes ht hi hz hsize hby hzs hsz v n xs hown ad m c news hl hnews h1 h63 hbytes hbase
  unfold Oper.wp execOp
  simp only [ho, resolve, invoke, builtin, Sem.run_bind, Sem.run_pure, Result.andThen_ok, List.map_toArray, List.map_cons, List.map_nil, hs, hx, hr]
  exact hK _ _ (h v' w' h2 h3 h4)

/-- Nothing is kept: Must's. -/
def MustJ (w : World) (T : Nat → Prop) (told : List Int) : Prop := ∀ k, ¬ T k
theorem must_heeds : Heeds 36 #[] (fun e => e != 0) MustJ := by
  refine ⟨enters_of Try.func36 (by kernel_rfl) rfl, fun h _ _ => h, fun h k hk => absurd hk (h k), ?_, ?_⟩
  · intro W T told e hJ _ hst
    have d1 : (e != 0) = false := hst
    have HJ := Lib.hid hJ
    clear hst hJ
    show Calls Try.prog 36 #[.int .i64 e] W _
    go_enter Try.func36, Try.ntmps36
    go_wp2
    go_end0
    exact ⟨T, rfl, HJ.out, fun k hk => .inl hk, Turn.refl _ _⟩
  · intro W T told e hJ hst
    have d1 : (e != 0) = true := hst
    clear hst hJ
    show Calls Try.prog 36 #[.int .i64 e] W _
    go_enter Try.func36, Try.ntmps36
    go_wp2
    exact ⟨rfl, rfl, rfl⟩

/-- Block tb holds what was told, in a row of its own: Run's. -/
def RunJ (tb : Nat) (w : World) (T : Nat → Prop) (told : List Int) : Prop :=
  ∃ A c, Blk w tb 34 [.slice A told.length c] ∧ w.ownsRow (tb + 1) 42 1 (.slice A told.length c) told.length (told.map fun e => .int .i64 e) ∧ ∀ k, T k ↔ (k = tb ∨ ∃ a, A = some a ∧ a.block = k)
theorem Try.infoErr : (Try.prog.info? 42).map (fun i => (i.zero, i.size, i.bytes)) = some (some (.int .i64 0), 1, 8) := by kernel_rfl
theorem run_heeds (tb : Nat) : Heeds 26 #[.pointer (some ⟨tb, 0, none⟩)] (fun e => e == 19) (RunJ tb) := by
  obtain ⟨i0, hi, hz0, hz1, hz2⟩ := info_parts Try.infoErr
  refine ⟨enters_of Try.func26 (by kernel_rfl) rfl, ?_, ?_, ?_, ?_⟩
  · rintro w w' S T told ⟨A, c, h1, h2, h3⟩ ht hd
    exact ⟨A, c, ht.blk h1 (fun h => hd _ h ((h3 _).2 (.inl rfl))), own_turn h2 ht (fun a ha h => hd _ h ((h3 _).2 (.inr ⟨a, ha, rfl⟩))), h3⟩
  · rintro w T told ⟨A, c, h1, h2, h3⟩ k hk
    rcases (h3 k).1 hk with rfl | ⟨a, rfl, rfl⟩
    · exact h1.lt
    · exact (h2.lt _ rfl).2
  · rintro W T told e ⟨A, c, h1, h2, h3⟩ ht hst
    have d1 : (e == 19) = false := hst
    have hc0 : W.cell? ⟨tb, 0, none⟩ = some (.slice A told.length c) := h1.cell 0
    have hlt := h1.lt
    have HH := Lib.hid (And.intro h1 h3)
    clear hst h1 h3
    show Calls Try.prog 26 #[.int .i64 e, .pointer (some ⟨tb, 0, none⟩)] W _
    go_enter Try.func26, Try.ntmps26
    go_wp2_with (at_builtin; refine wpList_append_own_at _ rfl _ _ 34 rfl (tb + 1) 42 i0 (.int .i64 0) 1 8 Try.underlying34 hi hz0 hz1 hz2 rfl (by decide) _ _ _ rfl (h2.alloc _) ⟨W.heap.size, 0, none⟩ 1 1 [.int .i64 e] rfl rfl ?c1 ?c2 ?c3 ?c4 ?c5 ?_)
    case c1 =>
      intro j y hy
      rw [Addr.add_lit, Nat.zero_add, World.cell?_alloc_new]
      simpa using hy
    case c2 => simp [Value.oneCell']
    case c3 => unfold maxLen; omega
    case c4 => omega
    case c5 => simp; omega
    intro v' w4 hown4 hgrow hat
    obtain ⟨h1, h3⟩ := HH.out
    have hown5 : w4.ownsRow (tb + 1) 42 1 v' (told ++ [e]).length ((told ++ [e]).map fun e => .int .i64 e) := by
      rw [List.length_append, List.map_append]
      exact hown4
    obtain ⟨A', c', rfl, hnil', _, _⟩ := own_formk hown5
    have hob : ∀ k, (Value.slice A told.length c).ownBlock = some k ↔ ∃ a, A = some a ∧ a.block = k := fun k => by
      cases A with
      | none => simp [Value.ownBlock]
      | some a => simp [Value.ownBlock]
    have hob' : ∀ k, (Value.slice A' (told ++ [e]).length c').ownBlock = some k ↔ ∃ a, A' = some a ∧ a.block = k := fun k => by
      cases A' with
      | none => simp [Value.ownBlock]
      | some a => simp [Value.ownBlock]
    have hnt : ∀ k, (Value.slice A told.length c).ownBlock = some k → k ≠ tb := fun k hk => by
      have := (h2.lt k hk).1
      omega
    have hnt' : ∀ k, (∃ a, A' = some a ∧ a.block = k) → k ≠ tb := fun k hk => by
      have := (hown5.lt k ((hob' k).2 hk)).1
      omega
    have ht1 : Turn (fun k => (Value.slice A told.length c).ownBlock = some k) (W.alloc (.cells #[.int .i64 e] 42)) w4 := ⟨hgrow.os, hgrow.tape, hgrow.output, hgrow.size, fun k hk hne => hgrow.block k hk fun h => hne h.symm⟩
    have ht0 : Turn (fun _ => False) W (W.alloc (.cells #[.int .i64 e] 42)) := (Turn.refl _ W).alloc _
    have hb4 : Blk w4 tb 34 [.slice A told.length c] := ht1.blk (ht0.blk h1 (fun h => h)) (fun h => hnt _ h rfl)
    have hb5 : Blk (w4.setCell ⟨tb, 0, none⟩ (.slice A' (told ++ [e]).length c')) tb 34 [.slice A' (told ++ [e]).length c'] := hb4.set 0 _
    have ht5 : Turn (fun k => k = tb) w4 (w4.setCell ⟨tb, 0, none⟩ (.slice A' (told ++ [e]).length c')) := (Turn.refl (fun k => k = tb) w4).setCell (p := ⟨tb, 0, none⟩) rfl _
    have HR : Hid (RunJ tb (w4.setCell ⟨tb, 0, none⟩ (.slice A' (told ++ [e]).length c')) (fun k => k = tb ∨ ∃ a, A' = some a ∧ a.block = k) (told ++ [e]) ∧ (∀ k, (k = tb ∨ ∃ a, A' = some a ∧ a.block = k) → T k ∨ W.heap.size ≤ k) ∧ Turn T W (w4.setCell ⟨tb, 0, none⟩ (.slice A' (told ++ [e]).length c'))) := Lib.hid (by
      refine ⟨⟨A', c', hb5, own_turn hown5 ht5 (fun a ha h => hnt' _ ⟨a, ha, rfl⟩ h), fun k => Iff.rfl⟩, fun k hk => ?_, ?_⟩
      · rcases hk with rfl | hk
        · exact .inl ((h3 _).2 (.inl rfl))
        · have h6 := (hob' k).2 hk
          rcases hat with h | h
          · rw [h] at h6
            exact .inl ((h3 _).2 (.inr ((hob k).1 h6)))
          · rw [h] at h6
            have := Option.some.inj h6
            exact .inr (by omega)
      · exact ((ht0.mono fun _ h => h.elim).trans (ht1.mono fun k hk => (h3 k).2 (.inr ((hob k).1 hk)))).trans (ht5.mono fun k hk => (h3 k).2 (.inl hk)))
    have hc4 : w4.cell? ⟨tb, 0, none⟩ = some (.slice A told.length c) := hb4.cell 0
    have hf4 := hb4.frozen 0
    clear h1 h2 h3 hown4 hown5 hnil' hob hob' hnt hnt' ht1 ht0 hb4 hb5 ht5 hgrow hat HH hc0
    go_wp2
    go_end0
    have h := HR.out
    simp only [List.length_append, List.length_singleton] at h
    exact ⟨_, rfl, h⟩
  · rintro W T told e hJ hst
    have d1 : (e == 19) = true := hst
    clear hst hJ
    show Calls Try.prog 26 #[.int .i64 e, .pointer (some ⟨tb, 0, none⟩)] W _
    go_enter Try.func26, Try.ntmps26
    go_wp2
    exact ⟨rfl, rfl, rfl⟩

end Go.Proofs.Ytikghnbhbehepaa

/-
  Work as Run and Must do it; how many calls there are; what a crash leaves.
-/
namespace Go.Proofs.Ytikghnbhbehepaa
open Go.RowKit
set_option linter.unusedVariables false
set_option linter.unusedSimpArgs false

theorem PD.lt {w : World} {S : Nat → Prop} {q : Nat} {m : Dk} (h : PD w S q m) : ∀ k, S k → k < w.heap.size := by
  obtain ⟨_, _, _, _, _, h⟩ := h
  exact h.lt
theorem PD.srt {w : World} {S : Nat → Prop} {q : Nat} {m : Dk} (h : PD w S q m) : SrtF m.files := by
  obtain ⟨_, _, _, _, _, h⟩ := h
  exact h.srt
/-- What work leaves of a disk: its blocks, and new ones. -/
def DiskPost (S0 : Nat → Prop) (q : Nat) (m : Dk) (W W' : World) : Prop :=
  ∃ S, PD W' S q m ∧ OkD 200 m ∧ (∀ j, S j → S0 j ∨ W.heap.size ≤ j) ∧ Turn S0 W W'

set_option maxHeartbeats 1000000 in
theorem must10_any (A : Option Addr) (n c : Nat) (l : List Wk) (W : World) (S0 : Nat → Prop) (q k0 : Nat) (m0 : Dk) (hPD : PD W S0 q m0) (hO : OkD k0 m0) (hk0 : k0 ≤ 100) (hl : Wks W (fun k => S0 k ∨ W.heap.size ≤ k) A n l) (hs : SmallW l) :
    Calls Try.prog 18 #[.pointer (some ⟨q, 0, none⟩), .slice A n c] W fun e W' => e = .returned (.int .i64 (workD (fun e => e != 0) m0 l).2.2) ∧ DiskPost S0 q (workD (fun e => e != 0) m0 l).2.1 W W' := by
  have hC := work_any must_heeds A n c l W S0 (fun _ => False) q k0 m0 [] hPD (fun _ h => h) (fun _ _ h => h) hO hk0 (by simp) (hl.less fun k hk => by
    rcases hk with h | h | h
    · exact .inl h
    · exact h.elim
    · exact .inr h) hs
  obtain ⟨r, hr⟩ : ∃ r, workD (fun e => e != 0) m0 l = r := ⟨_, rfl⟩
  unfold WorkPost at hC
  rw [hr] at hC ⊢
  have HLT := Lib.hid hPD.lt
  clear hPD hO hl hs hr
  go_enter Try.func18, Try.ntmps18
  go_wp2_with fail
  refine hC.mono ?_
  rintro e W1 ⟨rfl, ⟨S, T, h1, h2, h3, h4, h5, h6⟩, h7⟩
  have HR : Hid (DiskPost S0 q r.2.1 W W1) := Lib.hid ⟨S, h1, h7, fun j hj => (h4 j hj).elim .inl fun h => .inr (Nat.le_of_lt h), ⟨h6.os, h6.tape, h6.output, h6.size, fun k hk hn => h6.block k hk fun h => by
    rcases h with h | h | h
    · exact hn h
    · exact h
    · omega⟩⟩
  clear hC h1 h2 h3 h4 h5 h6 h7
  go_wp2_with fail
  go_ret
  exact ⟨rfl, HR.out⟩

set_option maxHeartbeats 1000000 in
theorem run10_any (A : Option Addr) (n c : Nat) (l : List Wk) (W : World) (S0 : Nat → Prop) (q k0 : Nat) (m0 : Dk) (hPD : PD W S0 q m0) (hO : OkD k0 m0) (hk0 : k0 ≤ 100) (hl : Wks W (fun k => S0 k ∨ W.heap.size ≤ k) A n l) (hs : SmallW l) :
    Calls Try.prog 13 #[.pointer (some ⟨q, 0, none⟩), .slice A n c] W fun e W' => ∃ v, e = .returned (.tuple #[v, .bool ((workD (fun e => e == 19) m0 l).2.2 == 19)]) ∧
      W'.ownsRow W.heap.size 42 1 v (workD (fun e => e == 19) m0 l).1.length ((workD (fun e => e == 19) m0 l).1.map fun e => .int .i64 e) ∧ DiskPost S0 q (workD (fun e => e == 19) m0 l).2.1 W W' := by
  obtain ⟨w1, hw1⟩ : ∃ w1, W.alloc (.cells #[.slice none 0 0] 34) = w1 := ⟨_, rfl⟩
  have ht0 : Turn (fun _ => False) W w1 := by rw [← hw1]; exact (Turn.refl _ W).alloc _
  have hsz : w1.heap.size = W.heap.size + 1 := by rw [← hw1]; simp
  have hB : Blk w1 W.heap.size 34 [.slice none 0 0] := by rw [← hw1]; exact Blk.new W _ _ rfl
  have hJ : RunJ W.heap.size w1 (fun k => k = W.heap.size) [] := ⟨none, 0, hB, World.ownsRow_nil _ _ _ _, fun k => ⟨.inl, fun h => h.elim id fun ⟨a, h, _⟩ => by cases h⟩⟩
  have hC := work_any (run_heeds W.heap.size) A n c l w1 S0 (fun k => k = W.heap.size) q k0 m0 [] (hPD.turn ht0 (fun k hk => hk.elim)) hJ (fun j hj h => by have := hPD.lt j hj; omega) hO hk0 (by simp) ((hl.turn (ht0.mono fun _ h => h.elim)).less fun k hk => by
    rcases hk with h | h | h
    · exact .inl h
    · exact .inr (by omega)
    · exact .inr (by omega)) hs
  obtain ⟨r, hr⟩ : ∃ r, workD (fun e => e == 19) m0 l = r := ⟨_, rfl⟩
  unfold WorkPost at hC
  rw [hr] at hC ⊢
  have HLT := Lib.hid (And.intro hPD.lt (And.intro ht0 hsz))
  have hmf : ∀ (fn : Fn) (first cap : Array Value) (w : World), (Instr.makeFunc fn first cap).run Try.prog w = .ok (.func fn first cap) w := fun _ _ _ _ => rfl
  clear hPD hO hl hs hr hJ hB ht0 hsz
  go_enter Try.func13, Try.ntmps13
  go_wp2_with fail
  refine hC.mono ?_
  rintro e W1 ⟨rfl, ⟨S, T, h1, ⟨A1, c1, hB1, hown, hT⟩, h3, h4, h5, h6⟩, h7⟩
  rw [List.nil_append] at hB1 hown
  have hc1 : W1.cell? ⟨W.heap.size, 0, none⟩ = some (.slice A1 r.1.length c1) := hB1.cell 0
  have HR : Hid (W1.ownsRow W.heap.size 42 1 (.slice A1 r.1.length c1) r.1.length (r.1.map fun e => .int .i64 e) ∧ DiskPost S0 q r.2.1 W W1) := Lib.hid (by
    obtain ⟨hlt, ht0, hsz⟩ := HLT.out
    refine ⟨?_, S, h1, h7, fun j hj => (h4 j hj).elim .inl fun h => .inr (by omega), ⟨?_, ?_, ?_, ?_, fun k hk hn => ?_⟩⟩
    · rcases hown with ⟨g1, g2⟩
      refine ⟨g1, ?_⟩
      rcases g2 with g2 | ⟨g, cap, cur, hv, hg, hh, r⟩
      · exact .inl g2
      · exact .inr ⟨g, cap, cur, hv, by omega, hh, r⟩
    · exact h6.os.trans ht0.os
    · exact h6.tape.trans ht0.tape
    · exact h6.output.trans ht0.output
    · have := h6.size; omega
    · refine (h6.block k (by omega) fun h => ?_).trans (ht0.block k hk fun h => h)
      rcases h with h | h | h
      · exact hn h
      · omega
      · omega)
  clear hC h1 hB1 hown hT h3 h4 h5 h6 h7 hw1
  go_wp2_with fail
  go_ret2
  exact ⟨_, rfl, HR.out⟩

theorem filter_take_len (l : List Wk) (k : Nat) (o : Wk) (h : l[k]? = some o) : ((l.take (k + 1)).filter isWk).length = ((l.take k).filter isWk).length + (if isWk o then 1 else 0) := by
  rw [List.take_add_one, h, List.filter_append, List.length_append]
  cases hw : isWk o <;> simp [hw]

set_option maxHeartbeats 1000000 in
theorem count10_any (A : Option Addr) (n c : Nat) (l : List Wk) (W : World) (S : Nat → Prop) (hl : Wks W S A n l) (hs : SmallW l) :
    Calls Try.prog 15 #[.slice A n c] W fun e W' => e = .returned (.int .i64 (((l.filter isWk).length : Nat) : Int)) ∧ Below W.heap.size W W' := by
  have HL := Lib.hid hl.len
  have HF := Lib.hid hl
  have hn60 : n ≤ 60 := by have := hl.len; have := hs.1; omega
  clear hl hs
  go_enter Try.func15, Try.ntmps15
  go_wp2
  go_loopw [3, 8] (fun v i wr => ∃ k u : Nat, k ≤ n ∧ i = .int .i64 k ∧ v = .int .i64 ((u : Nat) : Int) ∧ u ≤ k ∧ Hid (u = ((l.take k).filter isWk).length) ∧ Below W.heap.size W wr) (fun _ i _ => n - (intOf i).toNat)
  case atStart => exact ⟨0, 0, Nat.zero_le _, rfl, rfl, Nat.le_refl _, Lib.hid rfl, Below.refl _ _⟩
  case round =>
    obtain ⟨k, u, hk, rfl, rfl, huk, HU, hb⟩ := hrel
    by_cases hlt : k < n
    · obtain ⟨o, ho⟩ : ∃ o, l[k]? = some o := ⟨_, List.getElem?_eq_getElem (by have := HL.out; omega)⟩
      obtain ⟨b, f, A2, n2, c2, rfl, hbS, hbl, hcells, hby, hnil2, _, _⟩ := (HF.out.turn (Turn.of_below hb)).at_ ho
      have hPC := fun w => pcall_any o A2 n2 c2 w
      unfold wkV at hPC
      obtain ⟨TN, hTN⟩ : ∃ T : ByteArray, ⟨o.name.toArray⟩ = T := ⟨_, rfl⟩
      obtain ⟨TU, hTU⟩ : ∃ T : ByteArray, ⟨o.dest.toArray⟩ = T := ⟨_, rfl⟩
      obtain ⟨K, hK⟩ : ∃ K, o.kind = K := ⟨_, rfl⟩
      rw [hTN, hTU, hK] at hPC hcells
      obtain ⟨r0, r1, r2, r3⟩ := hcells
      have hft := filter_take_len l k o ho
      have HB := Lib.hid hb
      have hbs := hb.size
      cases hw : isWk o
      · have hv : ∀ g, callV K g = .nilFunc := fun g => by rw [← hK]; exact call_none_of o g hw
        have hqn : ∀ w : World, (binOp .neq 67 .nilFunc .nilFunc).run Try.prog w = .ok (.bool false) w := fun _ => by kernel_rfl
        have HU2 : Hid (u = ((l.take (k + 1)).filter isWk).length) := Lib.hid (by rw [hft, hw, ← HU.out]; rfl)
        clear ho hTN hTU hK hw hby hnil2 hbS hft hb
        go_wp2_with fail
        refine (hPC _).mono ?_
        rintro e W2 ⟨rfl, rfl⟩
        rw [hv]
        go_wp2_with fail
        go_roundw
        case rel => exact ⟨k + 1, u, by omega, by go_num, rfl, by omega, HU2, (HB.out.alloc hbs _).alloc (by simp; omega) _⟩
        case measure => simp [intOf]; omega
      · obtain ⟨F2, hF2, _⟩ := call_does o (wr.heap.size + 1) hw
        rw [hK] at hF2
        have hqn : ∀ (F : FuncId) (a b : Array Value) (w : World), (binOp .neq 67 (.func (.func F) a b) .nilFunc).run Try.prog w = .ok (.bool true) w := fun _ _ _ _ => by kernel_rfl
        have HU2 : Hid (u + 1 = ((l.take (k + 1)).filter isWk).length) := Lib.hid (by rw [hft, hw, ← HU.out]; rfl)
        clear ho hTN hTU hK hw hby hnil2 hbS hft hb
        go_wp2_with fail
        refine (hPC _).mono ?_
        rintro e W2 ⟨rfl, rfl⟩
        rw [show (wr.alloc (.cells #[.int .i64 K, .string TN, .string TU, .slice A2 n2 c2] 49)).heap.size = wr.heap.size + 1 from by simp, hF2]
        go_wp2_with fail
        go_roundw
        case rel => exact ⟨k + 1, u + 1, by omega, by go_num, by go_num, by omega, HU2, (HB.out.alloc hbs _).alloc (by simp; omega) _⟩
        case measure => simp [intOf]; omega
    · have HR : Hid (u = (l.filter isWk).length) := Lib.hid (by
        have h := HU.out
        rwa [List.take_of_length_le (by have := HL.out; omega)] at h)
      have HB := Lib.hid hb
      clear hb HU
      go_wp2
      go_ret
      exact ⟨by rw [← HR.out]; rfl, HB.out⟩

end Go.Proofs.Ytikghnbhbehepaa

/-
  What a crash leaves of the program's work; the example is answered.
-/
namespace Go.Proofs.Ytikghnbhbehepaa
open Go.RowKit
set_option linter.unusedVariables false
set_option linter.unusedSimpArgs false

set_option maxHeartbeats 1000000 in
theorem at10_any (cap keep : Int) (place : Nat) (hcap : cap < 9223372036854775808) (hpl : place < 18446744073709551616) (A : Option Addr) (n c : Nat) (l : List Wk) (W : World) (hl : Wks W (fun k => W.heap.size ≤ k) A n l) (hs : SmallW l) :
    Calls Try.prog 9 #[.int .i64 cap, .slice A n c, .int .u64 ((place : Nat) : Int), .int .i64 keep] W (FlsBack ((behindD (newD cap) ((l.filter isWk).take place)).files.map (cutF keep)) W) := by
  have hNw := pnew_any W cap hcap
  have HL := Lib.hid (And.intro hl (And.intro hs (work_left l (newD cap) place keep (newD_up cap))))
  have HO := Lib.hid (newD_ok cap hcap)
  obtain ⟨fs, hfs⟩ : ∃ fs, (behindD (newD cap) ((l.filter isWk).take place)).files.map (cutF keep) = fs := ⟨_, rfl⟩
  rw [hfs] at HL ⊢
  clear hl hs hcap hfs
  go_enter Try.func9, Try.ntmps9
  go_wp2_with fail
  refine hNw.mono ?_
  rintro e W1 ⟨q, S1, rfl, hp1, hS1, hb1⟩
  obtain ⟨mb, l1, kp, L, G, hp1⟩ := hp1
  have hAr := parm_any W1 place keep hpl hp1
  have H1 := Lib.hid (And.intro hp1.sq (And.intro hS1 hb1))
  clear hNw hp1 hS1 hb1
  go_wp2_with fail
  refine hAr.mono ?_
  rintro e W2 ⟨rfl, hp2, ht2⟩
  have hPD2 : PD W2 S1 q (armD (newD cap) place keep) := ⟨_, _, _, _, _, hp2⟩
  have hT2 : Turn (fun k => W.heap.size ≤ k) W W2 := ((Turn.of_below H1.out.2.2).trans (ht2.mono fun k hk => by rw [hk]; exact H1.out.2.1 _ H1.out.1))
  have hO2 : OkD 0 (armD (newD cap) place keep) := by
    have h := HO.out
    exact ⟨h.len, h.size, h.sure, h.calls, hpl, h.cap⟩
  have hRu := run10_any A n c l W2 S1 q 0 (armD (newD cap) place keep) hPD2 hO2 (by omega) ((HL.out.1.turn hT2).less fun k hk => by
    rcases hk with h | h
    · exact H1.out.2.1 k h
    · have := hT2.size; omega) HL.out.2.1
  have H2 := Lib.hid hT2
  obtain ⟨r, hr⟩ : ∃ r, workD (fun e => e == 19) (armD (newD cap) place keep) l = r := ⟨_, rfl⟩
  rw [hr] at HL hRu
  clear hAr hp2 ht2 hPD2 hT2 hO2 hr
  go_wp2_with fail
  refine hRu.mono ?_
  rintro e W3 ⟨v, rfl, hown, S3, hPD3, hO3, hS3, ht3⟩
  have hT3 : Turn (fun k => W.heap.size ≤ k) W W3 := H2.out.trans (ht3.mono fun k hk => H1.out.2.1 k hk)
  have hS3n : ∀ k, S3 k → W.heap.size ≤ k := fun k hk => (hS3 k hk).elim (H1.out.2.1 k) fun h => by have := H2.out.size; omega
  have H3 := Lib.hid (And.intro hT3 hS3n)
  obtain ⟨A3, c3, rfl, _⟩ := own_formk hown
  clear hRu hown hS3 ht3 hT3 hS3n
  by_cases he : r.2.2 = 19
  · have d1 : (r.2.2 == 19) = true := by simpa using he
    have hf : r.2.1.files = fs := by
      have := HL.out.2.2
      rwa [if_pos he] at this
    have hFi := pfiles_any W3 S3 q r.2.1 hPD3 hO3
    rw [hf] at hFi
    rw [d1]
    clear HL he d1 hf hPD3 hO3
    go_wp2_with fail
    refine hFi.mono ?_
    rintro e W4 ⟨v4, xs4, rfl, hown4, hx4, hb4⟩
    have HR : Hid (FlsBack fs W (.returned v4) W4) := Lib.hid (FlsBack.of hown4 hx4 (bthen (H3.out.1.below (Nat.le_refl _) fun k hk => hk) hb4))
    clear hFi hown4 hx4 hb4
    go_wp2_with fail
    go_ret
    exact HR.out
  · have d1 : (r.2.2 == 19) = false := by simpa using he
    have hf : (crashD keep r.2.1).files = fs := by
      have := HL.out.2.2
      rwa [if_neg he] at this
    obtain ⟨mb3, l3, kp3, L3, G3, hp3⟩ := hPD3
    have hCr := pcrash_any W3 keep hp3 (hO3.good (by omega))
    have HQ := Lib.hid (And.intro hO3 hf)
    rw [d1]
    clear HL he d1 hf hp3 hO3
    go_wp2_with fail
    refine hCr.mono ?_
    rintro e W4 ⟨rfl, ⟨G4, hp4⟩, ht4⟩
    have hPD4 : PD W4 S3 q (crashD keep r.2.1) := ⟨_, _, _, _, _, hp4⟩
    have hFi := pfiles_any W4 S3 q (crashD keep r.2.1) hPD4 (HQ.out.1.crash keep)
    rw [HQ.out.2] at hFi
    have H4 := Lib.hid (H3.out.1.trans (ht4.mono fun k hk => H3.out.2 k hk))
    clear hCr hp4 ht4 hPD4
    go_wp2_with fail
    refine hFi.mono ?_
    rintro e W5 ⟨v5, xs5, rfl, hown5, hx5, hb5⟩
    have HR : Hid (FlsBack fs W (.returned v5) W5) := Lib.hid (FlsBack.of hown5 hx5 (bthen (H4.out.below (Nat.le_refl _) fun k hk => hk) hb5))
    clear hFi hown5 hx5 hb5
    go_wp2_with fail
    go_ret
    exact HR.out

end Go.Proofs.Ytikghnbhbehepaa
