/-
  slices.Chunk at 64 bytes: its contract as an iterator; the state behind blocks.
-/
import Derived.Test.YtbpjklafhohlnaaDoorShaC
import Derived.RangeFuncNested
import Derived.RangeFuncBound
import Derived.RangeFuncCalls
import Derived.RangeFuncLeaves
import Derived.Shelf.Abstract
import Derived.OwnWalkIn
import Derived.TacticsInMore
import Derived.LoopNIn
import Derived.LoopIn
namespace Go.Proofs.YtbpjklafhohlnaaDoor
open Go.RowKit Go.Shelf
set_option linter.unusedVariables false
set_option linter.unusedSimpArgs false

attribute [local go_sem] Oper.semAt_some

set_option maxHeartbeats 1000000 in
/-- Chunk: the slice and the number are boxed; the function value captures both. -/
theorem chunk_any (A : Option Addr) (n c : Nat) (w : World) :
    Calls Tryd.prog 28 #[.slice A n c, .int .i64 64] w fun e w' =>
      e = .returned (.func (.func 30) #[] #[.pointer (some ⟨w.heap.size, 0, none⟩), .pointer (some ⟨w.heap.size + 1, 0, none⟩)]) ∧
      w' = (w.alloc (.cells #[.slice A n c] 22)).alloc (.cells #[.int .i64 64] 3) := by
  have hmf : ∀ (fn : Fn) (first cap : Array Value) (w : World), (Instr.makeFunc fn first cap).run Tryd.prog w = .ok (.func fn first cap) w := fun _ _ _ _ => rfl
  go_enter Tryd.func28, Tryd.ntmps28
  go_wp2_with fail
  go_ret
  exact ⟨rfl, rfl⟩

/-- Two blocks lie as they lay. -/
def Keep2 (Bs Bn : Nat) (W W' : World) : Prop := W'.heap[Bs]? = W.heap[Bs]? ∧ W'.heap[Bn]? = W.heap[Bn]?
theorem Keep2.refl (Bs Bn : Nat) (W : World) : Keep2 Bs Bn W W := ⟨rfl, rfl⟩
theorem Keep2.trans {Bs Bn : Nat} {A B C : World} (h : Keep2 Bs Bn A B) (k : Keep2 Bs Bn B C) : Keep2 Bs Bn A C := ⟨k.1.trans h.1, k.2.trans h.2⟩
theorem Keep2.cs {Bs Bn : Nat} {A B : World} (h : Keep2 Bs Bn A B) : B.cell? ⟨Bs, 0, none⟩ = A.cell? ⟨Bs, 0, none⟩ := World.cell?_of_block (w := A) h.1
theorem Keep2.cn {Bs Bn : Nat} {A B : World} (h : Keep2 Bs Bn A B) : B.cell? ⟨Bn, 0, none⟩ = A.cell? ⟨Bn, 0, none⟩ := World.cell?_of_block (w := A) h.2

/-- The first k numbers below N. -/
def upto (N k : Nat) : List (Fin N) := (List.finRange N).take k
theorem upto_succ {N k : Nat} (h : k < N) : upto N (k + 1) = upto N k ++ [⟨k, h⟩] := by
  unfold upto
  rw [List.take_add_one, List.getElem?_eq_getElem (by simpa using h)]
  simp
theorem upto_len {N k : Nat} (h : k ≤ N) : (upto N k).length = k := by unfold upto; simp [h]

set_option maxRecDepth 100000 in
set_option maxHeartbeats 2000000 in
/-- Chunk's closure over N whole chunks of 64, for every loop body that keeps what lay below n₀. -/
theorem chunk1_in (n : Nat) (hn : 1 ≤ n) (l Bs Bn g o N L cap : Nat) (hNL : L = 64 * N) (hcap : L ≤ cap) (h47 : L ≤ 140737488355328) (J Jx : List (Fin N) → World → Prop)
    (hY : ∀ pre (x : Fin N) W, J pre W → pre.length < N → YieldAt Fence.wide (n - 1) Tryd.prog l #[.slice (some ⟨g, o + 64 * x.val, none⟩) 64 64] W fun e W' =>
      (e = .returned (.bool true) ∧ J (pre ++ [x]) W' ∧ Keep2 Bs Bn W W') ∨ (e = .returned (.bool false) ∧ Jx (pre ++ [x]) W'))
    (hJd : ∀ s W q, J s W → J s (W.drewN q))
    (W : World) (hs : W.cell? ⟨Bs, 0, none⟩ = some (.slice (some ⟨g, o, none⟩) L cap)) (hc : W.cell? ⟨Bn, 0, none⟩ = some (.int .i64 64)) (h0 : J [] W) :
    CallsIn Fence.wide n Tryd.prog 30 #[.func (.yield l) #[] #[], .pointer (some ⟨Bs, 0, none⟩), .pointer (some ⟨Bn, 0, none⟩)] W fun e W' => (∃ v, e = .returned v) ∧
      ((∃ ys, ys = List.finRange N ∧ J ys W') ∨ (∃ pre, (∃ k, k ≤ N ∧ pre = upto N k) ∧ Jx pre W')) := by
  refine callsIn_of_wp Tryd.func30 rfl trivial ?_ rfl
  simp only [Tryd.ntmps30, List.size_toArray, List.length_cons, List.length_nil, Nat.reduceAdd, Nat.reduceSub, Array.replicate_succ, Array.replicate_zero, List.push_toArray, List.append_toArray, List.nil_append, List.cons_append]
  gi_wp2
  gi_loopw [4, 5] (fun i _ wr => ∃ (k q : Nat), k ≤ N ∧ i = .int .i64 q ∧ q = 64 * k ∧ J (upto N k) wr ∧ Keep2 Bs Bn W wr)
    (fun i _ _ => L - (intOf i).toNat)
  case atStart => exact ⟨0, 0, Nat.zero_le _, rfl, rfl, h0, Keep2.refl _ _ _⟩
  case round =>
    obtain ⟨k, q, hk, rfl, hq, hJ, hb⟩ := hrel
    have hs' := hb.cs.trans hs
    have hc' := hb.cn.trans hc
    by_cases hlt : k < N
    · have hqL : q + 64 ≤ L := by omega
      have HQ := Lib.hid hq
      have HN := Lib.hid hNL
      have HK := Lib.hid hlt
      obtain ⟨x, hx, hS⟩ : ∃ x : Fin N, x.val = k ∧ upto N (k + 1) = upto N k ++ [x] := ⟨⟨k, hlt⟩, rfl, upto_succ hlt⟩
      have HS := Lib.hid hS
      have hpl : (upto N k).length < N := by rw [upto_len (by omega)]; exact hlt
      have HX := Lib.hid (show 64 * x.val = q by rw [hx, hq])
      obtain ⟨m, hm⟩ : ∃ m, q + m = L := ⟨L - q, by omega⟩
      clear hq hlt hk hNL hS hx
      gi_wp2
      refine wpIn_wide.2 ?_
      go_quiet (fail)
      obtain ⟨fn, tmps, assign, body, hy, hR⟩ := hY _ x (wr.drewN nq) (hJd _ _ _ hJ) hpl
      rw [HX.out] at hy
      have hsD : (wr.drewN nq).cell? ⟨Bs, 0, none⟩ = some (.slice (some ⟨g, o, none⟩) L cap) := hs'
      have hcD : (wr.drewN nq).cell? ⟨Bn, 0, none⟩ = some (.int .i64 64) := hc'
      have hbD : Keep2 Bs Bn W (wr.drewN nq) := hb
      clear hs' hc' hb hJ hpl
      generalize wr.drewN nq = w1 at hy hR hsD hcD hbD ⊢
      gi_wp2
      refine hR.mono ?_
      rintro e W3 (⟨rfl, hJ3, hk3⟩ | ⟨rfl, hJx3⟩)
      · have hc3 := hk3.cn.trans hcD
        have HJ3 := Lib.hid hJ3
        have HB3 := Lib.hid (hbD.trans hk3)
        clear hJ3 hk3 hbD hcD hsD hR hy
        gi_wp2
        go_roundw
        case rel =>
          refine ⟨k + 1, q + 64, by have := HK.out; omega, by go_num, by have := HQ.out; omega, ?_, HB3.out⟩
          rw [HS.out]
          exact HJ3.out
        case measure => simp [intOf]; omega
      · clear hbD hcD hsD hR hy
        gi_wp2
        refine bodyPost_ret (results_none rfl _ _ _) rfl ?_
        exact ⟨⟨_, rfl⟩, .inr ⟨_, ⟨k + 1, by have := HK.out; omega, HS.out.symm⟩, hJx3⟩⟩
    · have hkN : k = N := by omega
      have hqL : ¬ ((q : Int) < (L : Int)) := by omega
      have HJ := Lib.hid hJ
      clear hlt hk hq hJ
      gi_wp2
      go_end0
      have hj := HJ.out
      rw [hkN] at hj
      unfold upto at hj
      rw [List.take_of_length_le (by simp)] at hj
      exact ⟨⟨_, rfl⟩, .inl hj⟩

set_option maxRecDepth 100000 in
set_option maxHeartbeats 1000000 in
/-- .. over no bytes: no round. -/
theorem chunk1_none (n : Nat) (l Bs Bn : Nat) (A : Option Addr) (cap : Nat) (J : World → Prop) (W : World) (hs : W.cell? ⟨Bs, 0, none⟩ = some (.slice A 0 cap)) (h0 : J W) :
    CallsIn Fence.wide n Tryd.prog 30 #[.func (.yield l) #[] #[], .pointer (some ⟨Bs, 0, none⟩), .pointer (some ⟨Bn, 0, none⟩)] W fun e W' => (∃ v, e = .returned v) ∧ J W' := by
  refine callsIn_of_wp Tryd.func30 rfl trivial ?_ rfl
  simp only [Tryd.ntmps30, List.size_toArray, List.length_cons, List.length_nil, Nat.reduceAdd, Nat.reduceSub, Array.replicate_succ, Array.replicate_zero, List.push_toArray, List.append_toArray, List.nil_append, List.cons_append]
  gi_wp2
  gi_loopw [4, 5] (fun i _ wr => i = .int .i64 0 ∧ wr = W) (fun _ _ _ => 0)
  case atStart => exact ⟨rfl, rfl⟩
  case round =>
    obtain ⟨rfl, rfl⟩ := hrel
    gi_wp2
    go_end0
    exact ⟨⟨_, rfl⟩, h0⟩

/-- What Chunk hands back stops: all N chunks, or some of them. -/
theorem chunk_stops (n : Nat) (hn : 1 ≤ n) (Bs Bn N L cap : Nat) (A : Option Addr) (g o : Nat) (hA : 0 < N → A = some ⟨g, o, none⟩) (hNL : L = 64 * N) (hcap : L ≤ cap) (h47 : L ≤ 140737488355328)
    (w : World) (hBs : Bs < w.heap.size) (hBn : Bn < w.heap.size) (hs : w.cell? ⟨Bs, 0, none⟩ = some (.slice A L cap)) (hc : w.cell? ⟨Bn, 0, none⟩ = some (.int .i64 64)) :
    SeqStopsK Fence.wide n Tryd.prog 30 #[.pointer (some ⟨Bs, 0, none⟩), .pointer (some ⟨Bn, 0, none⟩)] (fun x : Fin N => #[Value.slice (some ⟨g, o + 64 * x.val, none⟩) 64 64]) (Keep2 Bs Bn)
      (fun ys => ys = List.finRange N) (fun _ => True) N w := fun l J Jx W hW hJ hJx hY h0 => by
  have hs' := (hW.cell (p := ⟨Bs, 0, none⟩) (by show Bs < _; omega)).trans hs
  have hc' := (hW.cell (p := ⟨Bn, 0, none⟩) (by show Bn < _; omega)).trans hc
  by_cases h : 0 < N
  · obtain rfl := hA h
    refine (chunk1_in n hn l Bs Bn g o N L cap hNL hcap h47 J Jx hY
      (fun s W q h => hJ s W (W.drewN q) none h ⟨rfl, rfl, rfl, Nat.le_refl _, fun _ _ _ => rfl⟩ (fun r e => by cases e)) W hs' hc' h0).mono ?_
    rintro e W' ⟨he, ⟨ys, rfl, hj⟩ | ⟨pre, _, hj⟩⟩
    · exact ⟨he, .inl ⟨_, rfl, hj⟩⟩
    · exact ⟨he, .inr ⟨_, trivial, hj⟩⟩
  · obtain rfl : N = 0 := by omega
    obtain rfl : L = 0 := by omega
    exact (chunk1_none n l Bs Bn A cap (J []) W hs' h0).mono fun e W' ⟨he, hj⟩ => ⟨he, .inl ⟨_, rfl, hj⟩⟩

end Go.Proofs.YtbpjklafhohlnaaDoor
