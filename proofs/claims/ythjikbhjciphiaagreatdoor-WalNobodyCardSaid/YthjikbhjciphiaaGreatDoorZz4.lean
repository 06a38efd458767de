/-
  A slice whose elements take one cell, as a list of values: reads, append, make. No program stands here.
-/
import Derived.Test.YthjikbhjciphiaaGreatDoorZz2
namespace Go.Proofs.YthjikbhjciphiaaGreatDoor
open Go.RowKit
set_option linter.unusedVariables false
set_option linter.unusedSimpArgs false

/-- The slice value '.slice A n c' reads as the cells xs, in blocks below B. -/
def Vals (w : World) (B : Nat) (A : Option Addr) (n : Nat) (xs : List Value) : Prop :=
  xs.length = n ∧ (0 < n → ∃ b o, A = some ⟨b, o, none⟩ ∧ b < B ∧ ∀ (j : Nat) (x : Value), xs[j]? = some x → w.cell? ⟨b, o + j, none⟩ = some x)

section
variable {w w' : World} {B B' n : Nat} {A : Option Addr} {xs : List Value}
theorem Vals.nil : Vals w B A 0 [] := ⟨rfl, fun h => absurd h (by omega)⟩
theorem Vals.len (h : Vals w B A n xs) : xs.length = n := h.1
theorem Vals.keep (h : Vals w B A n xs) (hk : ∀ p : Addr, p.block < B → w'.cell? p = w.cell? p) : Vals w' B A n xs :=
  ⟨h.1, fun hn => by
    obtain ⟨b, o, e, hb, hc⟩ := h.2 hn
    exact ⟨b, o, e, hb, fun j u hu => (hk _ hb).trans (hc j u hu)⟩⟩
theorem Vals.more (h : Vals w B A n xs) (hB : B ≤ B') : Vals w B' A n xs :=
  ⟨h.1, fun hn => by
    obtain ⟨b, o, e, hb, hc⟩ := h.2 hn
    exact ⟨b, o, e, by omega, hc⟩⟩
theorem Vals.below (h : Vals w B A n xs) (hb : Below B w w') : Vals w' B A n xs := h.keep fun _ hp => hb.cell hp
theorem Vals.drew (h : Vals w B A n xs) : Vals w.drew B A n xs := h
theorem Vals.drewN (h : Vals w B A n xs) (k : Nat) : Vals (w.drewN k) B A n xs := h
theorem Vals.alloc (h : Vals w B A n xs) (hB : B ≤ w.heap.size) (o : Obj) : Vals (w.alloc o) B A n xs := h.keep fun p hp => World.cell?_alloc_lt w o p (by omega)
theorem Vals.at_ (h : Vals w B A n xs) {k : Nat} (hk : k < n) : ∃ b o x, A = some ⟨b, o, none⟩ ∧ b < B ∧ xs[k]? = some x ∧ w.cell? ⟨b, o + k, none⟩ = some x := by
  obtain ⟨b, o, e, hb, hc⟩ := h.2 (by omega)
  have hl : k < xs.length := by have := h.1; omega
  exact ⟨b, o, xs[k], e, hb, List.getElem?_eq_getElem hl, hc k _ (List.getElem?_eq_getElem hl)⟩
theorem Vals.of_own {base : Nat} {e : TypeId} {c : Nat} (h : w.ownsRow base e 1 (.slice A n c) n xs) : Vals w w.heap.size A n xs := by
  refine ⟨by have := h.1; simpa using this, fun hn => ?_⟩
  rcases h.2 with ⟨_, h0⟩ | ⟨g, cap, cur, hv, _, hh, _⟩
  · omega
  · injection hv with hA
    subst hA
    refine ⟨g, 0, rfl, (Array.getElem?_eq_some_iff.1 hh).1, fun j x hx => ?_⟩
    have := h.cells (g := g) rfl j x hx
    rw [Addr.add_lit] at this
    exact this
end

/-- 'append(out, src...)' onto a row of the call's own, the source nil, empty or not. -/
theorem run_append_vals {P : Program} (w : World) (base : Nat) (t ty e : TypeId) (i : TypeInfo) (z : Value) (bytes : Nat) (ht : P.underlying t = some (.slice e)) (hi : P.info? e = some i) (hz : i.zero = some z)
    (hsize : i.size = 1) (hby : i.bytes = bytes) (hzs : z.cells.size = 1)
    (v : Value) (n : Nat) (xs : List Value) (hown : w.ownsRow base e 1 v n xs)
    (B : Nat) (A : Option Addr) (m c : Nat) (l : List Value) (hr : Vals w B A m l) (hnil : A = none → c = 0) (h1 : ∀ u ∈ l, u.oneCell' = true)
    (h47 : (n + m) * bytes ≤ 140737488355328) (h63 : n + m ≤ 140737488355328) (hbase : base ≤ w.heap.size) :
    ∃ v' w', (Builtin.append_ #[t, t] ty #[v, .slice A m c]).run P w = .ok v' w' ∧ w'.ownsRow base e 1 v' (n + m) (xs ++ l) ∧ w.grownBy w' v.ownBlock := by
  by_cases hm : m = 0
  · subst hm
    have hl : l = [] := List.eq_nil_of_length_eq_zero hr.1
    subst hl
    rcases A with _ | ad
    · obtain rfl := hnil rfl
      exact ⟨v, w, run_append_owned_none (P := P) w base t ty e i 1 ht hi v n xs hown, by simpa using hown, World.grownBy.refl w _⟩
    · obtain ⟨v', w', hrun, h2, h3, _⟩ := run_append_own (P := P) w base t ty e i z 1 bytes ht hi hz hsize hby hzs (by decide) v n xs hown ad 0 c [] rfl (by simp) (by simp) (by unfold maxLen; omega) (by omega) hbase
      exact ⟨v', w', hrun, h2, h3⟩
  · obtain ⟨b, o, rfl, hb, hc⟩ := hr.2 (by omega)
    obtain ⟨v', w', hrun, h2, h3, _⟩ := run_append_own (P := P) w base t ty e i z 1 bytes ht hi hz hsize hby hzs (by decide) v n xs hown ⟨b, o, none⟩ m c l (by simp [hr.1])
      (by
        intro j u hu
        rw [Addr.add_lit]
        exact hc j u hu) h1 (by unfold maxLen; omega) (by omega) hbase
    exact ⟨v', w', hrun, h2, h3⟩

theorem wpList_append_vals {P : Program} (w : World) {ops : Array Oper} {rest : List Oper} {o : Oper} {a : Act} {Q : Exit → Act → World → Prop} (hgd : Region.wanted o (yielded ops a.tmps) = true) (s x : Operand) (t : TypeId)
    (ho : o.op = .call { callee := .builtin .append, args := #[s, x], argTypes := #[t, t] })
    (base : Nat) (e : TypeId) (i : TypeInfo) (z : Value) (bytes : Nat) (ht : P.underlying t = some (.slice e)) (hi : P.info? e = some i) (hz : i.zero = some z)
    (hsize : i.size = 1) (hby : i.bytes = bytes) (hzs : z.cells.size = 1)
    (v : Value) (n : Nat) (xs : List Value) (hs : a.eval s = v) (hown : w.ownsRow base e 1 v n xs)
    (B : Nat) (A : Option Addr) (m c : Nat) (l : List Value) (hx : a.eval x = .slice A m c) (hr : Vals w B A m l) (hnil : A = none → c = 0) (h1 : ∀ u ∈ l, u.oneCell' = true)
    (h47 : (n + m) * bytes ≤ 140737488355328) (h63 : n + m ≤ 140737488355328) (hbase : base ≤ w.heap.size)
    (h : ∀ v' w', w'.ownsRow base e 1 v' (n + m) (xs ++ l) → w.grownBy w' v.ownBlock → wpList P ops Q rest (a.put o.dst v') w') : wpList P ops Q (o :: rest) a w := by
  refine BigFrame.wpList_want hgd fun K hK => ?_
  obtain ⟨v', w', hr, h2, h3⟩ := run_append_vals (P := P) w base t o.type e i z bytes ht hi hz hsize hby hzs v n xs hown B A m c l hr hnil h1 h47 h63 hbase
  unfold Oper.wp execOp
  simp only [ho, resolve, invoke, builtin, Sem.run_bind, Sem.run_pure, Result.andThen_ok, List.map_toArray, List.map_cons, List.map_nil, hs, hx, hr]
  exact hK _ _ (h v' w' h2 h3)

/-- One value appended: the walk has just laid it in a block of its own. -/
theorem Vals.one (w : World) (x y : Value) (hx : y = x) (e : TypeId) : Vals (w.alloc (.cells #[y] e)) (w.heap.size + 1) (some ⟨w.heap.size, 0, none⟩) 1 [x] := by
  subst hx
  refine ⟨rfl, fun _ => ⟨_, _, rfl, by omega, fun j z hz => ?_⟩⟩
  match j, hz with
  | 0, hz => simp at hz; subst hz; simp [World.cell?_alloc_at]

/-- 'make([]T, n, m)' of elements of one cell. -/
theorem wpList_make_vals {P : Program} (w : World) {ops : Array Oper} {rest : List Oper} {o : Oper} {a : Act} {Q : Exit → Act → World → Prop}
    (hg : o.guard = none) (l c : Operand) (t : TypeId) (hop : o.op = Op.makeSlice t l c)
    (base : Nat) (e : TypeId) (i : TypeInfo) (z : Value) (bytes : Nat) (h1 : P.underlying t = some (.slice e)) (h2 : P.info? e = some i) (h3 : i.zero = some z) (hz1 : z.oneCell' = true) (hzc : z.cells = #[z]) (h4 : i.size = 1) (h5 : i.bytes = bytes)
    (kl kc : IntKind) (N C : Int) (n m : Nat) (hl : a.eval l = .int kl N) (hc : a.eval c = .int kc C) (hN : N = (n : Int)) (hC : C = (m : Int)) (hnm : n ≤ m) (b2 : bytes * m ≤ 140737488355328) (b3 : m ≤ 140737488355328) (b4 : base ≤ w.heap.size)
    (hK : ∀ w', w'.ownsRow base e 1 (.slice (some ⟨w.heap.size, 0, none⟩) n m) n (List.replicate n z) → w.grownBy w' none → wpList P ops Q rest (a.put o.dst (.slice (some ⟨w.heap.size, 0, none⟩) n m)) w') :
    wpList P ops Q (o :: rest) a w := by
  refine wpList_plain hg fun K hK' => ?_
  have hb : ((i.bytes : Int) * C) ≤ 281474976710656 := by
    rw [h5, hC, ← Int.natCast_mul]
    omega
  have hr := run_make (P := P) w t e i _ h1 h2 h3 kl kc N C (by omega) (by omega) hb (by omega)
  subst hN; subst hC
  unfold Oper.wp
  simp only [execOp, hop, hl, hc, Sem.run_bind, hr, Result.andThen, Int.toNat_natCast, h4, Nat.mul_one]
  refine hK' _ _ (hK _ ?_ (World.grownBy_alloc w _ none))
  refine ⟨by simp, .inr ⟨w.heap.size, m, _, rfl, b4, heap_alloc_new w _, hnm, by unfold maxLen; omega, ?_, ?_⟩⟩
  · have := size_madeCells #[z] m
    rw [hzc]
    simpa using this
  · rw [hzc, toList_madeCells_one, List.take_replicate]
    simp [Nat.min_eq_left hnm]

def lenV : Value → Nat
  | .slice _ n _ => n
  | _ => 0

/-- A number as a cell of an int. -/
def nv (x : Nat) : Value := .int .i64 (x : Int)
theorem nvs_one (l : List Nat) : ∀ u ∈ l.map nv, u.oneCell' = true := by
  intro u hu
  obtain ⟨b, _, rfl⟩ := List.mem_map.1 hu
  rfl
theorem nvs_at (l : List Nat) (k : Nat) (h : k < l.length) : (l.map nv)[k]? = some (.int .i64 ((l.getD k 0 : Nat) : Int)) := by
  rw [List.getElem?_map, List.getElem?_eq_getElem h, List.getD_eq_getElem?_getD, List.getElem?_eq_getElem h]
  rfl
theorem Vals.nat {w : World} {B n : Nat} {A : Option Addr} {l : List Nat} (h : Vals w B A n (l.map nv)) {k : Nat} (hk : k < n) : ∃ b o, A = some ⟨b, o, none⟩ ∧ b < B ∧ w.cell? ⟨b, o + k, none⟩ = some (.int .i64 ((l.getD k 0 : Nat) : Int)) := by
  obtain ⟨b, o, x, e, hb, hx, hc⟩ := h.at_ hk
  have hl := h.1
  rw [List.length_map] at hl
  rw [nvs_at l k (by omega)] at hx
  exact ⟨b, o, e, hb, hc.trans hx.symm⟩

end Go.Proofs.YthjikbhjciphiaaGreatDoor

/-
  Lists of numbers that are sorted by swaps. No program stands here.
-/
namespace Go.Proofs.YthjikbhjciphiaaGreatDoor
open Go.RowKit
set_option linter.unusedVariables false
set_option linter.unusedSimpArgs false

abbrev atN (ys : List Nat) (t : Nat) : Nat := ys.getD t 0
theorem atN_some {ys : List Nat} {t : Nat} (h : t < ys.length) : ys[t]? = some (atN ys t) := by unfold atN; rw [List.getD_eq_getElem?_getD, List.getElem?_eq_getElem h]; rfl
/-- Two elements swapped. -/
def swp (ys : List Nat) (i j : Nat) : List Nat := (ys.set i (atN ys j)).set j (atN ys i)
theorem sw_len (ys : List Nat) (i j : Nat) : (swp ys i j).length = ys.length := by unfold swp; rw [List.length_set, List.length_set]
theorem at_sw (ys : List Nat) (i j t : Nat) (hi : i < ys.length) (hj : j < ys.length) : atN (swp ys i j) t = if t = j then atN ys i else if t = i then atN ys j else atN ys t := by
  unfold swp atN
  simp only [List.getD_eq_getElem?_getD]
  rw [List.getElem?_set, List.length_set, List.getElem?_set]
  by_cases h1 : t = j
  · subst h1
    rw [if_pos rfl, if_pos hj, if_pos rfl]
    rfl
  · rw [if_neg (fun e => h1 e.symm), if_neg h1]
    by_cases h2 : t = i
    · subst h2
      rw [if_pos rfl, if_pos hi, if_pos rfl]
      rfl
    · rw [if_neg (fun e => h2 e.symm), if_neg h2]
theorem sw_perm (ys : List Nat) (i j : Nat) (hi : i < ys.length) (hj : j < ys.length) : (swp ys i j).Perm ys := by
  unfold swp atN
  rw [List.getD_eq_getElem?_getD, List.getD_eq_getElem?_getD, List.getElem?_eq_getElem hi, List.getElem?_eq_getElem hj]
  exact List.set_set_perm hi hj
/-- What swaps within a range make of a list. -/
inductive Sws (a b : Nat) : List Nat → List Nat → Prop
  | refl (xs : List Nat) : Sws a b xs xs
  | step {xs ys : List Nat} (i j : Nat) : Sws a b xs ys → a ≤ i → i < b → a ≤ j → j < b → b ≤ ys.length → Sws a b xs (swp ys i j)
section
variable {a b : Nat} {xs ys zs : List Nat}
theorem Sws.len (h : Sws a b xs ys) : ys.length = xs.length := by
  induction h with
  | refl => rfl
  | step i j _ _ _ _ _ _ ih => rw [sw_len]; exact ih
theorem Sws.trans (h : Sws a b xs ys) (k : Sws a b ys zs) : Sws a b xs zs := by
  induction k with
  | refl => exact h
  | step i j _ h1 h2 h3 h4 h5 ih => exact Sws.step i j ih h1 h2 h3 h4 h5
theorem Sws.mono {a' b' : Nat} (h : Sws a b xs ys) (ha : a' ≤ a) (hb : b ≤ b') (hl : b' ≤ xs.length) : Sws a' b' xs ys := by
  induction h with
  | refl => exact .refl _
  | step i j hs h1 h2 h3 h4 h5 ih => exact Sws.step i j ih (by omega) (by omega) (by omega) (by omega) (by rw [hs.len]; exact hl)
theorem Sws.out (h : Sws a b xs ys) (t : Nat) (ht : t < a ∨ b ≤ t) : atN ys t = atN xs t := by
  induction h with
  | refl => rfl
  | step i j _ h1 h2 h3 h4 h5 ih =>
    rw [at_sw _ _ _ _ (by omega) (by omega), if_neg (by omega), if_neg (by omega)]
    exact ih
theorem Sws.src (h : Sws a b xs ys) (t : Nat) (h1 : a ≤ t) (h2 : t < b) : ∃ s, a ≤ s ∧ s < b ∧ atN ys t = atN xs s := by
  induction h generalizing t with
  | refl => exact ⟨t, h1, h2, rfl⟩
  | step i j _ k1 k2 k3 k4 k5 ih =>
    rw [at_sw _ _ _ _ (by omega) (by omega)]
    split
    · exact ih i k1 k2
    · split
      · exact ih j k3 k4
      · exact ih t h1 h2
theorem Sws.perm (h : Sws a b xs ys) : ys.Perm xs := by
  induction h with
  | refl => exact List.Perm.refl _
  | step i j _ h1 h2 h3 h4 h5 ih => exact (sw_perm _ i j (by omega) (by omega)).trans ih
end
/-- Rising between two places. -/
def Srt (a b : Nat) (ys : List Nat) : Prop := ∀ i j, a ≤ i → i < j → j < b → atN ys i ≤ atN ys j
theorem srt_short {a b : Nat} (ys : List Nat) (h : b ≤ a + 1) : Srt a b ys := fun i j h1 h2 h3 => by omega
/-- All of [a, b) is not below its neighbour ahead. -/
def Low (a b : Nat) (ys : List Nat) : Prop := 0 < a → ∀ t, a ≤ t → t < b → atN ys (a - 1) ≤ atN ys t
theorem Low.sws {a b : Nat} {xs ys : List Nat} (h : Low a b xs) (hs : Sws a b xs ys) : Low a b ys := by
  intro h0 t h1 h2
  obtain ⟨s, k1, k2, k3⟩ := hs.src t h1 h2
  rw [hs.out (a - 1) (by omega), k3]
  exact h h0 s k1 k2

/-! Insertion. -/
/-- Rising up to i, but for what stands at j ahead of it. -/
def InsI (a i j : Nat) (ys : List Nat) : Prop := ∀ p q, a ≤ p → p < q → q ≤ i → q ≠ j → atN ys p ≤ atN ys q
theorem ins_start {a i : Nat} {ys : List Nat} (h : Srt a i ys) : InsI a i i ys := fun p q h1 h2 h3 h4 => h p q h1 h2 (by omega)
theorem ins_step {a i j : Nat} {ys : List Nat} (h : InsI a i j ys) (haj : a < j) (hji : j ≤ i) (hil : i < ys.length) (hlt : atN ys j < atN ys (j - 1)) : InsI a i (j - 1) (swp ys j (j - 1)) := by
  intro p q h1 h2 h3 h4
  rw [at_sw _ _ _ _ (by omega) (by omega), at_sw _ _ _ _ (by omega) (by omega), if_neg h4]
  by_cases e : q = j
  · rw [if_pos e]
    by_cases e2 : p = j - 1
    · rw [if_pos e2]; omega
    · rw [if_neg e2, if_neg (by omega)]
      exact h p (j - 1) h1 (by omega) (by omega) (by omega)
  · rw [if_neg e]
    by_cases e2 : p = j - 1
    · rw [if_pos e2]; exact h j q (by omega) (by omega) h3 e
    · rw [if_neg e2]
      by_cases e3 : p = j
      · rw [if_pos e3]; exact h (j - 1) q (by omega) (by omega) h3 e
      · rw [if_neg e3]; exact h p q h1 h2 h3 e
theorem ins_stop {a i j : Nat} {ys : List Nat} (h : InsI a i j ys) (hji : j ≤ i) (hs : j ≤ a ∨ atN ys (j - 1) ≤ atN ys j) : Srt a (i + 1) ys := by
  intro p q h1 h2 h3
  by_cases e : q = j
  · subst e
    rcases hs with hs | hs
    · omega
    · by_cases e2 : p = q - 1
      · subst e2; exact hs
      · exact Nat.le_trans (h p (q - 1) h1 (by omega) (by omega) (by omega)) hs
  · exact h p q h1 h2 (by omega) e

/-! Heaps. -/
def Kid (i c : Nat) : Prop := c = 2 * i + 1 ∨ c = 2 * i + 2
def Hp (f lo hi : Nat) (ys : List Nat) : Prop := ∀ i c, lo ≤ i → Kid i c → c < hi → atN ys (f + c) ≤ atN ys (f + i)
/-- A heap but at its root's place r. -/
def HpX (f lo hi r : Nat) (ys : List Nat) : Prop := (∀ i c, lo ≤ i → i ≠ r → Kid i c → c < hi → atN ys (f + c) ≤ atN ys (f + i)) ∧ (∀ p c, lo ≤ p → Kid p r → Kid r c → c < hi → atN ys (f + c) ≤ atN ys (f + p))
theorem hpx_start {f lo hi : Nat} {ys : List Nat} (h : Hp f (lo + 1) hi ys) : HpX f lo hi lo ys :=
  ⟨fun i c h1 h2 h3 h4 => h i c (by omega) h3 h4, fun p c h1 h2 h3 h4 => by unfold Kid at h2; omega⟩
theorem hpx_stop {f lo hi r : Nat} {ys : List Nat} (h : HpX f lo hi r ys) (hk : ∀ c, Kid r c → c < hi → atN ys (f + c) ≤ atN ys (f + r)) : Hp f lo hi ys := by
  intro i c h1 h2 h3
  by_cases e : i = r
  · subst e; exact hk c h2 h3
  · exact h.1 i c h1 e h2 h3
theorem hpx_step {f lo hi r k : Nat} {ys : List Nat} (h : HpX f lo hi r ys) (hlo : lo ≤ r) (hk : Kid r k) (hkh : k < hi) (hl : f + hi ≤ ys.length) (hmax : ∀ c, Kid r c → c < hi → atN ys (f + c) ≤ atN ys (f + k)) (hlt : atN ys (f + r) < atN ys (f + k)) : HpX f lo hi k (swp ys (f + r) (f + k)) := by
  have hrk : r < k := by unfold Kid at hk; omega
  refine ⟨fun i c h1 h2 h3 h4 => ?_, fun p c h1 h2 h3 h4 => ?_⟩
  · rw [at_sw _ _ _ _ (by omega) (by omega), at_sw _ _ _ _ (by omega) (by omega)]
    by_cases e : i = r
    · subst e
      rw [if_neg (show ¬ f + i = f + k by omega), if_pos rfl]
      by_cases e2 : c = k
      · rw [if_pos (by omega)]; omega
      · rw [if_neg (by omega), if_neg (by unfold Kid at h3; omega)]
        exact hmax c h3 h4
    · rw [if_neg (show ¬ f + i = f + k by omega), if_neg (show ¬ f + i = f + r by omega)]
      by_cases e2 : c = k
      · exfalso; unfold Kid at hk h3; omega
      · rw [if_neg (by omega)]
        by_cases e3 : c = r
        · subst e3
          rw [if_pos rfl]
          exact h.2 i k h1 h3 hk hkh
        · rw [if_neg (by omega)]
          exact h.1 i c h1 e h3 h4
  · have hpr : p = r := by unfold Kid at h2 hk; omega
    subst hpr
    rw [at_sw _ _ _ _ (by omega) (by omega), at_sw _ _ _ _ (by omega) (by omega)]
    have hck : k < c := by unfold Kid at h3; omega
    rw [if_neg (show ¬ f + c = f + k by omega), if_neg (show ¬ f + c = f + p by omega), if_neg (show ¬ f + p = f + k by omega), if_pos rfl]
    exact h.1 k c (by omega) (by omega) h3 h4
theorem hp_top {f hi : Nat} {ys : List Nat} (h : Hp f 0 hi ys) : ∀ c, c < hi → atN ys (f + c) ≤ atN ys f := by
  intro c
  induction c using Nat.strongRecOn with
  | ind c ih =>
    intro hc
    by_cases h0 : c = 0
    · subst h0; exact Nat.le_refl _
    · have h1 := h ((c - 1) / 2) c (Nat.zero_le _) (by unfold Kid; omega) hc
      exact Nat.le_trans h1 (ih ((c - 1) / 2) (by omega) (by omega))
/-- The heap ahead of i, all behind it in order. -/
def HeapI (f hi n : Nat) (ys : List Nat) : Prop := Hp f 0 n ys ∧ ∀ p q, p < q → q < hi → n ≤ q → atN ys (f + p) ≤ atN ys (f + q)
theorem heapI_swap {f hi n : Nat} {ys : List Nat} (h : HeapI f hi (n + 1) ys) (hn : n < hi) (hl : f + hi ≤ ys.length) : Hp f 1 n (swp ys f (f + n)) ∧ ∀ p q, p < q → q < hi → n ≤ q → atN (swp ys f (f + n)) (f + p) ≤ atN (swp ys f (f + n)) (f + q) := by
  refine ⟨fun i c h1 h2 h3 => ?_, fun p q h1 h2 h3 => ?_⟩
  · rw [at_sw _ _ _ _ (by omega) (by omega), at_sw _ _ _ _ (by omega) (by omega)]
    have hic : i < c := by unfold Kid at h2; omega
    rw [if_neg (show ¬ f + c = f + n by omega), if_neg (show ¬ f + c = f by omega), if_neg (show ¬ f + i = f + n by omega), if_neg (show ¬ f + i = f by omega)]
    exact h.1 i c (Nat.zero_le _) h2 (by omega)
  · rw [at_sw _ _ _ _ (by omega) (by omega), at_sw _ _ _ _ (by omega) (by omega)]
    by_cases e : q = n
    · subst e
      rw [if_pos (show f + q = f + q from rfl), if_neg (show ¬ f + p = f + q by omega)]
      by_cases e2 : p = 0
      · subst e2
        rw [if_pos (by omega)]
        exact hp_top h.1 q (by omega)
      · rw [if_neg (by omega)]
        exact hp_top h.1 p (by omega)
    · rw [if_neg (show ¬ f + q = f + n by omega), if_neg (show ¬ f + q = f by omega)]
      by_cases e2 : p = n
      · subst e2
        rw [if_pos rfl]
        have := h.2 0 q (by omega) h2 (by omega)
        rw [Nat.add_zero] at this
        exact this
      · rw [if_neg (show ¬ f + p = f + n by omega)]
        by_cases e3 : p = 0
        · subst e3
          rw [if_pos (by omega)]
          exact h.2 n q (by omega) h2 (by omega)
        · rw [if_neg (by omega)]
          exact h.2 p q h1 h2 (by omega)
/-- The tail stays in order where the front alone is swapped. -/
theorem tail_sws {f hi n : Nat} {ys zs : List Nat} (h : ∀ p q, p < q → q < hi → n ≤ q → atN ys (f + p) ≤ atN ys (f + q)) (hs : Sws f (f + n) ys zs) : ∀ p q, p < q → q < hi → n ≤ q → atN zs (f + p) ≤ atN zs (f + q) := by
  intro p q h1 h2 h3
  rw [hs.out (f + q) (by omega)]
  by_cases hp : p < n
  · obtain ⟨s, k1, k2, k3⟩ := hs.src (f + p) (by omega) (by omega)
    rw [k3]
    have := h (s - f) q (by omega) h2 h3
    rw [show f + (s - f) = s by omega] at this
    exact this
  · rw [hs.out (f + p) (by omega)]
    exact h p q h1 h2 h3

/-! The quick sort's places. -/
/-- Outside of [a, b) all stands in order. -/
def PartI (a0 b0 a b : Nat) (ys : List Nat) : Prop := ∀ i j, a0 ≤ i → i < j → j < b0 → (i < a ∨ b ≤ j) → atN ys i ≤ atN ys j
theorem partI_start (a0 b0 : Nat) (ys : List Nat) : PartI a0 b0 a0 b0 ys := fun i j h1 h2 h3 h4 => by omega
theorem PartI.sws {a0 b0 a b : Nat} {ys zs : List Nat} (h : PartI a0 b0 a b ys) (hs : Sws a b ys zs) (ha : a0 ≤ a) (hb : b ≤ b0) : PartI a0 b0 a b zs := by
  intro i j h1 h2 h3 h4
  have key : ∀ t, ∃ s, atN zs t = atN ys s ∧ ((a ≤ t ∧ t < b) → (a ≤ s ∧ s < b)) ∧ ((t < a ∨ b ≤ t) → s = t) := by
    intro t
    by_cases ht : a ≤ t ∧ t < b
    · obtain ⟨s, k1, k2, k3⟩ := hs.src t ht.1 ht.2
      exact ⟨s, k3, fun _ => ⟨k1, k2⟩, fun h => by omega⟩
    · exact ⟨t, hs.out t (by omega), fun h => absurd h ht, fun _ => rfl⟩
  obtain ⟨s1, e1, p1, q1⟩ := key i
  obtain ⟨s2, e2, p2, q2⟩ := key j
  rw [e1, e2]
  refine h s1 s2 ?_ ?_ ?_ ?_ <;> omega
theorem PartI.low {a0 b0 a b : Nat} {ys : List Nat} (h : PartI a0 b0 a b ys) (h0 : 0 < a0 → ∀ t, a0 ≤ t → t < b0 → atN ys (a0 - 1) ≤ atN ys t) (ha : a0 ≤ a) (hb : b ≤ b0) : Low a b ys := by
  intro hp t h1 h2
  by_cases e : a = a0
  · subst e; exact h0 hp t h1 (by omega)
  · exact h (a - 1) t (by omega) (by omega) (by omega) (.inl (by omega))
theorem PartI.done {a0 b0 a b : Nat} {ys : List Nat} (h : PartI a0 b0 a b ys) (hs : Srt a b ys) : Srt a0 b0 ys := by
  intro i j h1 h2 h3
  by_cases e : i < a ∨ b ≤ j
  · exact h i j h1 h2 h3 e
  · exact hs i j (by omega) h2 (by omega)
/-- All ahead of m is at most what stands there, all behind it at least. -/
def Cut (a b m : Nat) (ys : List Nat) : Prop := (∀ t, a ≤ t → t < m → atN ys t ≤ atN ys m) ∧ ∀ t, m < t → t < b → atN ys m ≤ atN ys t
/-- The left part sorted: go on behind m. -/
theorem PartI.left {a0 b0 a b m : Nat} {ys zs : List Nat} (h : PartI a0 b0 a b ys) (hc : Cut a b m ys) (hs : Sws a m ys zs) (hz : Srt a m zs) (ha : a0 ≤ a) (hb : b ≤ b0) (h1 : a ≤ m) (h2 : m < b) (hl : b ≤ ys.length) : PartI a0 b0 (m + 1) b zs := by
  have hp := h.sws (hs.mono (Nat.le_refl _) (by omega) hl) ha hb
  intro i j k1 k2 k3 k4
  by_cases e : i < a ∨ b ≤ j
  · exact hp i j k1 k2 k3 e
  · have him : i ≤ m := by omega
    by_cases e2 : j < m
    · exact hz i j (by omega) k2 e2
    · rw [hs.out j (by omega)]
      by_cases e3 : i = m
      · subst e3
        rw [hs.out i (by omega)]
        exact hc.2 j (by omega) (by omega)
      · obtain ⟨s, q1, q2, q3⟩ := hs.src i (by omega) (by omega)
        rw [q3]
        refine Nat.le_trans (hc.1 s q1 q2) ?_
        by_cases e4 : j = m
        · subst e4; exact Nat.le_refl _
        · exact hc.2 j (by omega) (by omega)
theorem PartI.right {a0 b0 a b m : Nat} {ys zs : List Nat} (h : PartI a0 b0 a b ys) (hc : Cut a b m ys) (hs : Sws (m + 1) b ys zs) (hz : Srt (m + 1) b zs) (ha : a0 ≤ a) (hb : b ≤ b0) (h1 : a ≤ m) (h2 : m < b) (hl : b ≤ ys.length) : PartI a0 b0 a m zs := by
  have hp := h.sws (hs.mono (by omega) (Nat.le_refl _) hl) ha hb
  intro i j k1 k2 k3 k4
  by_cases e : i < a ∨ b ≤ j
  · exact hp i j k1 k2 k3 e
  · have hjm : m ≤ j := by omega
    by_cases e2 : m < i
    · exact hz i j (by omega) k2 (by omega)
    · rw [hs.out i (by omega)]
      have hi : atN ys i ≤ atN ys m := by
        by_cases e4 : i = m
        · subst e4; exact Nat.le_refl _
        · exact hc.1 i (by omega) (by omega)
      by_cases e3 : j = m
      · subst e3
        rw [hs.out j (by omega)]
        exact hi
      · obtain ⟨s, q1, q2, q3⟩ := hs.src j (by omega) (by omega)
        rw [q3]
        exact Nat.le_trans hi (hc.2 s (by omega) q2)
/-- What is equal stands ahead: go on behind it. -/
theorem PartI.equal {a0 b0 a b m x : Nat} {ys : List Nat} (h : PartI a0 b0 a b ys) (h1 : ∀ t, a ≤ t → t < m → atN ys t = x) (h2 : ∀ t, m ≤ t → t < b → x ≤ atN ys t) : PartI a0 b0 m b ys := by
  intro i j k1 k2 k3 k4
  by_cases e : i < a ∨ b ≤ j
  · exact h i j k1 k2 k3 e
  · have him : i < m := by omega
    rw [h1 i (by omega) him]
    by_cases e2 : j < m
    · rw [h1 j (by omega) e2]; exact Nat.le_refl _
    · exact h2 j (by omega) (by omega)
/-- Neighbours that rise: all does. -/
theorem srt_adj {a b : Nat} {ys : List Nat} (h : ∀ t, a < t → t < b → atN ys (t - 1) ≤ atN ys t) : Srt a b ys := by
  intro i j h1 h2 h3
  induction j with
  | zero => omega
  | succ j ih =>
    have h4 := h (j + 1) (by omega) h3
    rw [show j + 1 - 1 = j by omega] at h4
    by_cases e : i = j
    · subst e; exact h4
    · exact Nat.le_trans (ih (by omega) (by omega)) h4

end Go.Proofs.YthjikbhjciphiaaGreatDoor
