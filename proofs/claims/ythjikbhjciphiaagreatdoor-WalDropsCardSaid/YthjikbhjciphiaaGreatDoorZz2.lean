/-
  Words for bytes in memory that a seat's walks share: a byte slice that reads as a list, append of one byte, a block known whole. No program stands here.
-/
import Derived.Test.YthjikbhjciphiaaGreatDoorRows
import Derived.WalkKit
import Derived.WalkSpells
import Derived.WalkLawsBesides
import Derived.ProofKit
import Derived.Below
import Derived.Laws.OwnMore
import Derived.Deep.AppendLies
import Derived.Deep.Draws
import Derived.Maps.AppendAt
import Derived.Deep.QuietTactic
import Derived.BigQuiet
import Derived.Lib.Hide
import Derived.Laws.IdiomStrings
import Derived.Lib.SlBytesConst
import Derived.Test.YthjikbhjciphiaaGreatDoorZz1
namespace Go.Proofs.YthjikbhjciphiaaGreatDoor
open Go.RowKit
set_option linter.unusedVariables false
set_option linter.unusedSimpArgs false

/-- A byte as a cell. -/
def bv (b : UInt8) : Value := .int .u8 ((b.toNat : Nat) : Int)
theorem bv_one (b : UInt8) : (bv b).oneCell' = true := rfl
theorem bvs_one (l : List UInt8) : ∀ u ∈ l.map bv, u.oneCell' = true := by
  intro u hu
  obtain ⟨b, _, rfl⟩ := List.mem_map.1 hu
  rfl

/-- The slice value '.slice A n c' reads as the bytes l, in blocks below B. -/
def Byt (w : World) (B : Nat) (A : Option Addr) (n : Nat) (l : List UInt8) : Prop :=
  l.length = n ∧ (0 < n → ∃ b o, A = some ⟨b, o, none⟩ ∧ b < B ∧ ∀ (j : Nat) (x : UInt8), l[j]? = some x → w.cell? ⟨b, o + j, none⟩ = some (.int .u8 ((x.toNat : Nat) : Int)))

section
variable {w w' : World} {B B' n : Nat} {A : Option Addr} {l : List UInt8}
theorem Byt.nil : Byt w B A 0 [] := ⟨rfl, fun h => absurd h (by omega)⟩
theorem Byt.len (h : Byt w B A n l) : l.length = n := h.1
theorem Byt.keep (h : Byt w B A n l) (hk : ∀ p : Addr, p.block < B → w'.cell? p = w.cell? p) : Byt w' B A n l :=
  ⟨h.1, fun hn => by
    obtain ⟨b, o, e, hb, hc⟩ := h.2 hn
    exact ⟨b, o, e, hb, fun j u hu => (hk _ hb).trans (hc j u hu)⟩⟩
theorem Byt.more (h : Byt w B A n l) (hB : B ≤ B') : Byt w B' A n l :=
  ⟨h.1, fun hn => by
    obtain ⟨b, o, e, hb, hc⟩ := h.2 hn
    exact ⟨b, o, e, by omega, hc⟩⟩
theorem Byt.below (h : Byt w B A n l) (hb : Below B w w') : Byt w' B A n l := h.keep fun _ hp => hb.cell hp
theorem Byt.drew (h : Byt w B A n l) : Byt w.drew B A n l := h
theorem Byt.drewN (h : Byt w B A n l) (k : Nat) : Byt (w.drewN k) B A n l := h
theorem Byt.alloc (h : Byt w B A n l) (hB : B ≤ w.heap.size) (o : Obj) : Byt (w.alloc o) B A n l := h.keep fun p hp => World.cell?_alloc_lt w o p (by omega)
theorem Byt.at_ (h : Byt w B A n l) {k : Nat} (hk : k < n) : ∃ b o x, A = some ⟨b, o, none⟩ ∧ b < B ∧ l[k]? = some x ∧ w.cell? ⟨b, o + k, none⟩ = some (.int .u8 ((x.toNat : Nat) : Int)) := by
  obtain ⟨b, o, e, hb, hc⟩ := h.2 (by omega)
  have hl : k < l.length := by have := h.1; omega
  exact ⟨b, o, l[k], e, hb, List.getElem?_eq_getElem hl, hc k _ (List.getElem?_eq_getElem hl)⟩
theorem Byt.of_own {base : Nat} {e : TypeId} {c : Nat} (h : w.ownsRow base e 1 (.slice A n c) n (l.map bv)) : Byt w w.heap.size A n l := by
  refine ⟨by have := h.1; simpa using this, fun hn => ?_⟩
  rcases h.2 with ⟨_, h0⟩ | ⟨g, cap, cur, hv, _, hh, _⟩
  · omega
  · injection hv with hA
    subst hA
    refine ⟨g, 0, rfl, (Array.getElem?_eq_some_iff.1 hh).1, fun j x hx => ?_⟩
    have := h.cells (g := g) rfl j (bv x) (by simp [hx])
    rw [Addr.add_lit] at this
    exact this
theorem own_len {base : Nat} {e : TypeId} {v : Value} {xs : List Value} (h : w.ownsRow base e 1 v n xs) : xs.length = n := by simpa using h.1
/-- A slice that is owned has a spelling. -/
theorem own_form {base : Nat} {e : TypeId} {v : Value} {xs : List Value} (h : w.ownsRow base e 1 v n xs) : ∃ A c, v = .slice A n c ∧ (A = none → n = 0 ∧ c = 0) ∧ n ≤ c ∧ c ≤ maxLen := by
  rcases h.2 with ⟨rfl, rfl⟩ | ⟨g, cap, cur, rfl, _, _, hn, hm, _⟩
  · exact ⟨none, 0, rfl, fun _ => ⟨rfl, rfl⟩, Nat.le_refl _, Nat.zero_le _⟩
  · exact ⟨_, cap, rfl, (fun h => by cases h), hn, hm⟩
end

/-- 'append(out, src...)' of bytes onto a row of the call's own, the source nil, empty or not. -/
theorem run_append_byt {P : Program} (w : World) (base : Nat) (t ty e : TypeId) (i : TypeInfo) (z : Value) (ht : P.underlying t = some (.slice e)) (hi : P.info? e = some i) (hz : i.zero = some z)
    (hsize : i.size = 1) (hby : i.bytes = 1) (hzs : z.cells.size = 1)
    (v : Value) (n : Nat) (xs : List Value) (hown : w.ownsRow base e 1 v n xs)
    (B : Nat) (A : Option Addr) (m c : Nat) (l : List UInt8) (hr : Byt w B A m l) (hnil : A = none → c = 0)
    (h47 : n + m ≤ 140737488355328) (hbase : base ≤ w.heap.size) :
    ∃ v' w', (Builtin.append_ #[t, t] ty #[v, .slice A m c]).run P w = .ok v' w' ∧ w'.ownsRow base e 1 v' (n + m) (xs ++ l.map bv) ∧ w.grownBy w' v.ownBlock := by
  by_cases hm : m = 0
  · subst hm
    have hl : l = [] := List.eq_nil_of_length_eq_zero hr.1
    subst hl
    rcases A with _ | ad
    · obtain rfl := hnil rfl
      exact ⟨v, w, run_append_owned_none (P := P) w base t ty e i 1 ht hi v n xs hown, by simpa using hown, World.grownBy.refl w _⟩
    · obtain ⟨v', w', hrun, h2, h3, _⟩ := run_append_own (P := P) w base t ty e i z 1 1 ht hi hz hsize hby hzs (by decide) v n xs hown ad 0 c [] rfl (by simp) (by simp) (by unfold maxLen; omega) (by omega) hbase
      exact ⟨v', w', hrun, h2, h3⟩
  · obtain ⟨b, o, rfl, hb, hc⟩ := hr.2 (by omega)
    obtain ⟨v', w', hrun, h2, h3, _⟩ := run_append_own (P := P) w base t ty e i z 1 1 ht hi hz hsize hby hzs (by decide) v n xs hown ⟨b, o, none⟩ m c (l.map bv) (by simp [hr.1])
      (by
        intro j u hu
        rw [Addr.add_lit]
        rw [List.getElem?_map] at hu
        obtain ⟨x, hx, rfl⟩ := Option.map_eq_some_iff.1 hu
        exact hc j x hx) (bvs_one l) (by unfold maxLen; omega) (by omega) hbase
    exact ⟨v', w', hrun, h2, h3⟩

theorem wpList_append_byt {P : Program} (w : World) {ops : Array Oper} {rest : List Oper} {o : Oper} {a : Act} {Q : Exit → Act → World → Prop} (hgd : Region.wanted o (yielded ops a.tmps) = true) (s x : Operand) (t : TypeId)
    (ho : o.op = .call { callee := .builtin .append, args := #[s, x], argTypes := #[t, t] })
    (base : Nat) (e : TypeId) (i : TypeInfo) (z : Value) (ht : P.underlying t = some (.slice e)) (hi : P.info? e = some i) (hz : i.zero = some z)
    (hsize : i.size = 1) (hby : i.bytes = 1) (hzs : z.cells.size = 1)
    (v : Value) (n : Nat) (xs : List Value) (hs : a.eval s = v) (hown : w.ownsRow base e 1 v n xs)
    (B : Nat) (A : Option Addr) (m c : Nat) (l : List UInt8) (hx : a.eval x = .slice A m c) (hr : Byt w B A m l) (hnil : A = none → c = 0)
    (h47 : n + m ≤ 140737488355328) (hbase : base ≤ w.heap.size)
    (h : ∀ v' w', w'.ownsRow base e 1 v' (n + m) (xs ++ l.map bv) → w.grownBy w' v.ownBlock → wpList P ops Q rest (a.put o.dst v') w') : wpList P ops Q (o :: rest) a w := by
  refine BigFrame.wpList_want hgd fun K hK => ?_
  obtain ⟨v', w', hr, h2, h3⟩ := run_append_byt (P := P) w base t o.type e i z ht hi hz hsize hby hzs v n xs hown B A m c l hr hnil h47 hbase
  unfold Oper.wp execOp
  simp only [ho, resolve, invoke, builtin, Sem.run_bind, Sem.run_pure, Result.andThen_ok, List.map_toArray, List.map_cons, List.map_nil, hs, hx, hr]
  exact hK _ _ (h v' w' h2 h3)

/-- One byte appended: the walk has just laid it in a block of its own. -/
theorem Byt.one (w : World) (x : UInt8) (i : Int) (hi : i = ((x.toNat : Nat) : Int)) (e : TypeId) : Byt (w.alloc (.cells #[.int .u8 i] e)) (w.heap.size + 1) (some ⟨w.heap.size, 0, none⟩) 1 [x] := by
  subst hi
  refine ⟨rfl, fun _ => ⟨_, _, rfl, by omega, fun j y hy => ?_⟩⟩
  match j, hy with
  | 0, hy => simp at hy; subst hy; simp [World.cell?_alloc_at]

/-- A literal's bytes, whatever mark stands on their block. -/
theorem Byt.lit (w : World) (l : List UInt8) (C : Array Value) (hC : C.toList = l.map bv) (e : TypeId) (fr : Nat × Nat) (n : Nat) (hn : l.length = n) : Byt (w.alloc (.cells C e fr)) (w.heap.size + 1) (some ⟨w.heap.size, 0, none⟩) n l := by
  refine ⟨hn, fun _ => ⟨_, _, rfl, by omega, fun j y hy => ?_⟩⟩
  rw [Nat.zero_add, World.cell?_alloc_mark, ← Array.getElem?_toList, hC, List.getElem?_map, hy]
  rfl

/-- What is owned stays owned where only newer blocks turn. -/
theorem own_below {w w' : World} {base : Nat} {e : TypeId} {size : Nat} {v : Value} {n : Nat} {xs : List Value} (h : w.ownsRow base e size v n xs) (hb : Below w.heap.size w w') : w'.ownsRow base e size v n xs :=
  h.kept (w' := w') (row := none) ⟨hb.os, hb.tape, hb.output, hb.size, fun k hk _ => hb.block k hk⟩ (by cases v.ownBlock <;> simp)
theorem own_mono {w : World} {base base' : Nat} {e : TypeId} {size : Nat} {v : Value} {n : Nat} {xs : List Value} (h : w.ownsRow base e size v n xs) (hb : base' ≤ base) : w.ownsRow base' e size v n xs := by
  rcases h with ⟨h1, h2⟩
  refine ⟨h1, ?_⟩
  rcases h2 with h2 | ⟨g, cap, cur, hv, hg, r⟩
  · exact .inl h2
  · exact .inr ⟨g, cap, cur, hv, Nat.le_trans hb hg, r⟩
theorem below_drew {B : Nat} {a w : World} (h : Below B a w) : Below B a w.drew := ⟨h.os, h.tape, h.output, h.size, h.block⟩
theorem below_drewN {B : Nat} {a w : World} (h : Below B a w) (k : Nat) : Below B a (w.drewN k) := ⟨h.os, h.tape, h.output, h.size, h.block⟩

theorem bthen {a b c : World} (h : Below a.heap.size a b) (k : Below b.heap.size b c) : Below a.heap.size a c := h.trans (k.mono h.size)

/-- What is left behind one byte's append onto a row of the call's own. -/
theorem own_step {B : Nat} {W wr w' : World} {v : Value} {k : Nat} {e : TypeId} {xs : List Value} {o : Obj} (hb : Below B W wr) (hB : B ≤ W.heap.size) (hown : wr.ownsRow B e 1 v k xs) (hg : (wr.alloc o).grownBy w' v.ownBlock) : Below B W w' := by
  have hs := hb.size
  refine (hb.alloc (by omega) o).grown hg (by simp; omega) ?_
  intro g hg
  exact (hown.lt g hg).1

/-- 'string(b)'. -/
theorem run_string_byt {P : Program} {w : World} (src dst e : TypeId) {B n c : Nat} {A : Option Addr} {l : List UInt8} (hs : P.underlying src = some (.slice e)) (he : P.underlying e = some (.int .u8)) (hd : P.underlying dst = some .string)
    (hl : Byt w B A n l) : (convert src dst (.slice A n c)).run P w = .ok (.string ⟨l.toArray⟩) w := by
  rcases A with _ | ad
  · have hl0 : n = 0 := by
      by_cases h0 : n = 0
      · exact h0
      · obtain ⟨b, o, h, _⟩ := hl.2 (by omega)
        cases h
    subst hl0
    have : l = [] := List.eq_nil_of_length_eq_zero hl.1
    subst this
    rw [run_convert_bytes_string w src dst e none 0 c hs he hd]
    simp [Conv.bytesToString]
    rfl
  · have hn : n = l.length := hl.1.symm
    subst hn
    refine run_convert_bytes_back w src dst e ad c l hs he hd fun j hj => ?_
    obtain ⟨b, o, h, _, hc⟩ := hl.2 (by omega)
    obtain rfl := Option.some.inj h
    rw [Addr.add_lit]
    exact hc j _ (List.getElem?_eq_getElem hj)

end Go.Proofs.YthjikbhjciphiaaGreatDoor

/-
  Walks over package octet and its reference: widths, numbers as bytes.
-/
namespace Go.Proofs.YthjikbhjciphiaaGreatDoor
open Go.RowKit
set_option linter.unusedVariables false
set_option linter.unusedSimpArgs false

/-- The bits of a width. -/
def bitsW (w : Int) : Nat := if w = 8 then 64 else if w = 4 then 32 else if w = 2 then 16 else if w = 1 then 8 else 0

set_option maxHeartbeats 400000 in
theorem bitsOf_any (w : Int) (W : World) :
    Calls Tryz.prog 168 #[.int .i64 w] W fun e W' => e = .returned (.int .i64 (bitsW w : Nat)) ∧ W = W' := by
  by_cases h8 : w = 8
  · subst h8
    go_enter Tryz.func168, Tryz.ntmps168
    go_wp2
    go_ret
    exact ⟨rfl, rfl⟩
  by_cases h4 : w = 4
  · subst h4
    go_enter Tryz.func168, Tryz.ntmps168
    go_wp2
    go_ret
    exact ⟨rfl, rfl⟩
  by_cases h2 : w = 2
  · subst h2
    go_enter Tryz.func168, Tryz.ntmps168
    go_wp2
    go_ret
    exact ⟨rfl, rfl⟩
  by_cases h1 : w = 1
  · subst h1
    go_enter Tryz.func168, Tryz.ntmps168
    go_wp2
    go_ret
    exact ⟨rfl, rfl⟩
  · have e8 : (w == 8) = false := beq_eq_false_iff_ne.2 h8
    have e4 : (w == 4) = false := beq_eq_false_iff_ne.2 h4
    have e2 : (w == 2) = false := beq_eq_false_iff_ne.2 h2
    have e1 : (w == 1) = false := beq_eq_false_iff_ne.2 h1
    have HB := Lib.hid (show bitsW w = 0 by unfold bitsW; simp [h8, h4, h2, h1])
    clear h8 h4 h2 h1
    go_enter Tryz.func168, Tryz.ntmps168
    go_wp2
    go_ret
    exact ⟨by rw [HB.out]; rfl, rfl⟩

def widthB (w : Int) : Bool := decide (w = 1 ∨ w = 2 ∨ w = 4 ∨ w = 8)

/-- The k lowest bytes of x, the lowest one first. -/
def le : Nat → Nat → List UInt8
  | 0, _ => []
  | k + 1, x => UInt8.ofNat x :: le k (x / 256)
theorem le_len (k : Nat) : ∀ x, (le k x).length = k := by
  induction k with
  | zero => intro x; rfl
  | succ k ih => intro x; simp [le, ih]
theorem le_snoc (k : Nat) : ∀ x, le (k + 1) x = le k x ++ [UInt8.ofNat (x / 256 ^ k)] := by
  induction k with
  | zero => intro x; simp [le]
  | succ k ih =>
    intro x
    show UInt8.ofNat x :: le (k + 1) (x / 256) = UInt8.ofNat x :: le k (x / 256) ++ _
    rw [ih]
    simp only [List.cons_append]
    rw [Nat.div_div_eq_div_mul, Nat.pow_succ, Nat.mul_comm 256]

theorem Tryz.info5 : (Tryz.prog.info? 5).map (fun i => (i.zero, i.size, i.bytes)) = some (some (.int .u8 0), 1, 1) := by kernel_rfl

theorem ofNat_mod (x : Nat) : ((UInt8.ofNat x).toNat : Nat) = x % 256 := by simp [UInt8.toNat_ofNat']

theorem bitsW_le (w : Int) : bitsW w ≤ 64 := by unfold bitsW; repeat (split <;> try omega)
theorem bitsW_eq (w : Int) : bitsW w = 8 * (bitsW w / 8) := by unfold bitsW; repeat (split <;> try omega)

theorem bitsOf_q (w : Int) (q : Nat) (hq : bitsW w = q) (W : World) :
    Calls Tryz.prog 168 #[.int .i64 w] W fun e W' => e = .returned (.int .i64 (q : Nat)) ∧ W = W' := by subst hq; exact bitsOf_any w W

set_option maxRecDepth 10000 in
set_option maxHeartbeats 1000000 in
theorem put_q (A : Option Addr) (n c : Nat) (l : List UInt8) (w : Int) (x : Nat) (hx : x ≤ 18446744073709551615) (W : World) (hl : Byt W W.heap.size A n l) (hnil : A = none → c = 0) (hn : n ≤ 140737488351232) (j : Nat) (hj : j ≤ 8) (HQ : Hid (bitsW w = 8 * j)) :
    Calls Tryz.prog 128 #[.slice A n c, .int .i64 w, .int .u64 x] W fun e W' => ∃ v, e = .returned v ∧
      W'.ownsRow W.heap.size 5 1 v (n + j) ((l ++ le j x).map bv) ∧ Below W.heap.size W W' := by
  obtain ⟨i0, hi, hz0, hz1, hz2⟩ := info_parts Tryz.info5
  have HX := Lib.hid hx
  clear hx
  go_enter Tryz.func128, Tryz.ntmps128
  go_wp2_with (first
    | (go_at_call 168; refine (bitsOf_q _ _ HQ.out _).mono ?_; rintro e w' ⟨rfl, rfl⟩)
    | (at_make; refine wpList_make_own _ rfl _ _ 70 rfl W.heap.size 5 i0 (.int .u8 0) 1 Tryz.underlying70 hi hz0 hz1 .i64 .i64 _ (n + j) rfl rfl ?b1 ?b2 ?b3 ?b4 ?_))
  case b1 => omega
  case b2 => rw [hz2]; omega
  case b3 => unfold maxLen; omega
  case b4 => exact Nat.le_refl _
  intro w1 hown1 hg1
  have hb1 : Below W.heap.size W w1 := (Below.refl _ _).grown hg1 (Nat.le_refl _) (by intro k h; cases h)
  have hl1 := hl.below hb1
  have hs1 := hb1.size
  clear hl hg1
  go_wp2_with (at_builtin; refine wpList_append_byt _ rfl _ _ 70 rfl W.heap.size 5 i0 (.int .u8 0) Tryz.underlying70 hi hz0 hz1 hz2 rfl _ _ _ rfl hown1 W.heap.size A n c l rfl hl1 hnil ?c1 ?c2 ?_)
  case c1 => omega
  case c2 => omega
  intro v2 w2 hown2 hg2
  have hb2 : Below W.heap.size W w2 := hb1.grown hg2 (by omega) (fun k h => (hown1.lt k h).1)
  clear hown1 hg2 hb1 hs1 hl1
  go_wp2_with fail
  go_loopw [2, 7, 8] (fun xs bi v wr => ∃ k : Nat, k ≤ j ∧ bi = .int .i64 (8 * ((j - k : Nat) : Int)) ∧ xs = .int .u64 ((x / 256 ^ k : Nat) : Int) ∧ wr.ownsRow W.heap.size 5 1 v (n + k) ((l ++ le k x).map bv) ∧ Below W.heap.size W wr)
    (fun _ bi _ _ => (intOf bi).toNat)
  case atStart => exact ⟨0, by omega, rfl, by simp, by simpa [le] using hown2, hb2⟩
  case round =>
    obtain ⟨k, hk, rfl, rfl, hown, hb⟩ := hrel
    have hs := hb.size
    have hyx : x / 256 ^ k ≤ 18446744073709551615 := Nat.le_trans (Nat.div_le_self _ _) HX.out
    generalize hy : x / 256 ^ k = y at hyx ⊢
    have HY := Lib.hid hy
    clear hy hown2 hb2
    by_cases hlt : k < j
    · go_wp2_with (at_builtin; refine wpList_append_byt _ rfl _ _ 70 rfl W.heap.size 5 i0 (.int .u8 0) Tryz.underlying70 hi hz0 hz1 hz2 rfl _ _ _ rfl (hown.alloc _) (wr.heap.size + 1) _ 1 1 [UInt8.ofNat y] rfl ?c1 ?c2 ?c3 ?c4 ?_)
      case c1 => exact Byt.one _ _ _ (by rw [ofNat_mod]; omega) _
      case c2 => intro h; cases h
      case c3 => omega
      case c4 => simp; omega
      intro v' w1 hown' hgrow
      have hb' := own_step hb (Nat.le_refl _) hown hgrow
      clear hown hgrow hb
      go_wp2
      go_roundw
      case rel =>
        refine ⟨k + 1, by omega, by go_num, ?_, ?_, hb'⟩
        · rw [show x / 256 ^ (k + 1) = y / 256 by rw [Nat.pow_succ, ← Nat.div_div_eq_div_mul, HY.out]]; go_num
        · rw [le_snoc, HY.out]; simpa [Nat.add_assoc] using hown'
      case measure => simp [intOf]; omega
    · have hjk : j - k = 0 := by omega
      go_wp2
      go_ret
      have hkw : k = j := by omega
      exact ⟨u8, rfl, by rw [← hkw]; exact hown, hb⟩

theorem put_any (A : Option Addr) (n c : Nat) (l : List UInt8) (w : Int) (x : Nat) (hx : x ≤ 18446744073709551615) (W : World) (hl : Byt W W.heap.size A n l) (hnil : A = none → c = 0) (hn : n ≤ 140737488351232) :
    Calls Tryz.prog 128 #[.slice A n c, .int .i64 w, .int .u64 x] W fun e W' => ∃ v, e = .returned v ∧
      W'.ownsRow W.heap.size 5 1 v (n + bitsW w / 8) ((l ++ le (bitsW w / 8) x).map bv) ∧ Below W.heap.size W W' :=
  put_q A n c l w x hx W hl hnil hn (bitsW w / 8) (by have := bitsW_le w; omega) (Lib.hid (bitsW_eq w))

/-- Does x fit? -/
def fitsB (w : Int) (x : Nat) : Bool := decide (0 < bitsW w) && decide (x / 2 ^ bitsW w = 0)

/-- What bytes come to, the lowest one first. -/
def num : List UInt8 → Nat
  | [] => 0
  | b :: l => b.toNat + 256 * num l
theorem num_lt (l : List UInt8) : num l < 256 ^ l.length := by
  induction l with
  | nil => simp [num]
  | cons b l ih =>
    have hb : b.toNat < 256 := b.toNat_lt
    simp only [num, List.length_cons, Nat.pow_succ]; omega
theorem num_le (k : Nat) : ∀ x, num (le k x) = x % 256 ^ k := by
  induction k with
  | zero => intro x; simp [le, num, Nat.mod_one]
  | succ k ih =>
    intro x
    simp only [le, num, ih, ofNat_mod, Nat.pow_succ]
    rw [Nat.mul_comm (256 ^ k) 256, Nat.mod_mul]
theorem num_snoc (l : List UInt8) (b : UInt8) : num (l ++ [b]) = num l + 256 ^ l.length * b.toNat := by
  induction l with
  | nil => simp [num]
  | cons c l ih =>
    simp only [List.cons_append, num, ih, List.length_cons, Nat.pow_succ]
    rw [Nat.mul_add, ← Nat.mul_assoc, Nat.mul_comm 256 (256 ^ l.length)]; omega
theorem num_drop (l : List UInt8) (k : Nat) (b : UInt8) (h : l[k]? = some b) : num (l.drop k) = b.toNat + 256 * num (l.drop (k + 1)) := by
  obtain ⟨hk, rfl⟩ := List.getElem?_eq_some_iff.1 h
  rw [List.drop_eq_getElem_cons hk]; rfl

theorem num_max (l : List UInt8) (h : l.length ≤ 8) : num l ≤ 18446744073709551615 := by
  have h1 := num_lt l
  have h2 : 256 ^ l.length ≤ 256 ^ 8 := Nat.pow_le_pow_right (by decide) h
  have h3 : (256 : Nat) ^ 8 = 18446744073709551616 := by decide
  omega

theorem rfits_of (w : Int) (x : Nat) (hw : widthB w = true) : decide (num (le w.toNat x) = x) = fitsB w x := by
  rw [num_le]
  have h : w = 1 ∨ w = 2 ∨ w = 4 ∨ w = 8 := by simpa [widthB] using hw
  unfold fitsB
  rcases h with rfl | rfl | rfl | rfl <;> simp [bitsW] <;> omega
theorem rfits_not (w : Int) (x : Nat) (hw : widthB w = false) : fitsB w x = false := by
  have h : ¬ (w = 1 ∨ w = 2 ∨ w = 4 ∨ w = 8) := by simpa [widthB] using hw
  have : bitsW w = 0 := by unfold bitsW; repeat (split <;> try omega)
  simp [fitsB, this]

/-! The contracts at an Int. -/
theorem put_int (A : Option Addr) (n c : Nat) (l : List UInt8) (w : Int) (x : Int) (h0 : 0 ≤ x) (hx : x ≤ 18446744073709551615) (W : World) (hl : Byt W W.heap.size A n l) (hnil : A = none → c = 0) (hn : n ≤ 140737488351232) (j : Nat) (hj : j ≤ 8) (HQ : Hid (bitsW w = 8 * j)) :
    Calls Tryz.prog 128 #[.slice A n c, .int .i64 w, .int .u64 x] W fun e W' => ∃ v, e = .returned v ∧
      W'.ownsRow W.heap.size 5 1 v (n + j) ((l ++ le j x.toNat).map bv) ∧ Below W.heap.size W W' := by
  obtain ⟨y, rfl⟩ := Int.eq_ofNat_of_zero_le h0
  exact put_q A n c l w y (by omega) W hl hnil hn j hj HQ

end Go.Proofs.YthjikbhjciphiaaGreatDoor

/-
  Walks of package real, of the library's questions, and of the reference: Class, Key, Less, Canon.
-/
namespace Go.Proofs.YthjikbhjciphiaaGreatDoor
open Go.RowKit
set_option linter.unusedVariables false
set_option linter.unusedSimpArgs false

theorem fmt64 : FloatKind.f64.format = Ieee.double := rfl

@[go_sem] theorem unary_neg_float (k : FloatKind) (b : Nat) : Op.unary .neg (.float k b) = pure (.float k (Op.negFloat k b)) := rfl
@[go_sem] theorem run_frombits (n : Int) (w : World) : (callFunc 175 #[.int .u64 n]).run Tryz.prog w = .ok (.value (.float .f64 n.toNat)) w := by
  rw [run_callFunc_extern (e := Extern.MathFloatBits.float64frombits) Tryz.func175 (by kernel_rfl) (by kernel_rfl) (by kernel_rfl) (by kernel_rfl)]
  rfl
@[go_sem] theorem run_tobits (b : Nat) (w : World) : (callFunc 204 #[.float .f64 b]).run Tryz.prog w = .ok (.value (.int .u64 b)) w := by
  rw [run_callFunc_extern (e := Extern.MathFloatBits.float64bits) Tryz.func204 (by kernel_rfl) (by kernel_rfl) (by kernel_rfl) (by kernel_rfl)]
  rfl

/-- What is not a number: by a test of a number against itself. -/
theorem isNaN_any (b : Nat) (W : World) (q : Bool) (hq : (FloatKind.f64.format.order b b != some .eq) = q) :
    Calls Tryz.prog 194 #[.float .f64 b] W fun e W' => e = .returned (.bool q) ∧ W = W' := by
  go_enter Tryz.func194, Tryz.ntmps194
  go_wp2
  go_ret
  exact ⟨rfl, rfl⟩

theorem isInf_minus (b : Nat) (W : World) (q : Bool) (hq : (FloatKind.f64.format.order (Op.negFloat .f64 b) 9218868437227405311 == some .gt) = q) :
    Calls Tryz.prog 195 #[.float .f64 b, .int .i64 (-1)] W fun e W' => e = .returned (.bool q) ∧ W = W' := by
  go_enter Tryz.func195, Tryz.ntmps195
  go_wp2
  go_ret
  exact ⟨rfl, rfl⟩

theorem isInf_plus (b : Nat) (W : World) (q : Bool) (hq : (FloatKind.f64.format.order b 9218868437227405311 == some .gt) = q) :
    Calls Tryz.prog 195 #[.float .f64 b, .int .i64 1] W fun e W' => e = .returned (.bool q) ∧ W = W' := by
  go_enter Tryz.func195, Tryz.ntmps195
  go_wp2
  go_ret
  exact ⟨rfl, rfl⟩

theorem signbit_zero (W : World) : Calls Tryz.prog 196 #[.float .f64 0] W fun e W' => e = .returned (.bool false) ∧ W = W' := by
  go_enter Tryz.func196, Tryz.ntmps196
  go_wp2
  go_ret
  exact ⟨rfl, rfl⟩

theorem signbit_minus (W : World) : Calls Tryz.prog 196 #[.float .f64 9223372036854775808] W fun e W' => e = .returned (.bool true) ∧ W = W' := by
  have hw : IntKind.i64.wrap 9223372036854775808 = -9223372036854775808 := by decide
  go_enter Tryz.func196, Tryz.ntmps196
  go_wp2
  go_ret
  exact ⟨rfl, rfl⟩

theorem negF (b : Nat) : Op.negFloat .f64 b = b ^^^ 9223372036854775808 := rfl
theorem xor_up (b : Nat) (h : b < 9223372036854775808) : b ^^^ 9223372036854775808 = b + 9223372036854775808 := by
  have h1 : b ^^^ 9223372036854775808 = b ||| 9223372036854775808 := by
    apply Nat.eq_of_testBit_eq
    intro i
    rw [Nat.testBit_xor, Nat.testBit_or, show (9223372036854775808 : Nat) = 2 ^ 63 by decide, Nat.testBit_two_pow]
    by_cases hi : 63 = i
    · subst hi
      rw [Nat.testBit_lt_two_pow (show b < 2 ^ 63 from h)]
      simp
    · simp [hi]
  rw [h1, Nat.or_comm]
  have := Nat.two_pow_add_eq_or_of_lt (i := 63) (show b < 2 ^ 63 from h) 1
  rw [Nat.mul_one] at this
  rw [show (9223372036854775808 : Nat) = 2 ^ 63 by decide, ← this, Nat.add_comm]
theorem xor_down (b : Nat) (h0 : 9223372036854775808 ≤ b) (h : b < 18446744073709551616) : b ^^^ 9223372036854775808 = b - 9223372036854775808 := by
  obtain ⟨c, hc⟩ : ∃ c, c = b - 9223372036854775808 := ⟨_, rfl⟩
  have e : b = c ^^^ 9223372036854775808 := by rw [xor_up c (by omega)]; omega
  rw [← hc, e, Nat.xor_assoc, Nat.xor_self, Nat.xor_zero]

/-- The class of any word, out of the answers of the library's questions. -/
theorem class_of (b : Nat) (W : World) (c : Nat) (q1 q2 q3 q4 q5 : Bool)
    (f1 : (FloatKind.f64.format.order b b != some .eq) = q1)
    (f2 : (FloatKind.f64.format.order (Op.negFloat .f64 b) 9218868437227405311 == some .gt) = q2)
    (f3 : (FloatKind.f64.format.order b 9218868437227405311 == some .gt) = q3)
    (f4 : (FloatKind.f64.format.order b 0 == some .eq) = q4)
    (f5 : (FloatKind.f64.format.order b 0 == some .lt) = q5)
    (hz : q4 = true → b = 0 ∨ b = 9223372036854775808)
    (hc : c = if q1 then 0 else if q2 then 1 else if q3 then 6 else if q4 then (if b = 0 then 4 else 3) else if q5 then 2 else 5) :
    Calls Tryz.prog 173 #[.int .u64 b] W fun e W' => e = .returned (.int .i64 (c : Nat)) ∧ W = W' := by
  have c1 := isNaN_any b W q1 f1
  have c2 := isInf_minus b W q2 f2
  have c3 := isInf_plus b W q3 f3
  have HC := Lib.hid hc
  have HZ := Lib.hid hz
  clear f1 f2 f3 hc hz
  cases q1
  case true =>
    obtain rfl : c = 0 := HC.out
    go_enter Tryz.func173, Tryz.ntmps173
    go_wp2_with (go_at_call 194; refine c1.mono ?_; rintro e w' ⟨rfl, rfl⟩)
    go_ret
    exact ⟨rfl, rfl⟩
  cases q2
  case true =>
    obtain rfl : c = 1 := HC.out
    go_enter Tryz.func173, Tryz.ntmps173
    go_wp2_with (first | (go_at_call 194; refine c1.mono ?_; rintro e w' ⟨rfl, rfl⟩) | (go_at_call 195; ((with_reducible refine c2.mono ?_); rintro e w' ⟨rfl, rfl⟩)))
    go_ret
    exact ⟨rfl, rfl⟩
  cases q3
  case true =>
    obtain rfl : c = 6 := HC.out
    go_enter Tryz.func173, Tryz.ntmps173
    go_wp2_with (first | (go_at_call 194; refine c1.mono ?_; rintro e w' ⟨rfl, rfl⟩) | (go_at_call 195; ((with_reducible refine c2.mono ?_); rintro e w' ⟨rfl, rfl⟩)) | (go_at_call 195; ((with_reducible refine c3.mono ?_); rintro e w' ⟨rfl, rfl⟩)))
    go_ret
    exact ⟨rfl, rfl⟩
  cases q4
  case true =>
    rcases HZ.out rfl with rfl | rfl
    · obtain rfl : c = 4 := HC.out
      clear HC HZ
      go_enter Tryz.func173, Tryz.ntmps173
      go_wp2_with (first | (go_at_call 194; refine c1.mono ?_; rintro e w' ⟨rfl, rfl⟩) | (go_at_call 195; ((with_reducible refine c2.mono ?_); rintro e w' ⟨rfl, rfl⟩)) | (go_at_call 195; ((with_reducible refine c3.mono ?_); rintro e w' ⟨rfl, rfl⟩)) | (go_at_call 196; refine (signbit_zero _).mono ?_; rintro e w' ⟨rfl, rfl⟩))
      go_ret
      exact ⟨rfl, rfl⟩
    · obtain rfl : c = 3 := HC.out
      clear HC HZ
      go_enter Tryz.func173, Tryz.ntmps173
      go_wp2_with (first | (go_at_call 194; refine c1.mono ?_; rintro e w' ⟨rfl, rfl⟩) | (go_at_call 195; ((with_reducible refine c2.mono ?_); rintro e w' ⟨rfl, rfl⟩)) | (go_at_call 195; ((with_reducible refine c3.mono ?_); rintro e w' ⟨rfl, rfl⟩)) | (go_at_call 196; refine (signbit_minus _).mono ?_; rintro e w' ⟨rfl, rfl⟩))
      go_ret
      exact ⟨rfl, rfl⟩
  cases q5
  case true =>
    obtain rfl : c = 2 := HC.out
    go_enter Tryz.func173, Tryz.ntmps173
    go_wp2_with (first | (go_at_call 194; refine c1.mono ?_; rintro e w' ⟨rfl, rfl⟩) | (go_at_call 195; ((with_reducible refine c2.mono ?_); rintro e w' ⟨rfl, rfl⟩)) | (go_at_call 195; ((with_reducible refine c3.mono ?_); rintro e w' ⟨rfl, rfl⟩)))
    go_ret
    exact ⟨rfl, rfl⟩
  · obtain rfl : c = 5 := HC.out
    go_enter Tryz.func173, Tryz.ntmps173
    go_wp2_with (first | (go_at_call 194; refine c1.mono ?_; rintro e w' ⟨rfl, rfl⟩) | (go_at_call 195; ((with_reducible refine c2.mono ?_); rintro e w' ⟨rfl, rfl⟩)) | (go_at_call 195; ((with_reducible refine c3.mono ?_); rintro e w' ⟨rfl, rfl⟩)))
    go_ret
    exact ⟨rfl, rfl⟩

theorem neg_inf : Op.negFloat .f64 9218868437227405312 = 18442240474082181120 := by decide
theorem neg_minf : Op.negFloat .f64 18442240474082181120 = 9218868437227405312 := by decide
theorem cls_inf : cls 9218868437227405312 = 6 := by decide
theorem cls_minf : cls 18442240474082181120 = 1 := by decide
theorem cls_zero : cls 0 = 4 := by decide
theorem cls_minus : cls 9223372036854775808 = 3 := by decide

theorem class_nan (b : Nat) (hb : b < 18446744073709551616) (h0 : cls b = 0) (W : World) :
    Calls Tryz.prog 173 #[.int .u64 b] W fun e W' => e = .returned (.int .i64 (cls b : Nat)) ∧ W = W' :=
  class_of b W (cls b) true _ _ _ _ (by rw [fmt64, order_nan b b hb h0]; rfl) rfl rfl rfl rfl (by rw [fmt64, order_nan b 0 hb h0]; intro h; cases h) h0

theorem class_inf (b : Nat) (h : b = 9218868437227405312) (f1 : (FloatKind.f64.format.order b b != some .eq) = false) (W : World) :
    Calls Tryz.prog 173 #[.int .u64 b] W fun e W' => e = .returned (.int .i64 (cls b : Nat)) ∧ W = W' := by
  have hc : cls b = 6 := by rw [h]; exact cls_inf
  have e2 : Op.negFloat .f64 b = 18442240474082181120 := by rw [h]; exact neg_inf
  have e3 : ∀ c, c < 9218868437227405312 → Ieee.double.order b c = some .gt := by rw [h]; exact order_inf
  clear h
  refine class_of b W _ false false true false false f1 ?_ ?_ ?_ ?_ (fun h => by cases h) hc
  · rw [e2, fmt64, order_minf _ (by decide)]; rfl
  · rw [fmt64, e3 _ (by decide)]; rfl
  · rw [fmt64, e3 _ (by decide)]; rfl
  · rw [fmt64, e3 _ (by decide)]; rfl

theorem class_minf (b : Nat) (h : b = 18442240474082181120) (f1 : (FloatKind.f64.format.order b b != some .eq) = false) (W : World) :
    Calls Tryz.prog 173 #[.int .u64 b] W fun e W' => e = .returned (.int .i64 (cls b : Nat)) ∧ W = W' := by
  have hc : cls b = 1 := by rw [h]; exact cls_minf
  have e2 : Op.negFloat .f64 b = 9218868437227405312 := by rw [h]; exact neg_minf
  have e3 : ∀ c, c < 9218868437227405312 → Ieee.double.order b c = some .lt := by rw [h]; exact order_minf
  clear h
  refine class_of b W _ false true false false true f1 ?_ ?_ ?_ ?_ (fun h => by cases h) hc
  · rw [e2, fmt64, order_inf _ (by decide)]; rfl
  · rw [fmt64, e3 _ (by decide)]; rfl
  · rw [fmt64, e3 _ (by decide)]; rfl
  · rw [fmt64, e3 _ (by decide)]; rfl

theorem class_pos (b : Nat) (h3 : b < 9218868437227405312) (f1 : (FloatKind.f64.format.order b b != some .eq) = false) (W : World) :
    Calls Tryz.prog 173 #[.int .u64 b] W fun e W' => e = .returned (.int .i64 (cls b : Nat)) ∧ W = W' := by
  have e2 : (FloatKind.f64.format.order (Op.negFloat .f64 b) 9218868437227405311 == some .gt) = false := by
    rw [negF, fmt64, xor_up b (by omega), order_np _ _ (by omega) (by omega) (by decide), if_neg (by omega)]; rfl
  have e3 : (FloatKind.f64.format.order b 9218868437227405311 == some .gt) = false := by
    rw [fmt64, order_pp b _ h3 (by decide)]
    have : compare b 9218868437227405311 ≠ .gt := by rw [Ne, Nat.compare_eq_gt]; omega
    simp [this]
  by_cases hz : b = 0
  · have e : Ieee.double.order b 0 = some .eq := by
      rw [order_pp b 0 h3 (by decide), Nat.compare_eq_eq.2 hz]
    have hc : cls b = if b = 0 then 4 else 3 := by rw [hz]; exact cls_zero
    exact class_of b W _ false false false true false f1 e2 e3 (by rw [fmt64, e]; rfl) (by rw [fmt64, e]; rfl) (fun _ => .inl hz) hc
  · have e : Ieee.double.order b 0 = some .gt := by
      rw [order_pp b 0 h3 (by decide), Nat.compare_eq_gt.2 (by omega)]
    have hc : cls b = 5 := by
      unfold cls
      rw [if_pos (by omega), if_neg hz, if_pos h3]
    exact class_of b W _ false false false false false f1 e2 e3 (by rw [fmt64, e]; rfl) (by rw [fmt64, e]; rfl) (fun h => by cases h) hc

theorem class_neg (b : Nat) (hb : b < 18446744073709551616) (h4 : 9223372036854775808 ≤ b ∧ b < 18442240474082181120) (f1 : (FloatKind.f64.format.order b b != some .eq) = false) (W : World) :
    Calls Tryz.prog 173 #[.int .u64 b] W fun e W' => e = .returned (.int .i64 (cls b : Nat)) ∧ W = W' := by
  have e2 : (FloatKind.f64.format.order (Op.negFloat .f64 b) 9218868437227405311 == some .gt) = false := by
    obtain ⟨r, hr⟩ : ∃ r, r = b - 9223372036854775808 := ⟨_, rfl⟩
    rw [negF, fmt64, xor_down b h4.1 hb, ← hr, order_pp r _ (by omega) (by decide)]
    have : compare r 9218868437227405311 ≠ .gt := by rw [Ne, Nat.compare_eq_gt]; omega
    simp [this]
  have e3 : (FloatKind.f64.format.order b 9218868437227405311 == some .gt) = false := by
    rw [fmt64, order_np b _ h4.1 h4.2 (by decide), if_neg (by omega)]; rfl
  have e4 := order_np b 0 h4.1 h4.2 (by decide)
  by_cases hz : b = 9223372036854775808
  · rw [if_pos ⟨hz, rfl⟩] at e4
    have hc : cls b = if b = 0 then 4 else 3 := by rw [hz]; exact cls_minus
    exact class_of b W _ false false false true false f1 e2 e3 (by rw [fmt64, e4]; rfl) (by rw [fmt64, e4]; rfl) (fun _ => .inr hz) hc
  · rw [if_neg (by omega)] at e4
    have hc : cls b = 2 := by
      unfold cls
      rw [if_neg (by omega), if_neg hz, if_pos h4.2]
    exact class_of b W _ false false false false true f1 e2 e3 (by rw [fmt64, e4]; rfl) (by rw [fmt64, e4]; rfl) (fun h => by cases h) hc

/-- The class of any word. -/
theorem class_any (b : Nat) (hb : b < 18446744073709551616) (W : World) :
    Calls Tryz.prog 173 #[.int .u64 b] W fun e W' => e = .returned (.int .i64 (cls b : Nat)) ∧ W = W' := by
  by_cases h0 : cls b = 0
  · exact class_nan b hb h0 W
  have f1 : (FloatKind.f64.format.order b b != some .eq) = false := by rw [fmt64, order_self b hb h0]; rfl
  by_cases h1 : b = 9218868437227405312
  · exact class_inf b h1 f1 W
  by_cases h2 : b = 18442240474082181120
  · exact class_minf b h2 f1 W
  by_cases h3 : b < 9218868437227405312
  · exact class_pos b h3 f1 W
  · refine class_neg b hb ⟨?_, ?_⟩ f1 W
    · apply Nat.le_of_not_lt
      intro hlt
      unfold cls at h0
      rw [if_pos hlt, if_neg (by omega), if_neg h3, if_neg h1] at h0
      exact h0 rfl
    · apply Nat.lt_of_not_le
      intro hle
      unfold cls at h0
      rw [if_neg (by omega), if_neg (by omega), if_neg (by omega), if_neg h2] at h0
      exact h0 rfl

end Go.Proofs.YthjikbhjciphiaaGreatDoor
