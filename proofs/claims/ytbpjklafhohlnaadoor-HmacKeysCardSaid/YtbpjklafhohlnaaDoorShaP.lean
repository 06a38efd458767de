/-
  What follows n bytes: the program's Pad and the reference's.
-/
import Derived.Test.YtbpjklafhohlnaaDoorShaM
import Derived.IntWalk
namespace Go.Proofs.YtbpjklafhohlnaaDoor
open Go.RowKit
set_option linter.unusedVariables false
set_option linter.unusedSimpArgs false

def padZ (n : Nat) : Nat := (119 - n % 64) % 64
/-- Eight bytes, the highest first. -/
def be8 (x : Nat) : List UInt8 := (le 8 x).reverse
def padL (n : Nat) : List UInt8 := (128 :: List.replicate (padZ n) 0) ++ be8 (n * 8)
theorem padZ_lt (n : Nat) : padZ n < 64 := Nat.mod_lt _ (by decide)
theorem be8_len (x : Nat) : (be8 x).length = 8 := by unfold be8; rw [List.length_reverse, le_len]
theorem padL_len (n : Nat) : (padL n).length = 9 + padZ n := by
  unfold padL
  rw [List.length_append, List.length_cons, List.length_replicate, be8_len]; omega
theorem padL_whole (n : Nat) : (n + (padL n).length) % 64 = 0 := by
  rw [padL_len]; unfold padZ; omega
theorem be8_take (x k : Nat) (hk : k < 8) : (be8 x).take (k + 1) = (be8 x).take k ++ [UInt8.ofNat (x / 256 ^ (7 - k))] := by
  rw [List.take_add_one]
  congr 1
  unfold be8
  rw [List.getElem?_reverse (by rw [le_len]; omega), le_len, show 8 - 1 - k = 7 - k by omega]
  generalize hq : 7 - k = q
  have hq8 : q < 8 := by omega
  have h : ∀ (m x q : Nat), q < m → (le m x)[q]? = some (UInt8.ofNat (x / 256 ^ q)) := by
    intro m
    induction m with
    | zero => intro x q h; omega
    | succ m ih =>
      intro x q h
      cases q with
      | zero => simp [le]
      | succ q =>
        rw [le, List.getElem?_cons_succ, ih _ _ (by omega), Nat.pow_succ, Nat.mul_comm, Nat.div_div_eq_div_mul]
  rw [h 8 x q hq8]; rfl

/-- 'make([]byte, n, c)'. -/
theorem wpList_make_byt {P : Program} (w : World) {ops : Array Oper} {rest : List Oper} {o : Oper} {a : Act} {Q : Exit → Act → World → Prop}
    (hg : o.guard = none) (l c : Operand) (t : TypeId) (hop : o.op = Op.makeSlice t l c)
    (base : Nat) (e : TypeId) (i : TypeInfo) (h1 : P.underlying t = some (.slice e)) (h2 : P.info? e = some i) (h3 : i.zero = some (.int .u8 0)) (h4 : i.size = 1) (h5 : i.bytes = 1)
    (kl kc : IntKind) (N C : Int) (n m : Nat) (hl : a.eval l = .int kl N) (hc : a.eval c = .int kc C) (hN : N = (n : Int)) (hC : C = (m : Int)) (hnm : n ≤ m) (b2 : m ≤ 140737488355328) (b4 : base ≤ w.heap.size)
    (hK : ∀ w', w'.ownsRow base e 1 (.slice (some ⟨w.heap.size, 0, none⟩) n m) n ((List.replicate n (0 : UInt8)).map bv) → w.grownBy w' none → wpList P ops Q rest (a.put o.dst (.slice (some ⟨w.heap.size, 0, none⟩) n m)) w') :
    wpList P ops Q (o :: rest) a w := by
  refine wpList_plain hg fun K hK' => ?_
  have hr := run_make (P := P) w t e i _ h1 h2 h3 kl kc N C (by omega) (by omega) (by rw [h5]; omega) (by omega)
  subst hN; subst hC
  unfold Oper.wp
  simp only [execOp, hop, hl, hc, Sem.run_bind, hr, Result.andThen, Int.toNat_natCast, h4, Nat.mul_one]
  refine hK' _ _ (hK _ ?_ (World.grownBy_alloc w _ none))
  refine ⟨by simp, .inr ⟨w.heap.size, m, _, rfl, b4, heap_alloc_new w _, hnm, by unfold maxLen; omega, ?_, ?_⟩⟩
  · have := size_madeCells #[Value.int .u8 0] m
    simpa [Value.cells] using this
  · rw [show (Value.int IntKind.u8 0).cells = #[.int .u8 0] from rfl, toList_madeCells_one, List.take_replicate]
    simp [bv, Nat.min_eq_left hnm]

set_option maxHeartbeats 1000000 in
theorem pad_any (n : Nat) (hn : n ≤ 1152921504606846976) (W : World) :
    Calls Tryd.prog 24 #[.int .i64 ((n : Nat) : Int)] W fun e W' => ∃ v, e = .returned v ∧
      W'.ownsRow W.heap.size 5 1 v (9 + padZ n) ((padL n).map bv) ∧ Below W.heap.size W W' := by
  obtain ⟨i0, hi, hz0, hz1, hz2⟩ := info_parts Tryd.info5
  go_enter Tryd.func24, Tryd.ntmps24
  go_wp2_with (at_make; refine wpList_make_byt _ rfl _ _ 22 rfl W.heap.size 5 i0 Tryd.underlying22 hi hz0 hz1 hz2 .i64 .i64 _ _ (1 + padZ n) (9 + padZ n) rfl rfl ?b1 ?b2 ?b3 ?b4 ?b5 ?_)
  case b1 => unfold padZ; omega
  case b2 => unfold padZ; omega
  case b3 => omega
  case b4 => have := padZ_lt n; omega
  case b5 => exact Nat.le_refl _
  intro w1 hown1 hg1
  have hb1 : Below W.heap.size W w1 := (Below.refl _ _).grown hg1 (Nat.le_refl _) (by intro k h; cases h)
  have hc0 : w1.cell? ⟨W.heap.size, 0, none⟩ = some (.int .u8 0) := by
    rw [hown1.cellAt _ (by omega), List.getElem?_replicate_of_lt (by omega)]; rfl
  have hf0 := hown1.frozenAt 0
  have HO := Lib.hid (hown1.stored 0 (bv 128))
  have hp64 := padZ_lt n
  have HZ := Lib.hid (rfl : padZ n = padZ n)
  obtain ⟨q, hq⟩ : ∃ q, q = padZ n := ⟨_, rfl⟩
  rw [← hq] at HO hp64 ⊢
  clear hown1 hg1 HZ
  have HQ := Lib.hid hq
  clear hq
  go_wp2_with fail
  have hown2 : (w1.setCell ⟨W.heap.size, 0, none⟩ (.int .u8 128)).ownsRow W.heap.size 5 1 (.slice (some ⟨W.heap.size, 0, none⟩) (1 + q) (9 + q)) (1 + q) ((128 :: List.replicate q 0).map bv) := by
    have := HO.out.1
    rw [Nat.add_comm 1 q, List.replicate_succ] at this
    rw [Nat.add_comm 1 q, List.map_cons, List.map_replicate]
    exact this
  have hb2 : Below W.heap.size W (w1.setCell ⟨W.heap.size, 0, none⟩ (.int .u8 128)) := hb1.setCell (p := ⟨W.heap.size, 0, none⟩) (Nat.le_refl _) _
  generalize w1.setCell ⟨W.heap.size, 0, none⟩ (.int .u8 128) = w2 at hown2 hb2 ⊢
  clear hb1 hc0 hf0 HO
  go_loopw [4, 6] (fun v sh wr => ∃ (k : Nat) (z : Int), k ≤ 8 ∧ sh = .int .i64 z ∧ z = 56 - 8 * (k : Int) ∧ wr.ownsRow W.heap.size 5 1 v (1 + q + k) ((128 :: List.replicate q 0 ++ (be8 (n * 8)).take k).map bv) ∧ Below W.heap.size W wr)
    (fun _ sh _ => (intOf sh + 8).toNat)
  case atStart => exact ⟨0, 56, by omega, rfl, by omega, by simpa using hown2, hb2⟩
  case round =>
    obtain ⟨k, z, hk, rfl, hz, hown, hb⟩ := hrel
    have hs := hb.size
    clear hown2 hb2
    by_cases h8 : k < 8
    · obtain ⟨e, he, hee⟩ : ∃ e : Nat, z = (e : Int) ∧ e = 8 * (7 - k) := ⟨8 * (7 - k), by omega, rfl⟩
      subst he
      have HT := Lib.hid (be8_take (n * 8) k h8)
      have HE := Lib.hid hee
      have he56 : e ≤ 56 := by omega
      have HZ := Lib.hid hz
      have HK := Lib.hid h8
      clear hee hz h8
      have hx : ((UInt8.ofNat (n * 8 / 2 ^ e)).toNat : Int) = (n : Int) * 8 / 2 ^ e % 256 := by
        rw [ofNat_mod]; simp
      go_wp2_with (at_builtin; refine wpList_append_byt _ rfl _ _ 22 rfl W.heap.size 5 i0 (.int .u8 0) Tryd.underlying22 hi hz0 hz1 hz2 rfl _ _ _ rfl (hown.alloc _) (wr.heap.size + 1) _ 1 1 [UInt8.ofNat (n * 8 / 2 ^ e)] rfl ?c1 ?c2 ?c3 ?c4 ?_)
      case c1 => exact Byt.one _ _ _ (by rw [hx]) _
      case c2 => intro h; cases h
      case c3 => omega
      case c4 => simp; omega
      intro v' w3 hown' hgrow
      have hb' := own_step hb (Nat.le_refl _) hown hgrow
      clear hown hgrow hb
      have HO := Lib.hid hown'
      clear hown'
      go_wp2
      go_roundw
      case rel =>
        refine ⟨k + 1, _, by have := HK.out; omega, rfl, by have := HZ.out; omega, ?_, hb'⟩
        have hk8 := HK.out
        have := HO.out
        rw [HT.out]
        rw [show (256 : Nat) ^ (7 - k) = 2 ^ e by rw [HE.out, Nat.pow_mul]]
        simpa [Nat.add_assoc] using this
      case measure => simp [intOf]; omega
    · have hz8 : z = -8 := by omega
      subst hz8
      have HK := Lib.hid (show k = 8 by omega)
      clear hk h8 hz
      have HO := Lib.hid hown
      clear hown
      go_wp2_with fail
      go_ret
      refine ⟨_, rfl, ?_, hb⟩
      have := HO.out
      rw [HK.out, List.take_of_length_le (by rw [be8_len]; exact Nat.le_refl 8), show 1 + q + 8 = 9 + q by omega] at this
      unfold padL
      rw [← HQ.out]
      exact this

set_option maxHeartbeats 1000000 in
/-- Of a number below 0 as of 0. -/
theorem pad_neg (z : Int) (hz : z < 0) (hlo : -9223372036854775808 ≤ z) (W : World) :
    Calls Tryd.prog 24 #[.int .i64 z] W fun e W' => ∃ v, e = .returned v ∧
      W'.ownsRow W.heap.size 5 1 v (9 + padZ 0) ((padL 0).map bv) ∧ Below W.heap.size W W' := by
  obtain ⟨i0, hi, hz0, hz1, hz2⟩ := info_parts Tryd.info5
  go_enter Tryd.func24, Tryd.ntmps24
  go_wp2_with (at_make; refine wpList_make_byt _ rfl _ _ 22 rfl W.heap.size 5 i0 Tryd.underlying22 hi hz0 hz1 hz2 .i64 .i64 _ _ (1 + padZ 0) (9 + padZ 0) rfl rfl ?b1 ?b2 ?b3 ?b4 ?b5 ?_)
  case b1 => rfl
  case b2 => rfl
  case b3 => omega
  case b4 => have := padZ_lt 0; omega
  case b5 => exact Nat.le_refl _
  intro w1 hown1 hg1
  have hb1 : Below W.heap.size W w1 := (Below.refl _ _).grown hg1 (Nat.le_refl _) (by intro k h; cases h)
  have hc0 : w1.cell? ⟨W.heap.size, 0, none⟩ = some (.int .u8 0) := by
    rw [hown1.cellAt _ (by omega), List.getElem?_replicate_of_lt (by omega)]; rfl
  have hf0 := hown1.frozenAt 0
  have HO := Lib.hid (hown1.stored 0 (bv 128))
  have hp64 := padZ_lt 0
  have HZ := Lib.hid (rfl : padZ 0 = padZ 0)
  obtain ⟨q, hq⟩ : ∃ q, q = padZ 0 := ⟨_, rfl⟩
  rw [← hq] at HO hp64 ⊢
  clear hown1 hg1 HZ
  have HQ := Lib.hid hq
  clear hq
  go_wp2_with fail
  have hown2 : (w1.setCell ⟨W.heap.size, 0, none⟩ (.int .u8 128)).ownsRow W.heap.size 5 1 (.slice (some ⟨W.heap.size, 0, none⟩) (1 + q) (9 + q)) (1 + q) ((128 :: List.replicate q 0).map bv) := by
    have := HO.out.1
    rw [Nat.add_comm 1 q, List.replicate_succ] at this
    rw [Nat.add_comm 1 q, List.map_cons, List.map_replicate]
    exact this
  have hb2 : Below W.heap.size W (w1.setCell ⟨W.heap.size, 0, none⟩ (.int .u8 128)) := hb1.setCell (p := ⟨W.heap.size, 0, none⟩) (Nat.le_refl _) _
  generalize w1.setCell ⟨W.heap.size, 0, none⟩ (.int .u8 128) = w2 at hown2 hb2 ⊢
  clear hb1 hc0 hf0 HO
  go_loopw [4, 6] (fun v sh wr => ∃ (k : Nat) (z : Int), k ≤ 8 ∧ sh = .int .i64 z ∧ z = 56 - 8 * (k : Int) ∧ wr.ownsRow W.heap.size 5 1 v (1 + q + k) ((128 :: List.replicate q 0 ++ (be8 0).take k).map bv) ∧ Below W.heap.size W wr)
    (fun _ sh _ => (intOf sh + 8).toNat)
  case atStart => exact ⟨0, 56, by omega, rfl, by omega, by simpa using hown2, hb2⟩
  case round =>
    obtain ⟨k, z, hk, rfl, hz, hown, hb⟩ := hrel
    have hs := hb.size
    clear hown2 hb2
    by_cases h8 : k < 8
    · obtain ⟨e, he, hee⟩ : ∃ e : Nat, z = (e : Int) ∧ e = 8 * (7 - k) := ⟨8 * (7 - k), by omega, rfl⟩
      subst he
      have HT := Lib.hid (be8_take 0 k h8)
      have HE := Lib.hid hee
      have he56 : e ≤ 56 := by omega
      have HZ := Lib.hid hz
      have HK := Lib.hid h8
      clear hee hz h8
      go_wp2_with (at_builtin; refine wpList_append_byt _ rfl _ _ 22 rfl W.heap.size 5 i0 (.int .u8 0) Tryd.underlying22 hi hz0 hz1 hz2 rfl _ _ _ rfl (hown.alloc _) (wr.heap.size + 1) _ 1 1 [(0 : UInt8)] rfl ?c1 ?c2 ?c3 ?c4 ?_)
      case c1 => exact Byt.one _ _ _ (by rfl) _
      case c2 => intro h; cases h
      case c3 => omega
      case c4 => simp; omega
      intro v' w3 hown' hgrow
      have hb' := own_step hb (Nat.le_refl _) hown hgrow
      clear hown hgrow hb
      have HO := Lib.hid hown'
      clear hown'
      go_wp2
      go_roundw
      case rel =>
        refine ⟨k + 1, _, by have := HK.out; omega, rfl, by have := HZ.out; omega, ?_, hb'⟩
        have hk8 := HK.out
        have := HO.out
        rw [HT.out]
        rw [Nat.zero_div]
        simpa [Nat.add_assoc] using this
      case measure => simp [intOf]; omega
    · have hz8 : z = -8 := by omega
      subst hz8
      have HK := Lib.hid (show k = 8 by omega)
      clear hk h8 hz
      have HO := Lib.hid hown
      clear hown
      go_wp2_with fail
      go_ret
      refine ⟨_, rfl, ?_, hb⟩
      have := HO.out
      rw [HK.out, List.take_of_length_le (by rw [be8_len]; exact Nat.le_refl 8), show 1 + q + 8 = 9 + q by omega] at this
      unfold padL
      rw [← HQ.out]
      exact this

def lenOf : Value → Nat
  | .slice _ n _ => n
  | _ => 0

set_option maxHeartbeats 1000000 in
theorem refPad_any (n : Nat) (hn : n ≤ 1152921504606846976) (W : World) :
    Calls Tryd.prog 18 #[.int .i64 ((n : Nat) : Int)] W fun e W' => ∃ v, e = .returned v ∧
      W'.ownsRow W.heap.size 5 1 v (9 + padZ n) ((padL n).map bv) ∧ Below W.heap.size W W' := by
  obtain ⟨i0, hi, hz0, hz1, hz2⟩ := info_parts Tryd.info5
  have hp64 := padZ_lt n
  have HP := Lib.hid (show padZ n = (119 - n % 64) % 64 from rfl)
  obtain ⟨q, hq⟩ : ∃ q, q = padZ n := ⟨_, rfl⟩
  rw [← hq] at HP hp64 ⊢
  have HQ := Lib.hid hq
  clear hq
  go_enter Tryd.func18, Tryd.ntmps18
  go_wp2_with fail
  go_loopw [3] (fun v wr => ∃ m : Nat, 1 ≤ m ∧ m ≤ 1 + q ∧ wr.ownsRow W.heap.size 5 1 v m ((128 :: List.replicate (m - 1) 0).map bv) ∧ Below W.heap.size W wr)
    (fun v _ => 1 + q - lenOf v)
  case atStart => exact ⟨1, by omega, by omega, World.ownsRow_lit _ _ 1 (Nat.le_refl _) (by decide) rfl, (Below.refl _ _).alloc (Nat.le_refl _) _⟩
  case round =>
    obtain ⟨m, h1m, hmq, hown, hb⟩ := hrel
    have hs := hb.size
    obtain ⟨g, c, rfl, hg, _⟩ := hown.form (by omega)
    obtain ⟨a1, r1, la1⟩ : ∃ a : Nat, (n : Int) + (m : Int) = (a : Int) ∧ a = n + m := ⟨n + m, by omega, rfl⟩
    obtain ⟨a2, r2, la2⟩ : ∃ a : Nat, (a1 : Int) + 8 = (a : Int) ∧ a = n + m + 8 := ⟨n + m + 8, by omega, rfl⟩
    have ba1 : a1 ≤ 1152921504606847976 := by omega
    have ba2 : a2 ≤ 1152921504606847976 := by omega
    have HN := Lib.hid hn
    by_cases hlt : m < 1 + q
    · have ht : ¬ (a2 : Int) % 64 = 0 := by have := HP.out; omega
      have HL := Lib.hid hlt
      have HM := Lib.hid h1m
      clear hlt la1 la2 hn
      go_wp2_with (at_builtin; refine wpList_append_byt _ rfl _ _ 22 rfl W.heap.size 5 i0 (.int .u8 0) Tryd.underlying22 hi hz0 hz1 hz2 rfl _ _ _ rfl (hown.alloc _) (wr.heap.size + 1) _ 1 1 [(0 : UInt8)] rfl ?c1 ?c2 ?c3 ?c4 ?_)
      case c1 => exact Byt.one _ _ _ (by rfl) _
      case c2 => intro h; cases h
      case c3 => omega
      case c4 => simp; omega
      intro v' w3 hown' hgrow
      have hb' := own_step hb (Nat.le_refl _) hown hgrow
      clear hown hgrow hb
      obtain ⟨g', c', rfl, hg', _⟩ := hown'.form (by omega)
      have HO := Lib.hid hown'
      clear hown'
      go_wp2
      go_roundw
      case rel =>
        have hl := HL.out
        have h1 := HM.out
        refine ⟨m + 1, by omega, by omega, ?_, hb'⟩
        have := HO.out
        rw [show m + 1 - 1 = (m - 1) + 1 by omega, List.replicate_succ']
        simpa using this
      case measure => have := HL.out; simp [lenOf]; omega
    · have ht : (a2 : Int) % 64 = 0 := by have := HP.out; omega
      have HL := Lib.hid (show m = 1 + q by omega)
      have HO := Lib.hid hown
      clear hlt hmq hown la1 la2
      go_wp2_with fail
      clear ht
      obtain ⟨w1, rfl⟩ : ∃ w1, w1 = wr := ⟨_, rfl⟩
      go_loopw [4, 5, 6] (fun x v i wx => ∃ k : Nat, k ≤ 8 ∧ i = .int .i64 k ∧ x = .int .u64 ((n * 8 / 256 ^ k : Nat) : Int) ∧ wx.ownsRow w1.heap.size 5 1 v k (((le k (n * 8)).reverse).map bv) ∧ Below w1.heap.size w1 wx)
        (fun _ _ i _ => 8 - (intOf i).toNat)
      case atStart => exact ⟨0, by omega, rfl, by simp, World.ownsRow_nil _ _ _ _, Below.refl _ _⟩
      case round =>
        obtain ⟨k, hk, rfl, rfl, hown2, hb2⟩ := hrel
        have hs2 := hb2.size
        obtain ⟨A2, c2, rfl, hn2, hl2, hm2⟩ := own_form hown2
        by_cases h8 : k < 8
        · have HK := Lib.hid h8
          have hy : n * 8 / 256 ^ k ≤ 18446744073709551615 := Nat.le_trans (Nat.div_le_self _ _) (by have := HN.out; omega)
          have HY := Lib.hid (show n * 8 / 256 ^ (k + 1) = n * 8 / 256 ^ k / 256 by rw [Nat.pow_succ, ← Nat.div_div_eq_div_mul])
          have HS := Lib.hid (show (le (k + 1) (n * 8)).reverse = UInt8.ofNat (n * 8 / 256 ^ k) :: (le k (n * 8)).reverse by rw [le_snoc, List.reverse_append]; rfl)
          generalize n * 8 / 256 ^ k = y at hy HY HS ⊢
          have hsrc := (Byt.of_own hown2).alloc (Nat.le_refl _) (.cells #[.int .u8 ((y : Int) % 256)] 5)
          have hlit := World.ownsRow_lit (base := w1.heap.size) (e := 5) (size := 1) wr #[.int .u8 ((y : Int) % 256)] 1 hs2 (by decide) rfl
          have hnil : A2 = none → c2 = 0 := fun h => (hn2 h).2
          have HB := Lib.hid hb2
          clear hn hown2 hb2
          go_wp2_with (at_builtin; refine wpList_append_byt _ rfl _ _ 22 rfl w1.heap.size 5 i0 (.int .u8 0) Tryd.underlying22 hi hz0 hz1 hz2 rfl _ _ _ rfl hlit wr.heap.size A2 k c2 _ rfl hsrc hnil ?d3 ?d4 ?_)
          case d3 => omega
          case d4 => (try simp); omega
          intro v' w3 hown' hgrow
          have hb' : Below w1.heap.size w1 w3 := (HB.out.alloc hs2 _).grown hgrow (by simp; omega) (by intro j hj; cases hj; exact hs2)
          clear hlit hsrc hgrow
          go_wp2
          go_roundw
          case rel =>
            have hk8 := HK.out
            refine ⟨k + 1, by omega, by go_num, ?_, ?_, hb'⟩
            · rw [HY.out]; go_num
            · rw [HS.out, Nat.add_comm k 1, List.map_cons]
              have : bv (UInt8.ofNat y) = .int .u8 ((y : Int) % 256) := by unfold bv; rw [ofNat_mod]; simp
              rw [this, List.map_reverse]
              exact hown'
          case measure => have := HK.out; simp [intOf]; omega
        · have HK := Lib.hid (show k = 8 by omega)
          have h8' : ¬ ((k : Int) < 8) := by omega
          clear hk h8
          have ho := own_below (own_mono HO.out (Nat.le_refl _)) hb2
          have hsrc := Byt.of_own hown2
          have hnil : A2 = none → c2 = 0 := fun h => (hn2 h).2
          go_wp2_with (at_builtin; refine wpList_append_byt _ rfl _ _ 22 rfl W.heap.size 5 i0 (.int .u8 0) Tryd.underlying22 hi hz0 hz1 hz2 rfl _ _ _ rfl ho wr.heap.size A2 k c2 _ rfl hsrc hnil ?e3 ?e4 ?_)
          case e3 => have := HK.out; have := HL.out; omega
          case e4 => omega
          intro v' w3 hown' hgrow
          have hb' : Below W.heap.size W w3 := (bthen hb hb2).grown hgrow (by omega) (fun j hj => (ho.lt j hj).1)
          go_wp2_with fail
          go_ret
          refine ⟨_, rfl, ?_, hb'⟩
          have h1 := HL.out
          have h2 := HK.out
          subst h2
          rw [h1] at hown'
          rw [show 1 + q + 8 = 9 + q by omega, show 1 + q - 1 = q by omega] at hown'
          unfold padL be8
          rw [← HQ.out]
          simpa using hown'

end Go.Proofs.YtbpjklafhohlnaaDoor
