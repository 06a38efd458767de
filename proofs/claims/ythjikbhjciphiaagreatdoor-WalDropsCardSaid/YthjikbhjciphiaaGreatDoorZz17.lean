/-
  Package name: signs of names and digits, asked one by one; its reference's.
-/
import Derived.Test.YthjikbhjciphiaaGreatDoorZz7
import Derived.BigCall
import Derived.Shelf.Abstract
import Derived.BigGuard
namespace Go.Proofs.YthjikbhjciphiaaGreatDoor
open Go.RowKit
set_option linter.unusedVariables false
set_option linter.unusedSimpArgs false

set_option maxRecDepth 100000 in
theorem within_any (s : ByteArray) (n : Nat) (hs : s.size ≤ maxLen) (W : World) :
    Calls Tryz.prog 77 #[.string s, .int .i64 n] W fun e W' => e = .returned (.bool (decide (1 ≤ s.size) && decide (s.size ≤ n))) ∧ W' = W := by
  unfold maxLen at hs
  go_enter Tryz.func77, Tryz.ntmps77
  by_cases h1 : 0 < s.size
  · have h2 : decide ((0 : Int) < (s.size : Int)) = true := decide_eq_true (by omega)
    go_wp2
    go_ret
    refine ⟨?_, rfl⟩
    congr 2
    simp
    omega
  · have h2 : decide ((0 : Int) < (s.size : Int)) = false := decide_eq_false (by omega)
    go_wp2
    go_ret
    refine ⟨?_, rfl⟩
    congr 2
    simp
    omega

set_option maxRecDepth 100000 in
theorem isLetter_any (r : Int) (W : World) :
    Calls Tryz.prog 79 #[.int .i32 r] W fun e W' => e = .returned (.bool (letR r)) ∧ W' = W := by
  go_enter Tryz.func79, Tryz.ntmps79
  by_cases h1 : (97 : Int) ≤ r
  · have h2 : decide ((97 : Int) ≤ r) = true := by simpa using h1
    go_wp2
    go_ret
    exact ⟨by simp [letR] <;> omega, rfl⟩
  · have h2 : decide ((97 : Int) ≤ r) = false := by simpa using h1
    go_wp2
    go_ret
    exact ⟨by simp [letR] <;> omega, rfl⟩

set_option maxRecDepth 100000 in
theorem isDigit_any (r : Int) (W : World) :
    Calls Tryz.prog 124 #[.int .i32 r] W fun e W' => e = .returned (.bool (digR r)) ∧ W' = W := by
  go_enter Tryz.func124, Tryz.ntmps124
  by_cases h1 : (48 : Int) ≤ r
  · have h2 : decide ((48 : Int) ≤ r) = true := by simpa using h1
    go_wp2
    go_ret
    exact ⟨by simp [digR] <;> omega, rfl⟩
  · have h2 : decide ((48 : Int) ≤ r) = false := by simpa using h1
    go_wp2
    go_ret
    exact ⟨by simp [digR] <;> omega, rfl⟩

set_option maxRecDepth 100000 in
theorem isOfTenant_any (r : Int) (W : World) :
    Calls Tryz.prog 80 #[.int .i32 r] W fun e W' => e = .returned (.bool (tenR r)) ∧ W' = W := by
  go_enter Tryz.func80, Tryz.ntmps80
  go_wp2_with fail
  refine (isLetter_any r W).mono ?_
  rintro e W1 ⟨rfl, rfl⟩
  cases h1 : letR r
  · go_wp2_with fail
    refine (isDigit_any r _).mono ?_
    rintro e W2 ⟨rfl, rfl⟩
    cases h2 : digR r
    · go_wp2
      go_ret
      refine ⟨?_, rfl⟩
      simp [tenR, h1, h2]
      rfl
    · go_wp2
      go_ret
      exact ⟨by simp [tenR, h1, h2], rfl⟩
  · go_wp2
    go_ret
    exact ⟨by simp [tenR, h1], rfl⟩

set_option maxRecDepth 100000 in
theorem isOfTarget_any (r : Int) (W : World) :
    Calls Tryz.prog 179 #[.int .i32 r] W fun e W' => e = .returned (.bool (tarR r)) ∧ W' = W := by
  go_enter Tryz.func179, Tryz.ntmps179
  go_wp2_with fail
  refine (isOfTenant_any r W).mono ?_
  rintro e W1 ⟨rfl, rfl⟩
  cases h1 : tenR r
  · by_cases h2 : r = 46
    · have h3 : (r == 46) = true := by simpa using h2
      go_wp2
      go_ret
      exact ⟨by simp [tarR, h1, h2], rfl⟩
    · have h3 : (r == 46) = false := by simpa using h2
      go_wp2
      go_ret
      exact ⟨by simp [tarR, h1, h2] <;> rfl, rfl⟩
  · go_wp2
    go_ret
    exact ⟨by simp [tarR, h1], rfl⟩

set_option maxRecDepth 100000 in
set_option maxHeartbeats 2000000 in
/-- Each rune of a text is asked, up to the first one that is none of p's: of p only what is below 128 may be. -/
theorem only_any (f : FuncId) (p : Int → Bool) (hh : ∀ r : Int, 128 ≤ r → p r = false)
    (he : ∀ args w, (callFunc f args).run Tryz.prog w = .ok (.enter f args) w)
    (hp : ∀ (r : Nat) (w : World), r ≤ 1114111 → Calls Tryz.prog f #[.int .i32 ((r : Nat) : Int)] w fun e w' => e = .returned (.bool (p ((r : Nat) : Int))) ∧ Below w.heap.size w w')
    (s : ByteArray) (W : World) :
    Calls Tryz.prog 78 #[.string s, .func (.func f) #[] #[]] W fun e W' => e = .returned (.bool (allR p s.data.toList)) ∧ Below W.heap.size W W' := by
  go_enter Tryz.func78, Tryz.ntmps78
  go_wp2
  go_loopw [] (fun wr => ∃ pos : Nat, wr.heap[W.heap.size]? = some (.stringIter s pos) ∧ Below W.heap.size W wr ∧ allR p (s.data.toList.take pos) = true) (fun wr => s.size - wr.iterPos W.heap.size)
  case atStart =>
    refine ⟨0, ?_, (Below.refl _ W).alloc (Nat.le_refl _) _, by simp [allR]⟩
    have := World.iter_heap W s 0
    simpa using this
  case round =>
    obtain ⟨pos, hit, hbw, hall⟩ := hrel
    have hsz : W.heap.size < wr.heap.size := (Array.getElem?_eq_some_iff.1 hit).1
    by_cases hp' : pos < s.size
    · have hnx : ∀ ty, (Instr.next (.pointer (some ⟨W.heap.size, 0, none⟩)) true ty).run Tryz.prog wr = _ := fun ty => Lib.run_next_any_at wr W.heap.size s pos ty hit hp'
      have hmx := decode_max s pos
      have hit2 := Lib.iterAt_heap wr W.heap.size s pos (pos + (Utf8.decode s pos).2) hit
      have hbw2 := Lib.below_iterAt hbw (k := W.heap.size) (Nat.le_refl _) s (pos + (Utf8.decode s pos).2)
      have hsz2 : W.heap.size < (wr.iterAt W.heap.size s (pos + (Utf8.decode s pos).2)).heap.size := by rw [Lib.iterAt_size]; exact hsz
      have hby := byte_at s pos hp'
      by_cases ha : (s[pos]'hp').toNat < 128
      · have hd := decode_ascii s pos hp' ha
        rw [hd] at hnx hmx hit2 hbw2 hsz2
        dsimp only at hnx hmx hit2 hbw2 hsz2
        obtain ⟨x, hx⟩ : ∃ x, s[pos]'hp' = x := ⟨_, rfl⟩
        rw [hx] at hnx hmx hby ha
        clear hd hx
        have HA := allR_take p _ _ _ hby
        rw [hall] at HA
        have hfin : ∀ W1 : World, Below (wr.iterAt W.heap.size s (pos + 1)).heap.size (wr.iterAt W.heap.size s (pos + 1)) W1 → W1.heap[W.heap.size]? = some (.stringIter s (pos + 1)) ∧ Below W.heap.size W W1 := fun W1 hb1 =>
          ⟨by rw [hb1.block _ hsz2]; exact hit2, hbw2.trans (hb1.mono (Nat.le_of_lt hsz2))⟩
        cases hpx : p ((x.toNat : Nat) : Int)
        · have HF := Lib.hid (allR_out p _ _ _ hby hpx)
          clear HA hall
          go_wp2_with (go_at_fn f; refine (hp x.toNat _ hmx).mono ?_; rintro e W1 ⟨rfl, hb1⟩)
          go_ret
          exact ⟨by rw [HF.out]; rfl, (hfin _ hb1).2⟩
        · rw [hpx] at HA
          have HT := Lib.hid HA
          clear HA hall
          go_wp2_with (go_at_fn f; refine (hp x.toNat _ hmx).mono ?_; rintro e W1 ⟨rfl, hb1⟩)
          go_roundw
          case rel => exact ⟨pos + 1, (hfin _ hb1).1, (hfin _ hb1).2, by rw [HT.out]; rfl⟩
          case measure =>
            rw [iterPos_of (hfin _ hb1).1, iterPos_of hit]
            omega
      · have hd := decode_high s pos hp' (by omega)
        obtain ⟨r, hr⟩ : ∃ r, (Utf8.decode s pos).1 = r := ⟨_, rfl⟩
        obtain ⟨k, hk⟩ : ∃ k, (Utf8.decode s pos).2 = k := ⟨_, rfl⟩
        rw [hr] at hnx hmx hd
        rw [hk] at hnx hit2 hbw2 hsz2 hd
        have HF := Lib.hid (allR_out p _ _ _ hby (hh _ (by omega)))
        have hpr : p ((r : Nat) : Int) = false := hh _ (by omega)
        clear hr hk hall
        go_wp2_with (go_at_fn f; refine (hp r _ hmx).mono ?_; rintro e W1 ⟨rfl, hb1⟩)
        have hb3 : Below W.heap.size W W1 := hbw2.trans (hb1.mono (Nat.le_of_lt hsz2))
        go_wp2
        go_ret
        exact ⟨by rw [HF.out]; rfl, hb3⟩
    · have hnx : ∀ ty, (Instr.next (.pointer (some ⟨W.heap.size, 0, none⟩)) true ty).run Tryz.prog wr = _ := fun ty => Lib.run_next_end_at wr W.heap.size s pos ty hit hp'
      have HT := Lib.hid hall
      clear hall
      go_wp2
      go_ret
      refine ⟨?_, hbw⟩
      have := HT.out
      rw [List.take_of_length_le (by simp; omega)] at this
      rw [this]
      rfl

end Go.Proofs.YthjikbhjciphiaaGreatDoor

/-
  Package name: whether a text may be a tenant's or a target's name; the reference's answers.
-/
namespace Go.Proofs.YthjikbhjciphiaaGreatDoor
open Go.RowKit
set_option linter.unusedVariables false
set_option linter.unusedSimpArgs false

/-- Whether a byte is among some. -/
def hasB : List UInt8 → UInt8 → Bool
  | [], _ => false
  | b :: l, c => b == c || hasB l c

theorem hasB_append (l r : List UInt8) (c : UInt8) : hasB (l ++ r) c = (hasB l c || hasB r c) := by
  induction l with
  | nil => simp [hasB]
  | cons b l ih => simp [hasB, ih, Bool.or_assoc]
theorem hasB_take (l : List UInt8) (k : Nat) (b c : UInt8) (h : l[k]? = some b) : hasB (l.take (k + 1)) c = (hasB (l.take k) c || (b == c)) := by
  rw [List.take_add_one, h, hasB_append]
  simp [hasB]
theorem hasB_mem (l : List UInt8) (k : Nat) (b : UInt8) (h : l[k]? = some b) : hasB l b = true := by
  rw [← List.take_append_drop k l, hasB_append, List.drop_eq_getElem_cons (List.getElem?_eq_some_iff.1 h).1]
  have : l[k]'(List.getElem?_eq_some_iff.1 h).1 = b := (List.getElem?_eq_some_iff.1 h).2
  simp [hasB, this]

theorem beq_byte (b c : UInt8) : (((b.toNat : Nat) : Int) == ((c.toNat : Nat) : Int)) = (b == c) := by
  rw [Bool.eq_iff_iff, beq_iff_eq, beq_iff_eq, ← UInt8.toNat_inj]
  omega

set_option maxRecDepth 100000 in
theorem refIn_any (s : ByteArray) (c : UInt8) (hs : s.size ≤ 10000) (W : World) :
    Calls Tryz.prog 127 #[.string s, .int .u8 ((c.toNat : Nat) : Int)] W fun e W' => e = .returned (.bool (hasB s.data.toList c)) ∧ W' = W := by
  go_enter Tryz.func127, Tryz.ntmps127
  go_wp2
  go_loop [5] (fun i => ∃ k : Nat, k ≤ s.size ∧ i = .int .i64 k ∧ hasB (s.data.toList.take k) c = false) (fun i => s.size - (intOf i).toNat)
  case atStart => exact ⟨0, Nat.zero_le _, rfl, rfl⟩
  case round =>
    obtain ⟨k, hk, rfl, hno⟩ := hrel
    by_cases hlt : k < s.size
    · have hby := byte_at s k hlt
      obtain ⟨x, hx⟩ : ∃ x, s[k]'hlt = x := ⟨_, rfl⟩
      rw [hx] at hby
      have hst := hasB_take _ k x c hby
      rw [hno, Bool.false_or] at hst
      have HB := beq_byte x c
      cases hxc : (x == c)
      · rw [hxc] at hst HB
        have HS := Lib.hid hst
        clear hst hno hby hxc
        go_wp2
        go_round
        case rel => exact ⟨k + 1, by omega, by go_num, HS.out⟩
        case measure => simp [intOf]; omega
      · rw [hxc] at HB
        have hm : hasB s.data.toList c = true := by
          have : x = c := by simpa using hxc
          subst this
          exact hasB_mem _ _ _ hby
        have HS := Lib.hid hm
        clear hst hno hby hxc hm
        go_wp2
        go_ret
        exact ⟨by rw [HS.out]; rfl, rfl⟩
    · have HS := Lib.hid hno
      have hlen : s.data.toList.length ≤ k := by simp; omega
      have HL := Lib.hid hlen
      clear hno hlen
      go_wp2
      go_ret
      refine ⟨?_, rfl⟩
      have := HS.out
      rw [List.take_of_length_le HL.out] at this
      rw [this]
      rfl

/-- Whether each byte is among some. -/
def allIn (l L : List UInt8) : Bool := l.all fun b => hasB L b
theorem allIn_take (l L : List UInt8) (k : Nat) (b : UInt8) (h : l[k]? = some b) : allIn (l.take (k + 1)) L = (allIn (l.take k) L && hasB L b) := by
  unfold allIn
  rw [List.take_add_one, h]
  simp [List.all_append]
theorem allIn_out (l L : List UInt8) (k : Nat) (b : UInt8) (h : l[k]? = some b) (hp : hasB L b = false) : allIn l L = false := by
  unfold allIn
  rw [List.all_eq_false]
  exact ⟨b, List.mem_of_getElem? h, by rw [hp]; simp⟩

set_option maxRecDepth 100000 in
theorem refOnly_any (s L : ByteArray) (hs : s.size ≤ 10000) (hL : L.size ≤ 10000) (W : World) :
    Calls Tryz.prog 85 #[.string s, .string L] W fun e W' => e = .returned (.bool (allIn s.data.toList L.data.toList)) ∧ W' = W := by
  go_enter Tryz.func85, Tryz.ntmps85
  go_wp2
  go_loop [5] (fun i => ∃ k : Nat, k ≤ s.size ∧ i = .int .i64 k ∧ allIn (s.data.toList.take k) L.data.toList = true) (fun i => s.size - (intOf i).toNat)
  case atStart => exact ⟨0, Nat.zero_le _, rfl, rfl⟩
  case round =>
    obtain ⟨k, hk, rfl, hno⟩ := hrel
    by_cases hlt : k < s.size
    · have hby := byte_at s k hlt
      obtain ⟨x, hx⟩ : ∃ x, s[k]'hlt = x := ⟨_, rfl⟩
      rw [hx] at hby
      have hst := allIn_take _ L.data.toList k x hby
      rw [hno, Bool.true_and] at hst
      have hI := fun w => refIn_any L x hL w
      cases hxc : hasB L.data.toList x
      · rw [hxc] at hI
        have HS := Lib.hid (allIn_out _ _ k x hby hxc)
        clear hst hno hby hxc
        go_wp2_with fail
        refine (hI _).mono ?_
        rintro e W1 ⟨rfl, rfl⟩
        go_wp2
        go_ret
        exact ⟨by rw [HS.out]; rfl, rfl⟩
      · rw [hxc] at hI hst
        have HS := Lib.hid hst
        clear hst hno hby hxc
        go_wp2_with fail
        refine (hI _).mono ?_
        rintro e W1 ⟨rfl, rfl⟩
        go_wp2
        go_round
        case rel => exact ⟨k + 1, by omega, by go_num, HS.out⟩
        case measure => simp [intOf]; omega
    · have HS := Lib.hid hno
      have hlen : s.data.toList.length ≤ k := by simp; omega
      have HL := Lib.hid hlen
      clear hno hlen
      go_wp2
      go_ret
      refine ⟨?_, rfl⟩
      have := HS.out
      rw [List.take_of_length_le HL.out] at this
      rw [this]
      rfl

def tenT : ByteArray := ⟨#[97, 98, 99, 100, 101, 102, 103, 104, 105, 106, 107, 108, 109, 110, 111, 112, 113, 114, 115, 116, 117, 118, 119, 120, 121, 122, 48, 49, 50, 51, 52, 53, 54, 55, 56, 57, 45]⟩
def tarT : ByteArray := ⟨#[97, 98, 99, 100, 101, 102, 103, 104, 105, 106, 107, 108, 109, 110, 111, 112, 113, 114, 115, 116, 117, 118, 119, 120, 121, 122, 48, 49, 50, 51, 52, 53, 54, 55, 56, 57, 45, 46, 58]⟩
theorem allIn_of (p : Int → Bool) (L : List UInt8) (h : ∀ b : Fin 256, hasB L (UInt8.ofNat b.val) = p ((b.val : Nat) : Int)) (l : List UInt8) : allIn l L = allR p l := by
  unfold allIn allR
  congr 1
  funext b
  have h1 := h ⟨b.toNat, b.toNat_lt⟩
  have e : UInt8.ofNat b.toNat = b := by simp
  simp only [e] at h1
  exact h1
theorem allIn_ten (l : List UInt8) : allIn l tenT.data.toList = allR tenR l := allIn_of tenR _ (by decide +kernel) l
theorem allIn_tar (l : List UInt8) : allIn l tarT.data.toList = allR tarR l := allIn_of tarR _ (by decide +kernel) l

/-- Whether a text may be a tenant's name; a target's. -/
def tenantB (l : List UInt8) : Bool := decide (1 ≤ l.length) && decide (l.length ≤ 16) && (allR letR (l.take 1) && allR tenR l)
def targetB (l : List UInt8) : Bool := decide (1 ≤ l.length) && decide (l.length ≤ 24) && (allR tenR (l.take 1) && allR tarR l)

theorem tenant_target (l : List UInt8) (h : tenantB l = true) : targetB l = true := by
  unfold tenantB at h
  unfold targetB
  simp only [Bool.and_eq_true, decide_eq_true_eq] at h ⊢
  obtain ⟨⟨h1, h2⟩, h3, h4⟩ := h
  refine ⟨⟨h1, by omega⟩, ?_, ?_⟩
  · unfold allR at h3 ⊢
    rw [List.all_eq_true] at h3 ⊢
    intro x hx
    have := h3 x hx
    simp [tenR, this]
  · unfold allR at h4 ⊢
    rw [List.all_eq_true] at h4 ⊢
    intro x hx
    have := h4 x hx
    simp [tarR, this]

theorem extract_one (s : ByteArray) : (s.extract 0 1).data.toList = s.data.toList.take 1 := by simp

theorem enters_letter : ∀ args w, (callFunc 79 args).run Tryz.prog w = .ok (.enter 79 args) w := enters_of Tryz.func79 (by kernel_rfl) rfl

theorem enters_tenant : ∀ args w, (callFunc 80 args).run Tryz.prog w = .ok (.enter 80 args) w := enters_of Tryz.func80 (by kernel_rfl) rfl

theorem enters_target : ∀ args w, (callFunc 179 args).run Tryz.prog w = .ok (.enter 179 args) w := enters_of Tryz.func179 (by kernel_rfl) rfl

theorem onlyLetter_any (s : ByteArray) (W : World) :
    Calls Tryz.prog 78 #[.string s, .func (.func 79) #[] #[]] W fun e W' => e = .returned (.bool (allR letR s.data.toList)) ∧ Below W.heap.size W W' :=
  only_any 79 letR letR_high enters_letter (fun r w _ => (isLetter_any ((r : Nat) : Int) w).mono fun e w' h => ⟨h.1, by rw [h.2]; exact Below.refl _ _⟩) s W

theorem onlyTenant_any (s : ByteArray) (W : World) :
    Calls Tryz.prog 78 #[.string s, .func (.func 80) #[] #[]] W fun e W' => e = .returned (.bool (allR tenR s.data.toList)) ∧ Below W.heap.size W W' :=
  only_any 80 tenR tenR_high enters_tenant (fun r w _ => (isOfTenant_any ((r : Nat) : Int) w).mono fun e w' h => ⟨h.1, by rw [h.2]; exact Below.refl _ _⟩) s W

theorem onlyTarget_any (s : ByteArray) (W : World) :
    Calls Tryz.prog 78 #[.string s, .func (.func 179) #[] #[]] W fun e W' => e = .returned (.bool (allR tarR s.data.toList)) ∧ Below W.heap.size W W' :=
  only_any 179 tarR tarR_high enters_target (fun r w _ => (isOfTarget_any ((r : Nat) : Int) w).mono fun e w' h => ⟨h.1, by rw [h.2]; exact Below.refl _ _⟩) s W

set_option maxRecDepth 100000 in
set_option maxHeartbeats 1000000 in
theorem tenant_any (s : ByteArray) (hs : s.size ≤ maxLen) (W : World) :
    Calls Tryz.prog 51 #[.string s] W fun e W' => e = .returned (.bool (tenantB s.data.toList)) ∧ Below W.heap.size W W' := by
  have hT : tenantB s.data.toList = (decide (1 ≤ s.size) && decide (s.size ≤ 16) && (allR letR (s.data.toList.take 1) && allR tenR s.data.toList)) := by
    unfold tenantB
    rw [show s.data.toList.length = s.size by simp]
  have HT := Lib.hid hT
  clear hT
  have hw := within_any s 16 hs
  unfold maxLen at hs
  go_enter Tryz.func51, Tryz.ntmps51
  go_wp2_with fail
  refine (hw W).mono ?_
  rintro e W1 ⟨rfl, rfl⟩
  clear hw
  cases h1 : (decide (1 ≤ s.size) && decide (s.size ≤ 16))
  · rw [h1, Bool.false_and] at HT
    clear h1
    go_wp2_with fail
    go_ret
    exact ⟨by rw [HT.out]; rfl, Below.refl _ _⟩
  · rw [h1, Bool.true_and] at HT
    simp only [Bool.and_eq_true, decide_eq_true_eq] at h1
    have h2 := h1.1
    clear h1
    go_wp2_with fail
    refine (onlyLetter_any _ _).mono ?_
    rintro e W2 ⟨rfl, hb2⟩
    have he := Lib.hid (extract_one s)
    cases h3 : allR letR (s.extract 0 1).data.toList
    · rw [he.out] at h3
      rw [h3, Bool.false_and] at HT
      clear h3
      go_wp2_with fail
      go_ret
      exact ⟨by rw [HT.out]; rfl, hb2⟩
    · rw [he.out] at h3
      rw [h3, Bool.true_and] at HT
      clear h3
      go_wp2_with fail
      refine (onlyTenant_any _ _).mono ?_
      rintro e W3 ⟨rfl, hb3⟩
      generalize allR tenR s.data.toList = q at HT ⊢
      go_wp2_with fail
      go_ret
      exact ⟨by rw [HT.out]; rfl, bthen hb2 hb3⟩

set_option maxRecDepth 100000 in
set_option maxHeartbeats 1000000 in
theorem target_any (s : ByteArray) (hs : s.size ≤ maxLen) (W : World) :
    Calls Tryz.prog 135 #[.string s] W fun e W' => e = .returned (.bool (targetB s.data.toList)) ∧ Below W.heap.size W W' := by
  have hT : targetB s.data.toList = (decide (1 ≤ s.size) && decide (s.size ≤ 24) && (allR tenR (s.data.toList.take 1) && allR tarR s.data.toList)) := by
    unfold targetB
    rw [show s.data.toList.length = s.size by simp]
  have HT := Lib.hid hT
  clear hT
  have hw := within_any s 24 hs
  unfold maxLen at hs
  go_enter Tryz.func135, Tryz.ntmps135
  go_wp2_with fail
  refine (hw W).mono ?_
  rintro e W1 ⟨rfl, rfl⟩
  clear hw
  cases h1 : (decide (1 ≤ s.size) && decide (s.size ≤ 24))
  · rw [h1, Bool.false_and] at HT
    clear h1
    go_wp2_with fail
    go_ret
    exact ⟨by rw [HT.out]; rfl, Below.refl _ _⟩
  · rw [h1, Bool.true_and] at HT
    simp only [Bool.and_eq_true, decide_eq_true_eq] at h1
    have h2 := h1.1
    clear h1
    go_wp2_with fail
    refine (onlyTenant_any _ _).mono ?_
    rintro e W2 ⟨rfl, hb2⟩
    have he := Lib.hid (extract_one s)
    cases h3 : allR tenR (s.extract 0 1).data.toList
    · rw [he.out] at h3
      rw [h3, Bool.false_and] at HT
      clear h3
      go_wp2_with fail
      go_ret
      exact ⟨by rw [HT.out]; rfl, hb2⟩
    · rw [he.out] at h3
      rw [h3, Bool.true_and] at HT
      clear h3
      go_wp2_with fail
      refine (onlyTarget_any _ _).mono ?_
      rintro e W3 ⟨rfl, hb3⟩
      generalize allR tarR s.data.toList = q at HT ⊢
      go_wp2_with fail
      go_ret
      exact ⟨by rw [HT.out]; rfl, bthen hb2 hb3⟩

theorem allR_at (p : Int → Bool) (l : List UInt8) (h : allR p l = true) (k : Nat) (b : UInt8) (hb : l[k]? = some b) : p ((b.toNat : Nat) : Int) = true := by
  unfold allR at h
  rw [List.all_eq_true] at h
  exact h b (List.mem_of_getElem? hb)

end Go.Proofs.YthjikbhjciphiaaGreatDoor
