/-
  Package name: whether a text may be a tenant's or a target's name; the reference's answers.
-/
import Derived.Test.YtnjkhhagefipiaaDoorNaA
namespace Go.Proofs.YtnjkhhagefipiaaDoor
open Go.RowKit
set_option linter.unusedVariables false
set_option linter.unusedSimpArgs false

/-- Whether a byte is among some. -/
def hasB : List UInt8 → UInt8 → Bool
  | [], _ => false
  | b :: l, c => b == c || hasB l c

theorem hasB_append (l r : List UInt8) (c : UInt8) : hasB (l ++ r) c = (hasB l c || hasB r c) := by
  induction l with
  | nil => simp [hasB]
  | cons b l ih => simp [hasB, ih, Bool.or_assoc]
theorem hasB_take (l : List UInt8) (k : Nat) (b c : UInt8) (h : l[k]? = some b) : hasB (l.take (k + 1)) c = (hasB (l.take k) c || (b == c)) := by
  rw [List.take_add_one, h, hasB_append]
  simp [hasB]
theorem hasB_mem (l : List UInt8) (k : Nat) (b : UInt8) (h : l[k]? = some b) : hasB l b = true := by
  rw [← List.take_append_drop k l, hasB_append, List.drop_eq_getElem_cons (List.getElem?_eq_some_iff.1 h).1]
  have : l[k]'(List.getElem?_eq_some_iff.1 h).1 = b := (List.getElem?_eq_some_iff.1 h).2
  simp [hasB, this]

theorem beq_byte (b c : UInt8) : (((b.toNat : Nat) : Int) == ((c.toNat : Nat) : Int)) = (b == c) := by
  rw [Bool.eq_iff_iff, beq_iff_eq, beq_iff_eq, ← UInt8.toNat_inj]
  omega

set_option maxRecDepth 100000 in
theorem refIn_any (s : ByteArray) (c : UInt8) (hs : s.size ≤ 10000) (W : World) :
    Calls Tryd.prog 50 #[.string s, .int .u8 ((c.toNat : Nat) : Int)] W fun e W' => e = .returned (.bool (hasB s.data.toList c)) ∧ W' = W := by
  go_enter Tryd.func50, Tryd.ntmps50
  go_wp2
  go_loop [5] (fun i => ∃ k : Nat, k ≤ s.size ∧ i = .int .i64 k ∧ hasB (s.data.toList.take k) c = false) (fun i => s.size - (intOf i).toNat)
  case atStart => exact ⟨0, Nat.zero_le _, rfl, rfl⟩
  case round =>
    obtain ⟨k, hk, rfl, hno⟩ := hrel
    by_cases hlt : k < s.size
    · have hby := byte_at s k hlt
      obtain ⟨x, hx⟩ : ∃ x, s[k]'hlt = x := ⟨_, rfl⟩
      rw [hx] at hby
      have hst := hasB_take _ k x c hby
      rw [hno, Bool.false_or] at hst
      have HB := beq_byte x c
      cases hxc : (x == c)
      · rw [hxc] at hst HB
        have HS := Lib.hid hst
        clear hst hno hby hxc
        go_wp2
        go_round
        case rel => exact ⟨k + 1, by omega, by go_num, HS.out⟩
        case measure => simp [intOf]; omega
      · rw [hxc] at HB
        have hm : hasB s.data.toList c = true := by
          have : x = c := by simpa using hxc
          subst this
          exact hasB_mem _ _ _ hby
        have HS := Lib.hid hm
        clear hst hno hby hxc hm
        go_wp2
        go_ret
        exact ⟨by rw [HS.out]; rfl, rfl⟩
    · have HS := Lib.hid hno
      have hlen : s.data.toList.length ≤ k := by simp; omega
      have HL := Lib.hid hlen
      clear hno hlen
      go_wp2
      go_ret
      refine ⟨?_, rfl⟩
      have := HS.out
      rw [List.take_of_length_le HL.out] at this
      rw [this]
      rfl

/-- Whether each byte is among some. -/
def allIn (l L : List UInt8) : Bool := l.all fun b => hasB L b
theorem allIn_take (l L : List UInt8) (k : Nat) (b : UInt8) (h : l[k]? = some b) : allIn (l.take (k + 1)) L = (allIn (l.take k) L && hasB L b) := by
  unfold allIn
  rw [List.take_add_one, h]
  simp [List.all_append]
theorem allIn_out (l L : List UInt8) (k : Nat) (b : UInt8) (h : l[k]? = some b) (hp : hasB L b = false) : allIn l L = false := by
  unfold allIn
  rw [List.all_eq_false]
  exact ⟨b, List.mem_of_getElem? h, by rw [hp]; simp⟩

set_option maxRecDepth 100000 in
theorem refOnly_any (s L : ByteArray) (hs : s.size ≤ 10000) (hL : L.size ≤ 10000) (W : World) :
    Calls Tryd.prog 41 #[.string s, .string L] W fun e W' => e = .returned (.bool (allIn s.data.toList L.data.toList)) ∧ W' = W := by
  go_enter Tryd.func41, Tryd.ntmps41
  go_wp2
  go_loop [5] (fun i => ∃ k : Nat, k ≤ s.size ∧ i = .int .i64 k ∧ allIn (s.data.toList.take k) L.data.toList = true) (fun i => s.size - (intOf i).toNat)
  case atStart => exact ⟨0, Nat.zero_le _, rfl, rfl⟩
  case round =>
    obtain ⟨k, hk, rfl, hno⟩ := hrel
    by_cases hlt : k < s.size
    · have hby := byte_at s k hlt
      obtain ⟨x, hx⟩ : ∃ x, s[k]'hlt = x := ⟨_, rfl⟩
      rw [hx] at hby
      have hst := allIn_take _ L.data.toList k x hby
      rw [hno, Bool.true_and] at hst
      have hI := fun w => refIn_any L x hL w
      cases hxc : hasB L.data.toList x
      · rw [hxc] at hI
        have HS := Lib.hid (allIn_out _ _ k x hby hxc)
        clear hst hno hby hxc
        go_wp2_with fail
        refine (hI _).mono ?_
        rintro e W1 ⟨rfl, rfl⟩
        go_wp2
        go_ret
        exact ⟨by rw [HS.out]; rfl, rfl⟩
      · rw [hxc] at hI hst
        have HS := Lib.hid hst
        clear hst hno hby hxc
        go_wp2_with fail
        refine (hI _).mono ?_
        rintro e W1 ⟨rfl, rfl⟩
        go_wp2
        go_round
        case rel => exact ⟨k + 1, by omega, by go_num, HS.out⟩
        case measure => simp [intOf]; omega
    · have HS := Lib.hid hno
      have hlen : s.data.toList.length ≤ k := by simp; omega
      have HL := Lib.hid hlen
      clear hno hlen
      go_wp2
      go_ret
      refine ⟨?_, rfl⟩
      have := HS.out
      rw [List.take_of_length_le HL.out] at this
      rw [this]
      rfl

def tenT : ByteArray := ⟨#[97, 98, 99, 100, 101, 102, 103, 104, 105, 106, 107, 108, 109, 110, 111, 112, 113, 114, 115, 116, 117, 118, 119, 120, 121, 122, 48, 49, 50, 51, 52, 53, 54, 55, 56, 57, 45]⟩
def tarT : ByteArray := ⟨#[97, 98, 99, 100, 101, 102, 103, 104, 105, 106, 107, 108, 109, 110, 111, 112, 113, 114, 115, 116, 117, 118, 119, 120, 121, 122, 48, 49, 50, 51, 52, 53, 54, 55, 56, 57, 45, 46, 58]⟩
theorem allIn_of (p : Int → Bool) (L : List UInt8) (h : ∀ b : Fin 256, hasB L (UInt8.ofNat b.val) = p ((b.val : Nat) : Int)) (l : List UInt8) : allIn l L = allR p l := by
  unfold allIn allR
  congr 1
  funext b
  have h1 := h ⟨b.toNat, b.toNat_lt⟩
  have e : UInt8.ofNat b.toNat = b := by simp
  simp only [e] at h1
  exact h1
theorem allIn_ten (l : List UInt8) : allIn l tenT.data.toList = allR tenR l := allIn_of tenR _ (by decide +kernel) l
theorem allIn_tar (l : List UInt8) : allIn l tarT.data.toList = allR tarR l := allIn_of tarR _ (by decide +kernel) l

/-- Whether a text may be a tenant's name; a target's. -/
def tenantB (l : List UInt8) : Bool := decide (1 ≤ l.length) && decide (l.length ≤ 16) && (allR letR (l.take 1) && allR tenR l)
def targetB (l : List UInt8) : Bool := decide (1 ≤ l.length) && decide (l.length ≤ 24) && (allR tenR (l.take 1) && allR tarR l)

theorem tenant_target (l : List UInt8) (h : tenantB l = true) : targetB l = true := by
  unfold tenantB at h
  unfold targetB
  simp only [Bool.and_eq_true, decide_eq_true_eq] at h ⊢
  obtain ⟨⟨h1, h2⟩, h3, h4⟩ := h
  refine ⟨⟨h1, by omega⟩, ?_, ?_⟩
  · unfold allR at h3 ⊢
    rw [List.all_eq_true] at h3 ⊢
    intro x hx
    have := h3 x hx
    simp [tenR, this]
  · unfold allR at h4 ⊢
    rw [List.all_eq_true] at h4 ⊢
    intro x hx
    have := h4 x hx
    simp [tarR, this]

theorem extract_one (s : ByteArray) : (s.extract 0 1).data.toList = s.data.toList.take 1 := by simp

theorem enters_letter : ∀ args w, (callFunc 37 args).run Tryd.prog w = .ok (.enter 37 args) w := enters_of Tryd.func37 (by kernel_rfl) rfl

theorem enters_tenant : ∀ args w, (callFunc 38 args).run Tryd.prog w = .ok (.enter 38 args) w := enters_of Tryd.func38 (by kernel_rfl) rfl

theorem onlyLetter_any (s : ByteArray) (W : World) :
    Calls Tryd.prog 36 #[.string s, .func (.func 37) #[] #[]] W fun e W' => e = .returned (.bool (allR letR s.data.toList)) ∧ Below W.heap.size W W' :=
  only_any 37 letR letR_high enters_letter (fun r w _ => (isLetter_any ((r : Nat) : Int) w).mono fun e w' h => ⟨h.1, by rw [h.2]; exact Below.refl _ _⟩) s W

theorem onlyTenant_any (s : ByteArray) (W : World) :
    Calls Tryd.prog 36 #[.string s, .func (.func 38) #[] #[]] W fun e W' => e = .returned (.bool (allR tenR s.data.toList)) ∧ Below W.heap.size W W' :=
  only_any 38 tenR tenR_high enters_tenant (fun r w _ => (isOfTenant_any ((r : Nat) : Int) w).mono fun e w' h => ⟨h.1, by rw [h.2]; exact Below.refl _ _⟩) s W

set_option maxRecDepth 100000 in
set_option maxHeartbeats 1000000 in
theorem tenant_any (s : ByteArray) (hs : s.size ≤ maxLen) (W : World) :
    Calls Tryd.prog 16 #[.string s] W fun e W' => e = .returned (.bool (tenantB s.data.toList)) ∧ Below W.heap.size W W' := by
  have hT : tenantB s.data.toList = (decide (1 ≤ s.size) && decide (s.size ≤ 16) && (allR letR (s.data.toList.take 1) && allR tenR s.data.toList)) := by
    unfold tenantB
    rw [show s.data.toList.length = s.size by simp]
  have HT := Lib.hid hT
  clear hT
  have hw := within_any s 16 hs
  unfold maxLen at hs
  go_enter Tryd.func16, Tryd.ntmps16
  go_wp2_with fail
  refine (hw W).mono ?_
  rintro e W1 ⟨rfl, rfl⟩
  clear hw
  cases h1 : (decide (1 ≤ s.size) && decide (s.size ≤ 16))
  · rw [h1, Bool.false_and] at HT
    clear h1
    go_wp2_with fail
    go_ret
    exact ⟨by rw [HT.out]; rfl, Below.refl _ _⟩
  · rw [h1, Bool.true_and] at HT
    simp only [Bool.and_eq_true, decide_eq_true_eq] at h1
    have h2 := h1.1
    clear h1
    go_wp2_with fail
    refine (onlyLetter_any _ _).mono ?_
    rintro e W2 ⟨rfl, hb2⟩
    have he := Lib.hid (extract_one s)
    cases h3 : allR letR (s.extract 0 1).data.toList
    · rw [he.out] at h3
      rw [h3, Bool.false_and] at HT
      clear h3
      go_wp2_with fail
      go_ret
      exact ⟨by rw [HT.out]; rfl, hb2⟩
    · rw [he.out] at h3
      rw [h3, Bool.true_and] at HT
      clear h3
      go_wp2_with fail
      refine (onlyTenant_any _ _).mono ?_
      rintro e W3 ⟨rfl, hb3⟩
      generalize allR tenR s.data.toList = q at HT ⊢
      go_wp2_with fail
      go_ret
      exact ⟨by rw [HT.out]; rfl, bthen hb2 hb3⟩

theorem allR_at (p : Int → Bool) (l : List UInt8) (h : allR p l = true) (k : Nat) (b : UInt8) (hb : l[k]? = some b) : p ((b.toNat : Nat) : Int) = true := by
  unfold allR at h
  rw [List.all_eq_true] at h
  exact h b (List.mem_of_getElem? hb)

end Go.Proofs.YtnjkhhagefipiaaDoor
