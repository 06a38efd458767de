/-
  DiskKeeps: what is sure stays; the walk.
-/
import Derived.Test.YtnjkilmhphcocaaDpN
namespace Go.Proofs.Ytnjkilmhphcocaa
open Go.RowKit
set_option linter.unusedVariables false
set_option linter.unusedSimpArgs false

/-- What is sure of a's files stands in b's. -/
def KeepM (a b : List Fl) : Prop := ∀ s h, lookF s a = some h → ∃ g, lookF s b = some g ∧ h.sure ≤ g.sure ∧ g.data.take h.sure = h.data.take h.sure
theorem KeepM.refl (a : List Fl) : KeepM a a := fun s h hh => ⟨h, hh, Nat.le_refl _, rfl⟩
theorem KeepM.trans {a b c : List Fl} (h : KeepM a b) (k : KeepM b c) : KeepM a c := by
  intro s x hx
  obtain ⟨y, hy, h1, h2⟩ := h s x hx
  obtain ⟨z, hz, h3, h4⟩ := k s y hy
  refine ⟨z, hz, Nat.le_trans h1 h3, ?_⟩
  have e1 : (z.data.take y.sure).take x.sure = (y.data.take y.sure).take x.sure := by rw [h4]
  rw [List.take_take, List.take_take, Nat.min_eq_left h1] at e1
  rw [e1, h2]
theorem left_ge (keep : Int) (f : Fl) (h : f.sure ≤ f.data.length) : f.sure ≤ leftF keep f ∧ leftF keep f ≤ f.data.length := by
  unfold leftF
  omega
theorem keep_cut (keep : Int) (a : List Fl) (h : ∀ f ∈ a, f.sure ≤ f.data.length) : KeepM a (a.map (cutF keep)) := by
  intro s x hx
  have h1 := left_ge keep x (h x (look_mem s a x hx))
  refine ⟨cutF keep x, by rw [look_map (cutF keep) a (fun f => rfl), hx]; rfl, h1.1, ?_⟩
  show (x.data.take (leftF keep x)).take x.sure = _
  rw [List.take_take, Nat.min_eq_left h1.1]
theorem keep_with (a : List Fl) (f : Fl) (h : ∀ x, lookF f.name a = some x → x.sure ≤ f.sure ∧ f.data.take x.sure = x.data.take x.sure) : KeepM a (withF f false a) := by
  intro s x hx
  by_cases e : s = f.name
  · subst e
    exact ⟨f, by rw [look_with, if_pos rfl]; rfl, h x hx⟩
  · exact ⟨x, by rw [look_with, if_neg e]; exact hx, Nat.le_refl _, rfl⟩
theorem keep_begin (m : Dk) (h : ∀ f ∈ m.files, f.sure ≤ f.data.length) : KeepM m.files (beginD m).2.files := by
  unfold beginD
  split
  · exact KeepM.refl _
  · split
    · exact keep_cut m.keep m.files h
    · exact KeepM.refl _
theorem keep_do (m : Dk) (s : Sp) (h : ∀ f ∈ m.files, f.sure ≤ f.data.length) (h3 : s.kind ≠ 3) (h4 : s.kind ≠ 4) : KeepM m.files (doD m s).2.files := by
  unfold doD
  split
  · exact KeepM.refl _
  split
  · exact keep_cut s.m m.files h
  split
  · exact KeepM.refl _
  split
  · exact KeepM.refl _
  rename_i hc
  have hk : 1 ≤ s.kind ∧ s.kind ≤ 4 := by
    have : isCall s = true := by simpa using hc
    unfold isCall at this
    simpa using this
  split
  · rename_i hb
    have hf := (begin_same m hb).1
    rw [← hf] at h ⊢
    generalize (beginD m).2 = m1 at h ⊢
    unfold callD
    split
    · exact KeepM.refl _
    split
    · split
      · exact KeepM.refl _
      split
      · exact KeepM.refl _
      · refine keep_with m1.files _ fun x hx => ?_
        have hx2 : lookF s.name m1.files = some x := hx
        have hl := h x (look_mem _ _ _ hx2)
        show x.sure ≤ (fileF s.name m1.files).sure ∧ ((fileF s.name m1.files).data ++ s.data).take x.sure = _
        rw [fileF_some _ _ _ hx2]
        exact ⟨Nat.le_refl _, List.take_append_of_le_length hl⟩
    split
    · exact KeepM.refl _
    split
    · refine keep_with m1.files _ fun x hx => ?_
      have hx2 : lookF s.name m1.files = some x := hx
      have hl := h x (look_mem _ _ _ hx2)
      show x.sure ≤ (fileF s.name m1.files).data.length ∧ (fileF s.name m1.files).data.take x.sure = _
      rw [fileF_some _ _ _ hx2]
      exact ⟨hl, rfl⟩
    · rename_i k1 _ k2
      omega
  · exact keep_begin m h
theorem nodup_le (xs : List (List UInt8)) : ∀ ys : List (List UInt8), xs.Nodup → (∀ x ∈ xs, x ∈ ys) → xs.length ≤ ys.length := by
  induction xs with
  | nil => intro ys _ _; exact Nat.zero_le _
  | cons x r ih =>
    intro ys hn hs
    have hn1 := List.nodup_cons.1 hn
    have hx : x ∈ ys := hs x List.mem_cons_self
    have h1 := ih (ys.erase x) hn1.2 (fun z hz => (List.mem_erase_of_ne (fun e => hn1.1 (by rw [← e]; exact hz))).2 (hs z (List.mem_cons_of_mem _ hz)))
    have h2 := List.length_erase_of_mem hx
    have h3 : 0 < ys.length := List.length_pos_of_mem hx
    simp only [List.length_cons]
    omega
theorem keep_len {a b : List Fl} (h : KeepM a b) (ha : SrtF a) : a.length ≤ b.length := by
  have := nodup_le (a.map Fl.name) (b.map Fl.name) (srt_nodup a ha) (fun x hx => by
    rw [look_mem_iff] at hx ⊢
    cases hl : lookF x a with
    | none => rw [hl] at hx; cases hx
    | some f =>
      obtain ⟨g, hg, _⟩ := h x f hl
      rw [hg]; rfl)
  simpa using this

theorem Fls.next {w w' : World} {S S' : Nat → Prop} {n : Nat} {A : Option Addr} {fs : List Fl} (h : Fls w S A n fs) (ht : Turn S w w') (hs : ∀ k, S' k → S k ∨ w.heap.size ≤ k) : Fls w' S' A n fs := by
  have h1 : Fls w (fun k => S k ∨ S' k) A n fs := h.more fun k hk hl => by
    rcases hk with hk | hk
    · exact hk
    · rcases hs k hk with e | e
      · exact e
      · omega
  exact (h1.turn (ht.mono fun k hk => .inl hk)).less fun k hk => .inr hk

/-- A disk that the call made, and files that were told of it. -/
def AwF (W w : World) (q : Nat) (m : Dk) (T : List (Option Addr × Nat × List Fl)) : Prop := ∃ S, PD w S q m ∧ (∀ k, S k → W.heap.size ≤ k) ∧ Turn (fun k => W.heap.size ≤ k) W w ∧ ∀ t ∈ T, Fls w S t.1 t.2.1 t.2.2
section
variable {W wr : World} {q k : Nat} {m : Dk} {T : List (Option Addr × Nat × List Fl)}
theorem AwF.next {w' : World} {S S' : Nat → Prop} {m' : Dk} (hS : ∀ k, S k → W.heap.size ≤ k) (hT : Turn (fun k => W.heap.size ≤ k) W wr) (hF : ∀ t ∈ T, Fls wr S t.1 t.2.1 t.2.2) (h2 : PD w' S' q m') (h3 : ∀ k, S' k → S k ∨ wr.heap.size ≤ k) (h4 : Turn S wr w') : AwF W w' q m' T :=
  ⟨S', h2, fun k hk => by
    rcases h3 k hk with e | e
    · exact hS k e
    · have := hT.size; omega, hT.trans (h4.mono hS), fun t ht => (hF t ht).next h4 h3⟩
theorem do9_aw {s : Sp} {A : Option Addr} {n c : Nat} (h : AwF W wr q m T) (hO : OkD k m) (hk : k ≤ 199) (hsm : s.data.length ≤ 200 ∧ s.name.length ≤ 100 ∧ s.to.length ≤ 100) (hsn : s.n < 18446744073709551616) (hda : BytS W (fun j => W.heap.size ≤ j) A n s.data) (hnil : A = none → n = 0 ∧ c = 0) (hnc : n ≤ c) (hcm : c ≤ maxLen) :
    Calls Try.prog 9 #[.pointer (some ⟨q, 0, none⟩), spV s A n c] wr fun e W' => e = .returned (.int .i64 (doD m s).1) ∧ AwF W W' q (doD m s).2 T := by
  obtain ⟨S, hp, hS, hT, hF⟩ := h
  refine (do9_any diskC wr S q m s A n c hp (hO.more (by omega)) hsm.2.1 hsm.2.2 hsm.1 hsn ((hda.turn hT).less hS) hnil hnc hcm).mono ?_
  rintro e W' ⟨S', rfl, h2, h3, h4⟩
  exact ⟨rfl, AwF.next hS hT hF h2 h3 h4⟩
theorem crash_aw (keep : Int) (h : AwF W wr q m T) (hO : OkD k m) (hk : k ≤ 200) :
    Calls Try.prog 22 #[.pointer (some ⟨q, 0, none⟩), .int .i64 keep] wr fun e W' => e = .returned (.tuple #[]) ∧ AwF W W' q (crashD keep m) T := by
  obtain ⟨S, hp, hS, hT, hF⟩ := h
  refine (diskC.crash wr S q m keep hp (hO.more hk)).mono ?_
  rintro e W' ⟨S', rfl, h2, h3, h4⟩
  exact ⟨rfl, AwF.next hS hT hF h2 h3 h4⟩
/-- Files told of it, now. -/
theorem files_aw (h : AwF W wr q m T) (hO : OkD k m) (hk : k ≤ 200) (hs : SrtF m.files) :
    Calls Try.prog 15 #[.pointer (some ⟨q, 0, none⟩)] wr fun e W' => ∃ A c, e = .returned (.slice A m.files.length c) ∧ AwF W W' q m ((A, m.files.length, m.files) :: T) := by
  obtain ⟨S, hp, hS, hT, hF⟩ := h
  refine (diskA.files wr S q m hp (hO.more hk) hs).mono ?_
  rintro e W' ⟨v, xs, rfl, hown, hx, hb⟩
  obtain ⟨A, c, rfl, _⟩ := own_formk hown
  have hlt := (diskC.here hp).2
  refine ⟨A, c, rfl, S, hp.below hb, hS, hT.trans (Turn.of_below hb), fun t ht => ?_⟩
  rcases List.mem_cons.1 ht with e | e
  · rw [e]
    exact (Fls.of_own hown hx (fun k hk => hk)).less fun k hk => (hlt k hk).2
  · exact (hF t e).turn (Turn.of_below hb)
theorem new_aw (W : World) (cap : Int) (hcap : cap < 9223372036854775808) :
    Calls Try.prog 8 #[.int .i64 cap] W fun e W' => ∃ q, e = .returned (.pointer (some ⟨q, 0, none⟩)) ∧ AwF W W' q (newD cap) [] := by
  refine (pnew_any W cap hcap).mono ?_
  rintro e W' ⟨q, S, rfl, h1, h2, h3⟩
  exact ⟨q, rfl, S, h1, h2, Turn.of_below h3, fun t ht => by cases ht⟩
end

/-- What a round asks of its step. -/
theorem step_facts {W : World} {A : Option Addr} {n k : Nat} {ss : List Sp} {s : Sp} (h : Sps W (fun j => W.heap.size ≤ j) A n ss) (hlt : k < n) (hs : ss[k]? = some s) :
    ∃ b o A2 n2 c2, A = some ⟨b, o, none⟩ ∧ (∀ w, Turn (fun j => W.heap.size ≤ j) W w → StepAt W b o k s A2 n2 c2 w) ∧ BytS W (fun j => W.heap.size ≤ j) A2 n2 s.data ∧ (A2 = none → n2 = 0 ∧ c2 = 0) ∧ n2 ≤ c2 ∧ c2 ≤ maxLen := by
  obtain ⟨b, o, rfl, hbS, hfa⟩ := h.2 (by omega)
  obtain ⟨y0, y1, y2, y3, y4, y5, hc, hv⟩ := hfa k s hs
  obtain ⟨A2, n2, c2, rfl, rfl, rfl, rfl, rfl, rfl, hby, hnil2, hnc2, hcm2⟩ := sp_parts hv
  exact ⟨b, o, A2, n2, c2, rfl, fun w ht => StepAt.turn (W := W) hc (Nat.not_le.1 hbS) ht, hby, hnil2, hnc2, hcm2⟩

set_option maxRecDepth 100000 in
set_option maxHeartbeats 8000000 in
theorem diskKeeps_law (A1 : Option Addr) (n1 c1 : Nat) (ss1 : List Sp) (A2 : Option Addr) (n2 c2 : Nat) (ss2 : List Sp) (keep : Int) (W : World) (hss1 : Sps W (fun j => W.heap.size ≤ j) A1 n1 ss1) (hsn1 : ∀ s ∈ ss1, s.n < 18446744073709551616) (_ : A1 = none → c1 = 0) (hnc1 : n1 ≤ c1) (hcm1 : c1 ≤ maxLen)
    (hss2 : Sps W (fun j => W.heap.size ≤ j) A2 n2 ss2) (hsn2 : ∀ s ∈ ss2, s.n < 18446744073709551616) (_ : A2 = none → c2 = 0) (hnc2 : n2 ≤ c2) (hcm2 : c2 ≤ maxLen) (_ : -9223372036854775808 ≤ keep) (_ : keep ≤ 9223372036854775807) :
    Calls Try.prog 4 #[.slice A1 n1 c1, .slice A2 n2 c2, .int .i64 keep] W fun e W' => e = .returned (.bool true) ∧ Below W.heap.size W W' := by
  have hLg1 := large9_any A1 n1 c1 ss1 _ W hss1 (Nat.le_trans hnc1 hcm1)
  have hLg2 := large9_any A2 n2 c2 ss2 _ W hss2 (Nat.le_trans hnc2 hcm2)
  have HI := Lib.hid (And.intro hss1 (And.intro hsn1 (And.intro hss2 hsn2)))
  clear hss1 hsn1 hss2 hsn2 hnc1 hcm1 hnc2 hcm2
  cases hlg1 : largeS ss1
  · cases hlg2 : largeS ss2
    · obtain ⟨hl1, hsm1⟩ := largeS_false ss1 hlg1
      obtain ⟨hl2, hsm2⟩ := largeS_false ss2 hlg2
      rw [hlg1] at hLg1
      rw [hlg2] at hLg2
      have hn1 : n1 ≤ 90 := by have := HI.out.1.1; omega
      have hn2 : n2 ≤ 90 := by have := HI.out.2.2.1.1; omega
      have HL := Lib.hid (And.intro hsm1 hsm2)
      clear hlg1 hlg2 hl1 hl2 hsm1 hsm2
      go_enter Try.func4, Try.ntmps4
      go_wp2_with fail
      refine hLg1.mono ?_
      rintro e W1 ⟨rfl, rfl⟩
      clear hLg1
      go_wp2_with fail
      refine hLg2.mono ?_
      rintro e W2 ⟨rfl, rfl⟩
      clear hLg2
      go_wp2_with fail
      refine (new_aw _ 5000 (by omega)).mono ?_
      rintro e w0 ⟨q, rfl, ha0⟩
      have HA0 := Lib.hid ha0
      clear ha0
      go_wp2_with fail
      go_loopw [8] (fun i wr => ∃ (k : Nat) (m : Dk), k ≤ n1 ∧ i = .int .i64 k ∧ OkD k m ∧ SrtF m.files ∧ AwF W2 wr q m []) (fun i _ => n1 - (intOf i).toNat)
      case atStart => exact ⟨0, newD 5000, Nat.zero_le _, rfl, new_ok 5000 (by omega), List.Pairwise.nil, HA0.out⟩
      case round =>
        obtain ⟨k, m, hk, rfl, hO, hS, hA⟩ := hrel
        by_cases hlt : k < n1
        · obtain ⟨s, hs⟩ : ∃ s, ss1[k]? = some s := ⟨_, List.getElem?_eq_getElem (by have := HI.out.1.1; omega)⟩
          have hsm := HL.out.1 s (List.mem_of_getElem? hs)
          have hsb := HI.out.2.1 s (List.mem_of_getElem? hs)
          obtain ⟨b, o, A3, n3, c3, rfl, hst, hby, hnil3, hnc3, hcm3⟩ := step_facts HI.out.1 hlt hs
          have hdo := do9_aw hA hO (by omega) hsm hsb hby hnil3 hnc3 hcm3
          obtain ⟨_, _, _, hTw, _⟩ := hA
          obtain ⟨z0, z1, z2, z3, z4, z5⟩ := hst wr hTw
          have HN := Lib.hid (And.intro (do_ok s hO hsm.1 hsb) (do_srt m s hS))
          have i0 : (0 : Int) ≤ (k : Int) := by omega
          have i1 : (k : Int) < (n1 : Int) := by omega
          unfold spV at hdo
          obtain ⟨r, hr⟩ : ∃ r, (doD m s).1 = r := ⟨_, rfl⟩
          obtain ⟨m2, hm2⟩ : ∃ m2, (doD m s).2 = m2 := ⟨_, rfl⟩
          rw [hr, hm2] at hdo
          rw [hm2] at HN
          clear hs hsm hsb hst hby hnil3 hnc3 hcm3 hTw hO hS hr hm2
          go_wp2_with fail
          refine hdo.mono ?_
          rintro e w3 ⟨rfl, ha3⟩
          have HA3 := Lib.hid ha3
          clear hdo ha3 z0 z1 z2 z3 z4 z5
          go_wp2_with fail
          go_roundw
          case rel => exact ⟨k + 1, m2, by omega, by go_num, HN.out.1, HN.out.2, HA3.out⟩
          case measure => simp [intOf]; omega
        · have hOk : OkD 90 m := hO.more (by omega)
          have hfi := files_aw hA hOk (by omega) hS
          obtain ⟨N1, hN1⟩ : ∃ N1, m.files.length = N1 := ⟨_, rfl⟩
          rw [hN1] at hfi
          have HM := Lib.hid (And.intro hOk (And.intro hS hN1))
          clear hA hO hS hOk hN1
          go_wp2_with fail
          refine hfi.mono ?_
          rintro e w4 ⟨A4, c4, rfl, ha4⟩
          have HA4 := Lib.hid ha4
          clear hfi ha4
          go_wp2_with fail
          go_loopw [10] (fun i wr => ∃ (k : Nat) (mb : Dk), k ≤ n2 ∧ i = .int .i64 k ∧ OkD (90 + k) mb ∧ SrtF mb.files ∧ KeepM m.files mb.files ∧ AwF W2 wr q mb [(A4, N1, m.files)]) (fun i _ => n2 - (intOf i).toNat)
          case atStart => exact ⟨0, m, Nat.zero_le _, rfl, HM.out.1, HM.out.2.1, KeepM.refl _, HA4.out⟩
          case round =>
            obtain ⟨k, mb, hk, rfl, hO, hS, hKm, hA⟩ := hrel
            by_cases hlt : k < n2
            · obtain ⟨s, hs⟩ : ∃ s, ss2[k]? = some s := ⟨_, List.getElem?_eq_getElem (by have := HI.out.2.2.1.1; omega)⟩
              have hsm := HL.out.2 s (List.mem_of_getElem? hs)
              have hsb := HI.out.2.2.2 s (List.mem_of_getElem? hs)
              obtain ⟨b, o, A3, n3, c3, rfl, hst, hby, hnil3, hnc3, hcm3⟩ := step_facts HI.out.2.2.1 hlt hs
              have hdo := do9_aw hA hO (by omega) hsm hsb hby hnil3 hnc3 hcm3
              have HA5 := Lib.hid hA
              obtain ⟨_, _, _, hTw, _⟩ := hA
              obtain ⟨z0, z1, z2, z3, z4, z5⟩ := hst wr hTw
              have HK := Lib.hid (fun h3 h4 => hKm.trans (keep_do mb s hO.sure h3 h4))
              have HN := Lib.hid (And.intro (do_ok s hO hsm.1 hsb) (do_srt mb s hS))
              have HO := Lib.hid (And.intro hO (And.intro hS hKm))
              have i0 : (0 : Int) ≤ (k : Int) := by omega
              have i1 : (k : Int) < (n2 : Int) := by omega
              unfold spV at hdo
              obtain ⟨K, hK⟩ : ∃ K, s.kind = K := ⟨_, rfl⟩
              obtain ⟨r, hr⟩ : ∃ r, (doD mb s).1 = r := ⟨_, rfl⟩
              obtain ⟨m2, hm2⟩ : ∃ m2, (doD mb s).2 = m2 := ⟨_, rfl⟩
              rw [hr, hm2, hK] at hdo
              rw [hK] at z0
              rw [hm2] at HN
              rw [hm2, hK] at HK
              clear hs hsm hsb hst hby hnil3 hnc3 hcm3 hTw hO hS hr hm2 hKm hK
              by_cases k3 : K = 3
              · subst k3
                clear hdo
                go_wp2_with fail
                go_roundw
                case rel => exact ⟨k + 1, mb, by omega, by go_num, HO.out.1.mono, HO.out.2.1, HO.out.2.2, HA5.out⟩
                case measure => simp [intOf]; omega
              by_cases k4 : K = 4
              · subst k4
                clear hdo
                go_wp2_with fail
                go_roundw
                case rel => exact ⟨k + 1, mb, by omega, by go_num, HO.out.1.mono, HO.out.2.1, HO.out.2.2, HA5.out⟩
                case measure => simp [intOf]; omega
              have d3 : (K != 3) = true := by simpa using k3
              have d4 : (K != 4) = true := by simpa using k4
              have HK2 := Lib.hid (HK.out k3 k4)
              clear k3 k4
              go_wp2_with fail
              refine hdo.mono ?_
              rintro e w3 ⟨rfl, ha3⟩
              have HA6 := Lib.hid ha3
              clear hdo ha3 z0 z1 z2 z3 z4 z5
              go_wp2_with fail
              go_roundw
              case rel => exact ⟨k + 1, m2, by omega, by go_num, HN.out.1, HN.out.2, HK2.out, HA6.out⟩
              case measure => simp [intOf]; omega
            · have hOk : OkD 180 mb := hO.more (by omega)
              have hfi := files_aw hA hOk (by omega) hS
              obtain ⟨N2, hN2⟩ : ∃ N2, mb.files.length = N2 := ⟨_, rfl⟩
              rw [hN2] at hfi
              have HB := Lib.hid (And.intro hOk (And.intro hS (And.intro hKm hN2)))
              clear hA hO hS hOk hN2 hKm
              go_wp2_with fail
              refine hfi.mono ?_
              rintro e w5 ⟨A5, c5, rfl, ha5⟩
              have hcr := crash_aw keep ha5 HB.out.1 (by omega)
              clear hfi ha5
              go_wp2_with fail
              refine hcr.mono ?_
              rintro e w6 ⟨rfl, ha6⟩
              have hfi2 := files_aw ha6 (HB.out.1.crash keep) (by omega) (srt_map (cutF keep) mb.files (fun f => rfl) HB.out.2.1)
              have hlc : (crashD keep mb).files.length = N2 := by
                show (mb.files.map (cutF keep)).length = N2
                rw [List.length_map]; exact HB.out.2.2.2
              rw [hlc] at hfi2
              clear hcr ha6 hlc
              go_wp2_with fail
              refine hfi2.mono ?_
              rintro e w7 ⟨A6, c6, rfl, ha7⟩
              have hN12 : N1 ≤ N2 := by have h1 := keep_len HB.out.2.2.1 HM.out.2.1; have h2 := HM.out.2.2; have h3 := HB.out.2.2.2; omega
              obtain ⟨S7, hp7, hS7, hT7, hF7⟩ := ha7
              have HF := Lib.hid (And.intro hT7 (And.intro (hF7 _ List.mem_cons_self) (And.intro (hF7 _ (List.mem_cons_of_mem _ List.mem_cons_self)) (hF7 _ (List.mem_cons_of_mem _ (List.mem_cons_of_mem _ List.mem_cons_self))))))
              clear hfi2 hp7 hS7 hT7 hF7
              have dl1 : decide (N2 < N1) = false := decide_eq_false (by omega)
              have dl2 : decide ((N2 : Int) < (N1 : Int)) = false := decide_eq_false (by omega)
              go_wp2_with fail
              clear dl1 dl2
              have hN2b : N2 ≤ 200 := by have h1 := HB.out.1.len; have h2 := HB.out.2.2.2; omega
              go_loopw [13] (fun i wr => ∃ k : Nat, k ≤ N2 ∧ i = .int .i64 k ∧ Below w7.heap.size w7 wr) (fun i _ => N2 - (intOf i).toNat)
              case atStart => exact ⟨0, Nat.zero_le _, rfl, Below.refl _ _⟩
              case round =>
                obtain ⟨k, hk3, rfl, hb⟩ := hrel
                by_cases hlt3 : k < N2
                · obtain ⟨g, hg⟩ : ∃ g, mb.files[k]? = some g := ⟨_, List.getElem?_eq_getElem (by have := HB.out.2.2.2; omega)⟩
                  have hgm := List.mem_of_getElem? hg
                  have hgc : (crashD keep mb).files[k]? = some (cutF keep g) := by
                    show (mb.files.map (cutF keep))[k]? = _
                    rw [List.getElem?_map, hg]; rfl
                  have htb : Turn S7 w7 wr := Turn.of_below hb
                  obtain ⟨b6, o6, rfl, _, hfa6⟩ := (HF.out.2.1.turn htb).2 (by omega)
                  obtain ⟨x0, x1, x2, p0, p1, p2, hv6⟩ := hfa6 k _ hgc
                  obtain ⟨A7, R, c7, rfl, rfl, rfl, hby7, hnil7, hnc7, hcm7⟩ := fl_parts hv6
                  obtain ⟨b5, o5, rfl, _, hfa5⟩ := (HF.out.2.2.1.turn htb).2 (by omega)
                  obtain ⟨y0, y1, y2, q0, q1, q2, hv5⟩ := hfa5 k _ hg
                  obtain ⟨A8, n8, c8, rfl, rfl, rfl, hby8, hnil8, hnc8, hcm8⟩ := fl_parts hv5
                  have hle := left_ge keep g (HB.out.1.sure g hgm)
                  have hRl : leftF keep g = R := by
                    have h1 := hby7.1
                    have h2 : (cutF keep g).data.length = min (leftF keep g) g.data.length := List.length_take
                    omega
                  have hn8 := hby8.1
                  have hR8 : R ≤ n8 := by omega
                  have e0 : (cutF keep g).name = g.name := rfl
                  have e1 : (cutF keep g).sure = R := hRl
                  have e2 : (cutF keep g).data = g.data.take R := by rw [← hRl]; rfl
                  rw [e0] at p0
                  rw [e1] at p2
                  rw [e2] at hby7
                  obtain ⟨T, hT⟩ : ∃ T : ByteArray, ⟨g.name.toArray⟩ = T := ⟨_, rfl⟩
                  rw [hT] at p0 q0
                  have hSm := fun w (hbw : Below wr.heap.size wr w) => same_any A7 A8 R c7 R c8 (g.data.take R) (g.data.take R) wr.heap.size w (hby7.byt.below hbw) ((hby8.take hR8).byt.below hbw) (by have h8 := mem_size mb.files g hgm; have h9 := HB.out.1.size; omega)
                  simp only [decide_true] at hSm
                  have i0 : (0 : Int) ≤ (k : Int) := by omega
                  have i1 : (k : Int) < (N2 : Int) := by omega
                  have i2 : (0 : Int) ≤ (R : Int) := by omega
                  have i3 : R ≤ c8 := by omega
                  have drr : (((R : Nat) : Int) != ((R : Nat) : Int)) = false := by simp
                  have dr8 : decide (n8 < R) = false := decide_eq_false (by omega)
                  have dr9 : decide ((n8 : Int) < (R : Int)) = false := decide_eq_false (by omega)
                  have hltb5 : b5 < wr.heap.size := block_lt_of_cell q0
                  have HK := Lib.hid (And.intro hg (And.intro hgm (And.intro hT (And.intro hby7 (And.intro hby8 (And.intro hle (And.intro hRl hb)))))))
                  clear hfa6 hv6 hfa5 hv5 htb hg hgm hgc hT hby7 hby8 hle hRl hb e0 e1 e2 q2 hn8 hnil7 hnil8 hcm7 hcm8
                  go_wp2_with fail
                  go_quiet ((go_at_call 13; exact Calls.quiet_of (hSm _ (below_drewN ((Below.refl _ wr).alloc (Nat.le_refl _) _) _))))
                  have HW : Hid (Below wr.heap.size wr ((wr.alloc (.cells #[.string T, .slice A7 R c7, .int .i64 ((R : Nat) : Int)] 43)).drewN nq) ∧ Blk ((wr.alloc (.cells #[.string T, .slice A7 R c7, .int .i64 ((R : Nat) : Int)] 43)).drewN nq) wr.heap.size 43 [.string T, .slice A7 R c7, .int .i64 ((R : Nat) : Int)]) := Lib.hid ⟨below_drewN ((Below.refl _ wr).alloc (Nat.le_refl _) _) nq, (Blk.new wr _ _ rfl).drewN nq⟩
                  obtain ⟨g0, hg0⟩ : ∃ g0, wr.heap.size = g0 := ⟨_, rfl⟩
                  revert HW
                  generalize (wr.alloc (.cells #[.string T, .slice A7 R c7, .int .i64 ((R : Nat) : Int)] 43)).drewN nq = w8
                  intro HW
                  have hb8 : Below w7.heap.size w7 w8 := bthen HK.out.2.2.2.2.2.2.2 HW.out.1
                  rw [hg0] at HW ⊢
                  have f0 : w8.cell? ⟨g0, 0, none⟩ = some (.string T) := HW.out.2.cell 0
                  have f1 : w8.cell? ⟨g0, 1, none⟩ = some (.slice A7 R c7) := HW.out.2.cell 1
                  have hF4 : Fls w8 S7 A4 N1 m.files := HF.out.2.2.2.turn (Turn.of_below hb8)
                  have hfd := find_any A4 N1 c4 m.files T S7 w8 hF4 (by have h1 := HM.out.1.len; have h2 := HM.out.2.2; omega)
                  have hTl : T.data.toList = g.name := by rw [← HK.out.2.2.1]
                  rw [hTl] at hfd
                  have H8 := Lib.hid (And.intro hb8 (And.intro hF4 (And.intro hg0 hTl)))
                  clear hSm p0 p1 p2 q0 q1 hb8 hF4 hg0 hTl drr dr8 dr9 hltb5 i3
                  go_wp2_with fail
                  refine hfd.mono ?_
                  rintro e w9 ⟨rfl, rfl⟩
                  clear hfd
                  obtain ⟨z, hz⟩ : ∃ z, findN g.name m.files 0 = z := ⟨_, rfl⟩
                  rw [hz]
                  go_wp2_with fail
                  rcases findN_spec g.name m.files 0 with ⟨e1, e2⟩ | ⟨j, h, e1, e2, e3⟩
                  · rw [hz] at e1
                    subst e1
                    clear hz e2
                    have d1 : decide ((0 : Int) ≤ -1) = false := by decide
                    have d2 : decide ((-1 : Int) ≥ 0) = false := by decide
                    go_wp2_with fail
                    go_quiet (fail)
                    have HR : Hid (Below w7.heap.size w7 (w9.drewN nq)) := Lib.hid (below_drewN H8.out.1 nq)
                    revert HR
                    generalize w9.drewN nq = w10
                    intro HR
                    clear f0 f1
                    go_wp2_with fail
                    go_roundw
                    case rel => exact ⟨k + 1, by omega, by go_num, HR.out⟩
                    case measure => simp [intOf]; omega
                  · rw [hz, Nat.zero_add] at e1
                    subst e1
                    obtain ⟨hb8, hF4, hg0, hTl⟩ := H8.out
                    obtain ⟨hgk, hgm, hT, hby7, hby8, hle, hRl, hbk⟩ := HK.out
                    have hjn : j < N1 := by have h1 := (List.getElem?_eq_some_iff.1 e2).1; have h2 := HM.out.2.2; omega
                    obtain ⟨b4, o4, rfl, _, hfa4⟩ := hF4.2 (by omega)
                    obtain ⟨r0, r1, r2, s0, s1, s2, hv4⟩ := hfa4 j h e2
                    obtain ⟨A9, n9, c9, rfl, rfl, rfl, hby9, _, hnc9, _⟩ := fl_parts hv4
                    obtain ⟨g', hg', hk1, hk2⟩ := HB.out.2.2.1 g.name h e3
                    obtain rfl : g' = g := Option.some.inj (hg'.symm.trans (srt_look mb.files HB.out.2.1 k g hgk))
                    have hhs := HM.out.1.sure h (look_mem _ _ _ e3)
                    have hn9 := hby9.1
                    obtain ⟨u, hu⟩ : ∃ u, h.sure = u := ⟨_, rfl⟩
                    rw [hu] at s2 hk1 hk2 hhs
                    have huR : u ≤ R := by omega
                    have hS1 : BytS w9 S7 A7 u ((g'.data.take R).take u) := ((hby7.turn (Turn.of_below (by rw [hg0]; exact HW.out.1))).take huR)
                    have hS2 : BytS w9 S7 A9 u (h.data.take u) := hby9.take (by omega)
                    rw [List.take_take, Nat.min_eq_left huR] at hS1
                    rw [← hk2] at hS2
                    have hSm2 := fun w (hbw : Below w9.heap.size w9 w) => same_any A7 A9 u c7 u c9 (g'.data.take u) (g'.data.take u) w9.heap.size w (hS1.byt.below hbw) (hS2.byt.below hbw) (by have h8 := mem_size mb.files g' hgm; have h9 := HB.out.1.size; omega)
                    simp only [decide_true] at hSm2
                    have d1 : decide ((0 : Int) ≤ (j : Int)) = true := decide_eq_true (by omega)
                    have d2 : decide ((j : Int) ≥ 0) = true := d1
                    have d3 : decide ((R : Int) < (u : Int)) = false := decide_eq_false (by omega)
                    have d4 : decide (R < u) = false := decide_eq_false (by omega)
                    have i4 : (0 : Int) ≤ (j : Int) := by omega
                    have i5 : (j : Int) < (N1 : Int) := by omega
                    have i6 : (0 : Int) ≤ (u : Int) := by omega
                    have i7 : u ≤ c7 := by omega
                    have i8 : u ≤ c9 := by omega
                    have HB9 := Lib.hid hb8
                    clear hb8 hF4 hg0 hTl hgk hgm hT hby7 hby8 hle hRl hbk hjn hfa4 s0 hv4 hby9 hnc9 hg' hk1 hk2 hhs hn9 hu huR hS1 hS2 e2 e3 hz f0
                    go_wp2_with fail
                    go_quiet ((go_at_call 13; exact Calls.quiet_of (hSm2 _ (below_drewN (Below.refl _ _) _))))
                    have HR : Hid (Below w7.heap.size w7 (w9.drewN nq)) := Lib.hid (below_drewN HB9.out nq)
                    revert HR
                    generalize w9.drewN nq = w10
                    intro HR
                    clear f1 s1 s2 hSm2
                    go_wp2_with fail
                    go_roundw
                    case rel => exact ⟨k + 1, by omega, by go_num, HR.out⟩
                    case measure => simp [intOf]; omega
                · have HBB := Lib.hid hb
                  have haw := awake9_law wr
                  clear hb
                  go_wp2_with fail
                  refine haw.mono ?_
                  rintro e w8 ⟨rfl, hb8⟩
                  have HR := Lib.hid (bthen HBB.out hb8)
                  clear haw hb8
                  go_wp2_with fail
                  go_ret
                  exact ⟨rfl, (HF.out.1.trans (Turn.of_below HR.out)).below (Nat.le_refl _) (fun k hk => hk)⟩
    · rw [hlg1] at hLg1
      rw [hlg2] at hLg2
      clear HI hlg1 hlg2
      go_enter Try.func4, Try.ntmps4
      go_wp2_with fail
      refine hLg1.mono ?_
      rintro e W1 ⟨rfl, rfl⟩
      clear hLg1
      go_wp2_with fail
      refine hLg2.mono ?_
      rintro e W2 ⟨rfl, rfl⟩
      clear hLg2
      go_wp2_with fail
      refine (awake9_law _).mono ?_
      rintro e W3 ⟨rfl, hb⟩
      have HB := Lib.hid hb
      clear hb
      go_wp2_with fail
      go_ret
      exact ⟨rfl, HB.out⟩
  · rw [hlg1] at hLg1
    clear HI hlg1 hLg2
    go_enter Try.func4, Try.ntmps4
    go_wp2_with fail
    refine hLg1.mono ?_
    rintro e W1 ⟨rfl, rfl⟩
    clear hLg1
    go_wp2_with fail
    refine (awake9_law _).mono ?_
    rintro e W3 ⟨rfl, hb⟩
    have HB := Lib.hid hb
    clear hb
    go_wp2_with fail
    go_ret
    exact ⟨rfl, HB.out⟩

end Go.Proofs.Ytnjkilmhphcocaa
