/-
  The program's disk: Sync, Remove.
-/
import Derived.Test.YtikghnbhbehepaaZz14
namespace Go.Proofs.Ytikghnbhbehepaa
open Go.RowKit
set_option linter.unusedVariables false
set_option linter.unusedSimpArgs false

/-- Looking a name up. -/
theorem look_no {w : World} {S : Nat → Prop} {q mb l : Nat} {m : Dk} {kp : Int} {L : List (List UInt8 × Value)} {G : List UInt8 → Option FM} (h : PDat w S q m mb l kp L G) (T : ByteArray) (hs : T.size ≤ 10000) (hl : lookF T.data.toList m.files = none) (w' : World) (hw : MapS w' Try.prog 9 mb L) :
    (Instr.lookup 59 (.map (some mb)) (.string T) true).run Try.prog w' = .ok (.tuple #[.pointer none, .bool false]) w' := by
  have h1 := hw.look (z := .pointer none) (Maps.string_keyed Try.underlying9) Try.underlying59 (Try.zeroValue76 w') T (key_mk T hs)
  rw [(h.tied.no hl).2] at h1
  exact h1
theorem look_yes {w : World} {S : Nat → Prop} {q mb l : Nat} {m : Dk} {kp : Int} {L : List (List UInt8 × Value)} {G : List UInt8 → Option FM} (h : PDat w S q m mb l kp L G) (T : ByteArray) (hs : T.size ≤ 10000) {f : Fl} (hl : lookF T.data.toList m.files = some f) : ∃ x, G T.data.toList = some x ∧ x.f = f ∧ f.name = T.data.toList ∧ ∀ w', MapS w' Try.prog 9 mb L →
    (Instr.lookup 59 (.map (some mb)) (.string T) true).run Try.prog w' = .ok (.tuple #[.pointer (some ⟨x.g, 0, none⟩), .bool true]) w' := by
  obtain ⟨x, h1, h2, h3⟩ := h.tied.yes hl
  refine ⟨x, h1, h2, look_name _ _ _ hl, fun w' hw => ?_⟩
  have h4 := hw.look (z := .pointer none) (Maps.string_keyed Try.underlying9) Try.underlying59 (Try.zeroValue76 w') T (key_mk T hs)
  rw [h3] at h4
  exact h4

theorem pcall_sync (m : Dk) (s : List UInt8) (ht : targetB s = true) : callD m ⟨2, s, [], [], 0, 0⟩ = match lookF s m.files with | none => (8, m) | some f => (0, withFs m (withF ⟨s, f.data, f.data.length⟩ false m.files)) := by
  unfold callD fileF
  simp only [ht]
  cases h : lookF s m.files <;> simp
theorem pcall_rem (m : Dk) (s : List UInt8) (ht : targetB s = true) : callD m ⟨4, s, [], [], 0, 0⟩ = match lookF s m.files with | none => (8, m) | some f => (0, withFs m (withoutF s m.files)) := by
  unfold callD
  simp only [ht]
  cases h : lookF s m.files <;> simp
theorem begin_fit {m : Dk} (h : OkD 200 m) : (beginD m).2.files.length ≤ 200 ∧ sizeF (beginD m).2.files ≤ 40000 ∧ GoodD (beginD m).2 := by
  have h1 : (beginD m).2.files.length ≤ m.files.length ∧ sizeF (beginD m).2.files ≤ 200 * 200 := by
    unfold beginD
    split
    · exact ⟨Nat.le_refl _, h.size⟩
    · split
      · exact ⟨by show (m.files.map _).length ≤ _; rw [List.length_map]; exact Nat.le_refl _, (h.crash m.keep).size⟩
      · exact ⟨Nat.le_refl _, h.size⟩
  have h2 := begin_ok h
  exact ⟨by have := h.len; omega, h1.2, by have := h.len; omega, by omega, h2.sure⟩
/-- A call's head: the names laid, the beginning. -/
theorem phead_any (W : World) (S : Nat → Prop) (q : Nat) (m : Dk) (ns : List (List UInt8)) (C : Array Value) (n : Nat) (h : PD W S q m) (hO : OkD 200 m) (hn : ns.length = n) (hn2 : n ≤ 10) (hns : ∀ s ∈ ns, s.length ≤ 10000) (hC : C.toList = wsV ns) :
    Calls Try.prog 52 #[.pointer (some ⟨q, 0, none⟩), .slice (some ⟨W.heap.size, 0, none⟩) n n] (W.alloc (.cells C 9)) fun e W' => e = .returned (.int .i64 (beginR m ns)) ∧ PD W' S q (beginD m).2 ∧ Turn S W W' := by
  have hlt : ∀ k, S k → k < W.heap.size := by
    obtain ⟨_, _, _, _, _, hp⟩ := h
    exact hp.lt
  refine (pbegin_any (W.alloc (.cells C 9)) W.heap.size ns n (h.below ((Below.refl _ W).alloc (Nat.le_refl _) _)) (hO.good (by omega)) hO.left (by have := hO.calls; omega) hn hn2 hns (fun e => by have := hlt _ e; omega) (fun j s hs => ?_)).mono ?_
  · rw [Nat.zero_add, World.cell?_alloc_new, ← Array.getElem?_toList, hC, wsV, List.getElem?_map, hs]
    rfl
  · rintro e W' ⟨rfl, h1, h2⟩
    exact ⟨rfl, h1, ((Turn.refl S W).alloc _).trans h2⟩

set_option maxRecDepth 100000 in
set_option maxHeartbeats 2000000 in
theorem psync_any (W : World) (S : Nat → Prop) (q : Nat) (m : Dk) (name : List UInt8) (h : PD W S q m) (hO : OkD 200 m) (hl : name.length ≤ 100) :
    Calls Try.prog 44 #[.pointer (some ⟨q, 0, none⟩), .string ⟨name.toArray⟩] W (StepPost PD S q (doD m ⟨2, name, [], [], 0, 0⟩) W) := by
  have hB := phead_any W S q m [name] #[.string ⟨name.toArray⟩] 1 h hO rfl (by omega) (fun s hs => by have := List.mem_singleton.1 hs; rw [this]; omega) rfl
  obtain ⟨r, hr⟩ : ∃ r, beginR m [name] = r := ⟨_, rfl⟩
  obtain ⟨m1, hm1⟩ : ∃ m1, (beginD m).2 = m1 := ⟨_, rfl⟩
  have hfit := begin_fit hO
  rw [hm1] at hfit hB
  rw [hr] at hB
  by_cases h0 : r = 0
  · subst h0
    obtain ⟨hb1, hb2⟩ := begin_past m [name] hr
    have hta : targetB name = true := by simpa using hb2
    have hE := do_call m ⟨2, name, [], [], 0, 0⟩ rfl hb1
    rw [hm1, pcall_sync m1 name hta] at hE
    rw [hE]
    have HF := Lib.hid hfit
    clear hE hb1 hb2 hta hr h hO hfit hm1
    obtain ⟨T, hT⟩ : ∃ T : ByteArray, ⟨name.toArray⟩ = T := ⟨_, rfl⟩
    have hTl : T.data.toList = name := by rw [← hT]
    have hTs : T.size ≤ 10000 := by rw [← hT]; show name.toArray.size ≤ _; simp; omega
    rw [hT] at hB ⊢
    have HT := Lib.hid (And.intro hTl hTs)
    clear hT hTl hTs
    cases hlo : lookF name m1.files with
    | none =>
      have HLO := Lib.hid hlo
      clear hlo
      go_enter Try.func44, Try.ntmps44
      go_wp2_with fail
      refine hB.mono ?_
      rintro e W1 ⟨rfl, ⟨mb, l, kp, L, G, h1⟩, ht1⟩
      have c1 : W1.cell? ⟨q, 1, none⟩ = some (.map (some mb)) := h1.blk.cell 1
      have hlk := look_no h1 T HT.out.2 (by rw [HT.out.1]; exact HLO.out) W1 h1.map
      have HH := Lib.hid (And.intro h1 ht1)
      clear hB h1 ht1
      go_wp2_with fail
      go_ret
      exact ⟨S, rfl, ⟨_, _, _, _, _, HH.out.1⟩, fun k hk => .inl hk, HH.out.2⟩
    | some f =>
      have HLO := Lib.hid hlo
      clear hlo
      go_enter Try.func44, Try.ntmps44
      go_wp2_with fail
      refine hB.mono ?_
      rintro e W1 ⟨rfl, ⟨mb, l, kp, L, G, h1⟩, ht1⟩
      have c1 : W1.cell? ⟨q, 1, none⟩ = some (.map (some mb)) := h1.blk.cell 1
      obtain ⟨x, hx, hxf, hfn, hlk⟩ := look_yes h1 T HT.out.2 (by rw [HT.out.1]; exact HLO.out)
      have hlk1 := hlk W1 h1.map
      have hat := h1.at_ _ x hx
      have c0 : W1.cell? ⟨x.g, 0, none⟩ = some (.slice x.A x.f.data.length x.c) := hat.1.cell 0
      have e1 : W1.cell? ⟨x.g, 1, none⟩ = some (.int .i64 ((x.f.sure : Nat) : Int)) := hat.1.cell 1
      have z1 := hat.1.frozen 1
      rw [HT.out.1] at hx hfn
      have HX := Lib.hid (And.intro hx (And.intro hxf (And.intro hfn hat)))
      have HH := Lib.hid (And.intro h1 ht1)
      obtain ⟨g, hg⟩ : ∃ g, x.g = g := ⟨_, rfl⟩
      obtain ⟨n, hn⟩ : ∃ n, x.f.data.length = n := ⟨_, rfl⟩
      rw [hg] at c0 e1 z1 hlk1
      rw [hn] at c0
      have HG := Lib.hid (And.intro hg hn)
      clear hB h1 ht1 hlk hx hxf hfn hat hg hn
      go_wp2_with fail
      go_ret
      obtain ⟨h1, ht1⟩ := HH.out
      obtain ⟨hx, hxf, hfn, hat⟩ := HX.out
      obtain ⟨hg, hn⟩ := HG.out
      have ht2 : Turn (fun k => k = g) W1 (W1.setCell ⟨g, 1, none⟩ (.int .i64 ((n : Nat) : Int))) := (Turn.refl (fun k => k = g) W1).setCell (p := ⟨g, 1, none⟩) rfl _
      have hgS : S g := by rw [← hg]; exact (h1.sep.inS name x x.g hx (.inl rfl)).1
      have hy : FM.at_ (W1.setCell ⟨g, 1, none⟩ (.int .i64 ((n : Nat) : Int))) ⟨⟨name, f.data, f.data.length⟩, x.g, x.A, x.c⟩ := by
        rw [← hxf]
        refine ⟨?_, own_turn hat.2 ht2 fun a ha => by rw [← hg]; exact h1.sep.two name x a hx ha⟩
        have := hat.1.set 1 (.int .i64 ((n : Nat) : Int))
        rw [hg] at this ⊢
        show Blk _ g _ [.slice x.A x.f.data.length x.c, .int .i64 ((x.f.data.length : Nat) : Int)]
        rw [hn] at this ⊢
        exact this
      refine ⟨S, rfl, ⟨mb, l, kp, L, _, h1.set (y := ⟨⟨name, f.data, f.data.length⟩, x.g, x.A, x.c⟩) hx rfl rfl ht2 (fun k hk => .inl (hk.trans hg.symm)) hy (fun k hk => hk) (fun k hk => .inl hk) (fun k hk => Nat.lt_of_lt_of_le (h1.lt k hk) ht2.size) (fun a ha => h1.sep.two name x a hx ha)⟩, fun k hk => .inl hk, ht1.trans (ht2.mono fun k e => by rw [e]; exact hgS)⟩
  · have hE := do_stop m ⟨2, name, [], [], 0, 0⟩ rfl (by show (2 : Int) ≠ 3; omega) (by rw [hr]; exact h0)
    rw [hE, hr, hm1]
    have d0 : (r != 0) = true := by simpa using h0
    clear hE hr h hO hfit hm1 h0
    go_enter Try.func44, Try.ntmps44
    go_wp2_with fail
    refine hB.mono ?_
    rintro e W1 ⟨rfl, h1, ht1⟩
    have HH := Lib.hid (And.intro h1 ht1)
    clear hB h1 ht1
    go_wp2_with fail
    go_ret
    exact ⟨S, rfl, HH.out.1, fun k hk => .inl hk, HH.out.2⟩

set_option maxRecDepth 100000 in
set_option maxHeartbeats 2000000 in
theorem prem_any (W : World) (S : Nat → Prop) (q : Nat) (m : Dk) (name : List UInt8) (h : PD W S q m) (hO : OkD 200 m) (hl : name.length ≤ 100) :
    Calls Try.prog 48 #[.pointer (some ⟨q, 0, none⟩), .string ⟨name.toArray⟩] W (StepPost PD S q (doD m ⟨4, name, [], [], 0, 0⟩) W) := by
  have hB := phead_any W S q m [name] #[.string ⟨name.toArray⟩] 1 h hO rfl (by omega) (fun s hs => by have := List.mem_singleton.1 hs; rw [this]; omega) rfl
  obtain ⟨r, hr⟩ : ∃ r, beginR m [name] = r := ⟨_, rfl⟩
  obtain ⟨m1, hm1⟩ : ∃ m1, (beginD m).2 = m1 := ⟨_, rfl⟩
  have hfit := begin_fit hO
  rw [hm1] at hfit hB
  rw [hr] at hB
  by_cases h0 : r = 0
  · subst h0
    obtain ⟨hb1, hb2⟩ := begin_past m [name] hr
    have hta : targetB name = true := by simpa using hb2
    have hE := do_call m ⟨4, name, [], [], 0, 0⟩ rfl hb1
    rw [hm1, pcall_rem m1 name hta] at hE
    rw [hE]
    have HF := Lib.hid hfit
    clear hE hb1 hb2 hta hr h hO hfit hm1
    obtain ⟨T, hT⟩ : ∃ T : ByteArray, ⟨name.toArray⟩ = T := ⟨_, rfl⟩
    have hTl : T.data.toList = name := by rw [← hT]
    have hTs : T.size ≤ 10000 := by rw [← hT]; show name.toArray.size ≤ _; simp; omega
    rw [hT] at hB ⊢
    have HT := Lib.hid (And.intro hTl hTs)
    clear hT hTl hTs
    cases hlo : lookF name m1.files with
    | none =>
      have HLO := Lib.hid hlo
      clear hlo
      go_enter Try.func48, Try.ntmps48
      go_wp2_with fail
      refine hB.mono ?_
      rintro e W1 ⟨rfl, ⟨mb, l, kp, L, G, h1⟩, ht1⟩
      have c1 : W1.cell? ⟨q, 1, none⟩ = some (.map (some mb)) := h1.blk.cell 1
      have hlk := look_no h1 T HT.out.2 (by rw [HT.out.1]; exact HLO.out) W1 h1.map
      have HH := Lib.hid (And.intro h1 ht1)
      clear hB h1 ht1
      go_wp2_with fail
      go_ret
      exact ⟨S, rfl, ⟨_, _, _, _, _, HH.out.1⟩, fun k hk => .inl hk, HH.out.2⟩
    | some f =>
      have HLO := Lib.hid hlo
      clear hlo
      go_enter Try.func48, Try.ntmps48
      go_wp2_with fail
      refine hB.mono ?_
      rintro e W1 ⟨rfl, ⟨mb, l, kp, L, G, h1⟩, ht1⟩
      have c1 : W1.cell? ⟨q, 1, none⟩ = some (.map (some mb)) := h1.blk.cell 1
      obtain ⟨x, hx, hxf, hfn, hlk⟩ := look_yes h1 T HT.out.2 (by rw [HT.out.1]; exact HLO.out)
      have hlk1 := hlk W1 h1.map
      obtain ⟨w2, hdl, hm2, htu⟩ := h1.map.drop (Maps.string_keyed Try.underlying9) Try.underlying59 T (key_mk T HT.out.2) 0
      have ht2 := turn_of_map htu
      rw [HT.out.1] at hm2
      have HH := Lib.hid (And.intro h1 (And.intro ht1 (And.intro hm2 ht2)))
      clear hB h1 ht1 hlk hx hxf hfn hm2 ht2 htu
      go_wp2_with fail
      go_ret
      obtain ⟨h1, ht1, hm2, ht2⟩ := HH.out
      exact ⟨S, rfl, ⟨mb, l, kp, _, _, h1.del ht2 hm2⟩, fun k hk => .inl hk, ht1.trans (ht2.mono fun k e => by rw [e]; exact h1.sm)⟩
  · have hE := do_stop m ⟨4, name, [], [], 0, 0⟩ rfl (by show (4 : Int) ≠ 3; omega) (by rw [hr]; exact h0)
    rw [hE, hr, hm1]
    have d0 : (r != 0) = true := by simpa using h0
    clear hE hr h hO hfit hm1 h0
    go_enter Try.func48, Try.ntmps48
    go_wp2_with fail
    refine hB.mono ?_
    rintro e W1 ⟨rfl, h1, ht1⟩
    have HH := Lib.hid (And.intro h1 ht1)
    clear hB h1 ht1
    go_wp2_with fail
    go_ret
    exact ⟨S, rfl, HH.out.1, fun k hk => .inl hk, HH.out.2⟩

end Go.Proofs.Ytikghnbhbehepaa

/-
  The program's disk: Rename.
-/
namespace Go.Proofs.Ytikghnbhbehepaa
open Go.RowKit
set_option linter.unusedVariables false
set_option linter.unusedSimpArgs false

theorem pcall_ren (m : Dk) (s d : List UInt8) (ht : targetB s = true) (ht2 : targetB d = true) : callD m ⟨3, s, d, [], 0, 0⟩ = match lookF s m.files with | none => (8, m) | some f => (0, withFs m (withF ⟨d, f.data, f.sure⟩ false (withoutF s m.files))) := by
  unfold callD fileF
  simp only [ht, ht2]
  cases h : lookF s m.files <;> simp

set_option maxRecDepth 100000 in
set_option maxHeartbeats 2000000 in
theorem prename_any (W : World) (S : Nat → Prop) (q : Nat) (m : Dk) (name dest : List UInt8) (h : PD W S q m) (hO : OkD 200 m) (hl : name.length ≤ 100) (hl2 : dest.length ≤ 100) :
    Calls Try.prog 46 #[.pointer (some ⟨q, 0, none⟩), .string ⟨name.toArray⟩, .string ⟨dest.toArray⟩] W (StepPost PD S q (doD m ⟨3, name, dest, [], 0, 0⟩) W) := by
  have hB := phead_any W S q m [name, dest] #[.string ⟨name.toArray⟩, .string ⟨dest.toArray⟩] 2 h hO rfl (by omega) (fun s hs => by
    rcases List.mem_cons.1 hs with e | e
    · rw [e]; omega
    · have := List.mem_singleton.1 e; rw [this]; omega) rfl
  obtain ⟨r, hr⟩ : ∃ r, beginR m [name, dest] = r := ⟨_, rfl⟩
  obtain ⟨m1, hm1⟩ : ∃ m1, (beginD m).2 = m1 := ⟨_, rfl⟩
  have hfit := begin_fit hO
  rw [hm1] at hfit hB
  rw [hr] at hB
  obtain ⟨T, hT⟩ : ∃ T : ByteArray, ⟨name.toArray⟩ = T := ⟨_, rfl⟩
  have hTl : T.data.toList = name := by rw [← hT]
  have hTs : T.size ≤ 10000 := by rw [← hT]; show name.toArray.size ≤ _; simp; omega
  obtain ⟨U, hU⟩ : ∃ U : ByteArray, ⟨dest.toArray⟩ = U := ⟨_, rfl⟩
  have hUl : U.data.toList = dest := by rw [← hU]
  have hUs : U.size ≤ 10000 := by rw [← hU]; show dest.toArray.size ≤ _; simp; omega
  rw [hT, hU] at hB ⊢
  have HT := Lib.hid (And.intro hTl hTs)
  have HU := Lib.hid (And.intro hUl hUs)
  clear hT hTl hTs hU hUl hUs
  by_cases h0 : r = 0
  · subst h0
    obtain ⟨hb1, hb2⟩ := begin_past m [name, dest] hr
    have hta : targetB name = true ∧ targetB dest = true := by simpa using hb2
    have hE := do_call m ⟨3, name, dest, [], 0, 0⟩ rfl hb1
    rw [hm1, pcall_ren m1 name dest hta.1 hta.2] at hE
    rw [hE]
    have HF := Lib.hid hfit
    clear hE hb1 hb2 hta hr h hO hfit hm1
    cases hlo : lookF name m1.files with
    | none =>
      have HLO := Lib.hid hlo
      clear hlo
      go_enter Try.func46, Try.ntmps46
      go_wp2_with fail
      refine hB.mono ?_
      rintro e W1 ⟨rfl, ⟨mb, l, kp, L, G, h1⟩, ht1⟩
      have c1 : W1.cell? ⟨q, 1, none⟩ = some (.map (some mb)) := h1.blk.cell 1
      have hlk := look_no h1 T HT.out.2 (by rw [HT.out.1]; exact HLO.out) W1 h1.map
      have HH := Lib.hid (And.intro h1 ht1)
      clear hB h1 ht1
      go_wp2_with fail
      go_ret
      exact ⟨S, rfl, ⟨_, _, _, _, _, HH.out.1⟩, fun k hk => .inl hk, HH.out.2⟩
    | some f =>
      have HLO := Lib.hid hlo
      clear hlo
      go_enter Try.func46, Try.ntmps46
      go_wp2_with fail
      refine hB.mono ?_
      rintro e W1 ⟨rfl, ⟨mb, l, kp, L, G, h1⟩, ht1⟩
      have c1 : W1.cell? ⟨q, 1, none⟩ = some (.map (some mb)) := h1.blk.cell 1
      obtain ⟨x, hx, hxf, hfn, hlk⟩ := look_yes h1 T HT.out.2 (by rw [HT.out.1]; exact HLO.out)
      have hlk1 := hlk W1 h1.map
      obtain ⟨w2, hdl, hm2, htu⟩ := h1.map.drop (Maps.string_keyed Try.underlying9) Try.underlying59 T (key_mk T HT.out.2) 0
      have ht2 := turn_of_map htu
      rw [HT.out.1] at hm2
      have h2 := h1.del ht2 hm2
      have hln : (delM name L).length < maxLen := by
        have e1 := h1.len
        have e2 : (delM name L).length ≤ L.length := List.length_filter_le _ _
        have e3 := HF.out.1
        unfold maxLen
        omega
      obtain ⟨w3, hup, hm3, htu3⟩ := hm2.put (Maps.string_keyed Try.underlying9) Try.underlying59 hln U (.pointer (some ⟨x.g, 0, none⟩)) (key_mk U HU.out.2)
      have ht3 := turn_of_map htu3
      rw [HU.out.1] at hm3
      rw [HT.out.1] at hx hfn
      have c2 : w2.cell? ⟨q, 1, none⟩ = some (.map (some mb)) := h2.blk.cell 1
      have HX := Lib.hid (And.intro hx (And.intro hxf hfn))
      have HH := Lib.hid (And.intro h1 (And.intro ht1 (And.intro h2 (And.intro ht2 (And.intro hm3 ht3)))))
      obtain ⟨g, hg⟩ : ∃ g, x.g = g := ⟨_, rfl⟩
      rw [hg] at hlk1 hup
      have HG := Lib.hid hg
      clear hB h1 ht1 hlk hx hxf hfn hm2 ht2 htu h2 hm3 ht3 htu3 hg hln
      go_wp2_with fail
      go_ret
      obtain ⟨h1, ht1, h2, ht2, hm3, ht3⟩ := HH.out
      obtain ⟨hx, hxf, hfn⟩ := HX.out
      have hat := h1.at_ name x hx
      have hy : FM.at_ w3 ⟨⟨dest, f.data, f.sure⟩, x.g, x.A, x.c⟩ := by
        rw [← hxf]
        exact FM.turn (x := x) hat (ht2.trans ht3) (fun k hk e => (h1.sep.inS name x k hx hk).2.2 e)
      have h3 := h2.put (S' := S) (y := ⟨⟨dest, f.data, f.sure⟩, x.g, x.A, x.c⟩) rfl ht3 hm3 hy (fun k hk => hk) (fun k hk => h1.sep.inS name x k hx hk) (fun t z k _ hz hk hk2 => by
        unfold dnG at hz
        split at hz
        · cases hz
        · rename_i hne
          exact h1.sep.apart t name z x k hne hz hx hk hk2) (fun k hk => Nat.lt_of_lt_of_le (h2.lt k hk) ht3.size) (fun a ha => h1.sep.two name x a hx ha)
      exact ⟨S, rfl, ⟨mb, l, kp, _, _, h3⟩, fun k hk => .inl hk, ht1.trans ((ht2.trans ht3).mono fun k e => by rw [e]; exact h1.sm)⟩
  · have hE := do_stop3 m ⟨3, name, dest, [], 0, 0⟩ rfl (by show beginR m [name, dest] ≠ 0; rw [hr]; exact h0)
    rw [hE]
    show Calls _ _ _ _ (StepPost PD S q (beginR m [name, dest], (beginD m).2) W)
    rw [hr, hm1]
    have d0 : (r != 0) = true := by simpa using h0
    clear hE hr h hO hfit hm1 h0
    go_enter Try.func46, Try.ntmps46
    go_wp2_with fail
    refine hB.mono ?_
    rintro e W1 ⟨rfl, h1, ht1⟩
    have HH := Lib.hid (And.intro h1 ht1)
    clear hB h1 ht1
    go_wp2_with fail
    go_ret
    exact ⟨S, rfl, HH.out.1, fun k hk => .inl hk, HH.out.2⟩

end Go.Proofs.Ytikghnbhbehepaa
