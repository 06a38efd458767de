/-
  The program's disk: Sync, Remove.
-/
import Derived.Test.YthjikbhjciphiaaGreatDoorZz26
import Derived.Deep.RegionHeld3
import Derived.Deep.CutRange
namespace Go.Proofs.YthjikbhjciphiaaGreatDoor
open Go.RowKit
set_option linter.unusedVariables false
set_option linter.unusedSimpArgs false

/-- Looking a name up. -/
theorem look_no {w : World} {S : Nat → Prop} {q mb l : Nat} {m : Dk} {kp : Int} {L : List (List UInt8 × Value)} {G : List UInt8 → Option FM} (h : PDat w S q m mb l kp L G) (T : ByteArray) (hs : T.size ≤ 10000) (hl : lookF T.data.toList m.files = none) (w' : World) (hw : MapS w' Tryz.prog 9 mb L) :
    (Instr.lookup 53 (.map (some mb)) (.string T) true).run Tryz.prog w' = .ok (.tuple #[.pointer none, .bool false]) w' := by
  have h1 := hw.look (z := .pointer none) (Maps.string_keyed Tryz.underlying9) Tryz.underlying53 (Tryz.zeroValue76 w') T (key_mk T hs)
  rw [(h.tied.no hl).2] at h1
  exact h1
theorem look_yes {w : World} {S : Nat → Prop} {q mb l : Nat} {m : Dk} {kp : Int} {L : List (List UInt8 × Value)} {G : List UInt8 → Option FM} (h : PDat w S q m mb l kp L G) (T : ByteArray) (hs : T.size ≤ 10000) {f : Fl} (hl : lookF T.data.toList m.files = some f) : ∃ x, G T.data.toList = some x ∧ x.f = f ∧ f.name = T.data.toList ∧ ∀ w', MapS w' Tryz.prog 9 mb L →
    (Instr.lookup 53 (.map (some mb)) (.string T) true).run Tryz.prog w' = .ok (.tuple #[.pointer (some ⟨x.g, 0, none⟩), .bool true]) w' := by
  obtain ⟨x, h1, h2, h3⟩ := h.tied.yes hl
  refine ⟨x, h1, h2, look_name _ _ _ hl, fun w' hw => ?_⟩
  have h4 := hw.look (z := .pointer none) (Maps.string_keyed Tryz.underlying9) Tryz.underlying53 (Tryz.zeroValue76 w') T (key_mk T hs)
  rw [h3] at h4
  exact h4

theorem pcall_sync (m : Dk) (s : List UInt8) (ht : targetB s = true) : callD m ⟨2, s, [], [], 0, 0⟩ = match lookF s m.files with | none => (8, m) | some f => (0, withFs m (withF ⟨s, f.data, f.data.length⟩ false m.files)) := by
  unfold callD fileF
  simp only [ht]
  cases h : lookF s m.files <;> simp
theorem pcall_rem (m : Dk) (s : List UInt8) (ht : targetB s = true) : callD m ⟨4, s, [], [], 0, 0⟩ = match lookF s m.files with | none => (8, m) | some f => (0, withFs m (withoutF s m.files)) := by
  unfold callD
  simp only [ht]
  cases h : lookF s m.files <;> simp
theorem begin_fit {m : Dk} (h : OkD 200 m) : (beginD m).2.files.length ≤ 200 ∧ sizeF (beginD m).2.files ≤ 40000 ∧ GoodD (beginD m).2 := by
  have h1 : (beginD m).2.files.length ≤ m.files.length ∧ sizeF (beginD m).2.files ≤ 200 * 200 := by
    unfold beginD
    split
    · exact ⟨Nat.le_refl _, h.size⟩
    · split
      · exact ⟨by show (m.files.map _).length ≤ _; rw [List.length_map]; exact Nat.le_refl _, (h.crash m.keep).size⟩
      · exact ⟨Nat.le_refl _, h.size⟩
  have h2 := begin_ok h
  exact ⟨by have := h.len; omega, h1.2, by have := h.len; omega, by omega, h2.sure⟩
/-- A call's head: the names laid, the beginning. -/
theorem phead_any (W : World) (S : Nat → Prop) (q : Nat) (m : Dk) (ns : List (List UInt8)) (C : Array Value) (n : Nat) (h : PD W S q m) (hO : OkD 200 m) (hn : ns.length = n) (hn2 : n ≤ 10) (hns : ∀ s ∈ ns, s.length ≤ 10000) (hC : C.toList = wsV ns) :
    Calls Tryz.prog 91 #[.pointer (some ⟨q, 0, none⟩), .slice (some ⟨W.heap.size, 0, none⟩) n n] (W.alloc (.cells C 9)) fun e W' => e = .returned (.int .i64 (beginR m ns)) ∧ PD W' S q (beginD m).2 ∧ Turn S W W' := by
  have hlt : ∀ k, S k → k < W.heap.size := by
    obtain ⟨_, _, _, _, _, hp⟩ := h
    exact hp.lt
  refine (pbegin_any (W.alloc (.cells C 9)) W.heap.size ns n (h.below ((Below.refl _ W).alloc (Nat.le_refl _) _)) (hO.good (by omega)) hO.left (by have := hO.calls; omega) hn hn2 hns (fun e => by have := hlt _ e; omega) (fun j s hs => ?_)).mono ?_
  · rw [Nat.zero_add, World.cell?_alloc_new, ← Array.getElem?_toList, hC, wsV, List.getElem?_map, hs]
    rfl
  · rintro e W' ⟨rfl, h1, h2⟩
    exact ⟨rfl, h1, ((Turn.refl S W).alloc _).trans h2⟩

set_option maxRecDepth 100000 in
set_option maxHeartbeats 2000000 in
theorem psync_any (W : World) (S : Nat → Prop) (q : Nat) (m : Dk) (name : List UInt8) (h : PD W S q m) (hO : OkD 200 m) (hl : name.length ≤ 100) :
    Calls Tryz.prog 61 #[.pointer (some ⟨q, 0, none⟩), .string ⟨name.toArray⟩] W (StepPost PD S q (doD m ⟨2, name, [], [], 0, 0⟩) W) := by
  have hB := phead_any W S q m [name] #[.string ⟨name.toArray⟩] 1 h hO rfl (by omega) (fun s hs => by have := List.mem_singleton.1 hs; rw [this]; omega) rfl
  obtain ⟨r, hr⟩ : ∃ r, beginR m [name] = r := ⟨_, rfl⟩
  obtain ⟨m1, hm1⟩ : ∃ m1, (beginD m).2 = m1 := ⟨_, rfl⟩
  have hfit := begin_fit hO
  rw [hm1] at hfit hB
  rw [hr] at hB
  by_cases h0 : r = 0
  · subst h0
    obtain ⟨hb1, hb2⟩ := begin_past m [name] hr
    have hta : targetB name = true := by simpa using hb2
    have hE := do_call m ⟨2, name, [], [], 0, 0⟩ rfl hb1
    rw [hm1, pcall_sync m1 name hta] at hE
    rw [hE]
    have HF := Lib.hid hfit
    clear hE hb1 hb2 hta hr h hO hfit hm1
    obtain ⟨T, hT⟩ : ∃ T : ByteArray, ⟨name.toArray⟩ = T := ⟨_, rfl⟩
    have hTl : T.data.toList = name := by rw [← hT]
    have hTs : T.size ≤ 10000 := by rw [← hT]; show name.toArray.size ≤ _; simp; omega
    rw [hT] at hB ⊢
    have HT := Lib.hid (And.intro hTl hTs)
    clear hT hTl hTs
    cases hlo : lookF name m1.files with
    | none =>
      have HLO := Lib.hid hlo
      clear hlo
      go_enter Tryz.func61, Tryz.ntmps61
      go_wp2_with fail
      refine hB.mono ?_
      rintro e W1 ⟨rfl, ⟨mb, l, kp, L, G, h1⟩, ht1⟩
      have c1 : W1.cell? ⟨q, 1, none⟩ = some (.map (some mb)) := h1.blk.cell 1
      have hlk := look_no h1 T HT.out.2 (by rw [HT.out.1]; exact HLO.out) W1 h1.map
      have HH := Lib.hid (And.intro h1 ht1)
      clear hB h1 ht1
      go_wp2_with fail
      go_ret
      exact ⟨S, rfl, ⟨_, _, _, _, _, HH.out.1⟩, fun k hk => .inl hk, HH.out.2⟩
    | some f =>
      have HLO := Lib.hid hlo
      clear hlo
      go_enter Tryz.func61, Tryz.ntmps61
      go_wp2_with fail
      refine hB.mono ?_
      rintro e W1 ⟨rfl, ⟨mb, l, kp, L, G, h1⟩, ht1⟩
      have c1 : W1.cell? ⟨q, 1, none⟩ = some (.map (some mb)) := h1.blk.cell 1
      obtain ⟨x, hx, hxf, hfn, hlk⟩ := look_yes h1 T HT.out.2 (by rw [HT.out.1]; exact HLO.out)
      have hlk1 := hlk W1 h1.map
      have hat := h1.at_ _ x hx
      have c0 : W1.cell? ⟨x.g, 0, none⟩ = some (.slice x.A x.f.data.length x.c) := hat.1.cell 0
      have e1 : W1.cell? ⟨x.g, 1, none⟩ = some (.int .i64 ((x.f.sure : Nat) : Int)) := hat.1.cell 1
      have z1 := hat.1.frozen 1
      rw [HT.out.1] at hx hfn
      have HX := Lib.hid (And.intro hx (And.intro hxf (And.intro hfn hat)))
      have HH := Lib.hid (And.intro h1 ht1)
      obtain ⟨g, hg⟩ : ∃ g, x.g = g := ⟨_, rfl⟩
      obtain ⟨n, hn⟩ : ∃ n, x.f.data.length = n := ⟨_, rfl⟩
      rw [hg] at c0 e1 z1 hlk1
      rw [hn] at c0
      have HG := Lib.hid (And.intro hg hn)
      clear hB h1 ht1 hlk hx hxf hfn hat hg hn
      go_wp2_with fail
      go_ret
      obtain ⟨h1, ht1⟩ := HH.out
      obtain ⟨hx, hxf, hfn, hat⟩ := HX.out
      obtain ⟨hg, hn⟩ := HG.out
      have ht2 : Turn (fun k => k = g) W1 (W1.setCell ⟨g, 1, none⟩ (.int .i64 ((n : Nat) : Int))) := (Turn.refl (fun k => k = g) W1).setCell (p := ⟨g, 1, none⟩) rfl _
      have hgS : S g := by rw [← hg]; exact (h1.sep.inS name x x.g hx (.inl rfl)).1
      have hy : FM.at_ (W1.setCell ⟨g, 1, none⟩ (.int .i64 ((n : Nat) : Int))) ⟨⟨name, f.data, f.data.length⟩, x.g, x.A, x.c⟩ := by
        rw [← hxf]
        refine ⟨?_, own_turn hat.2 ht2 fun a ha => by rw [← hg]; exact h1.sep.two name x a hx ha⟩
        have := hat.1.set 1 (.int .i64 ((n : Nat) : Int))
        rw [hg] at this ⊢
        show Blk _ g _ [.slice x.A x.f.data.length x.c, .int .i64 ((x.f.data.length : Nat) : Int)]
        rw [hn] at this ⊢
        exact this
      refine ⟨S, rfl, ⟨mb, l, kp, L, _, h1.set (y := ⟨⟨name, f.data, f.data.length⟩, x.g, x.A, x.c⟩) hx rfl rfl ht2 (fun k hk => .inl (hk.trans hg.symm)) hy (fun k hk => hk) (fun k hk => .inl hk) (fun k hk => Nat.lt_of_lt_of_le (h1.lt k hk) ht2.size) (fun a ha => h1.sep.two name x a hx ha)⟩, fun k hk => .inl hk, ht1.trans (ht2.mono fun k e => by rw [e]; exact hgS)⟩
  · have hE := do_stop m ⟨2, name, [], [], 0, 0⟩ rfl (by show (2 : Int) ≠ 3; omega) (by rw [hr]; exact h0)
    rw [hE, hr, hm1]
    have d0 : (r != 0) = true := by simpa using h0
    clear hE hr h hO hfit hm1 h0
    go_enter Tryz.func61, Tryz.ntmps61
    go_wp2_with fail
    refine hB.mono ?_
    rintro e W1 ⟨rfl, h1, ht1⟩
    have HH := Lib.hid (And.intro h1 ht1)
    clear hB h1 ht1
    go_wp2_with fail
    go_ret
    exact ⟨S, rfl, HH.out.1, fun k hk => .inl hk, HH.out.2⟩

set_option maxRecDepth 100000 in
set_option maxHeartbeats 2000000 in
theorem prem_any (W : World) (S : Nat → Prop) (q : Nat) (m : Dk) (name : List UInt8) (h : PD W S q m) (hO : OkD 200 m) (hl : name.length ≤ 100) :
    Calls Tryz.prog 63 #[.pointer (some ⟨q, 0, none⟩), .string ⟨name.toArray⟩] W (StepPost PD S q (doD m ⟨4, name, [], [], 0, 0⟩) W) := by
  have hB := phead_any W S q m [name] #[.string ⟨name.toArray⟩] 1 h hO rfl (by omega) (fun s hs => by have := List.mem_singleton.1 hs; rw [this]; omega) rfl
  obtain ⟨r, hr⟩ : ∃ r, beginR m [name] = r := ⟨_, rfl⟩
  obtain ⟨m1, hm1⟩ : ∃ m1, (beginD m).2 = m1 := ⟨_, rfl⟩
  have hfit := begin_fit hO
  rw [hm1] at hfit hB
  rw [hr] at hB
  by_cases h0 : r = 0
  · subst h0
    obtain ⟨hb1, hb2⟩ := begin_past m [name] hr
    have hta : targetB name = true := by simpa using hb2
    have hE := do_call m ⟨4, name, [], [], 0, 0⟩ rfl hb1
    rw [hm1, pcall_rem m1 name hta] at hE
    rw [hE]
    have HF := Lib.hid hfit
    clear hE hb1 hb2 hta hr h hO hfit hm1
    obtain ⟨T, hT⟩ : ∃ T : ByteArray, ⟨name.toArray⟩ = T := ⟨_, rfl⟩
    have hTl : T.data.toList = name := by rw [← hT]
    have hTs : T.size ≤ 10000 := by rw [← hT]; show name.toArray.size ≤ _; simp; omega
    rw [hT] at hB ⊢
    have HT := Lib.hid (And.intro hTl hTs)
    clear hT hTl hTs
    cases hlo : lookF name m1.files with
    | none =>
      have HLO := Lib.hid hlo
      clear hlo
      go_enter Tryz.func63, Tryz.ntmps63
      go_wp2_with fail
      refine hB.mono ?_
      rintro e W1 ⟨rfl, ⟨mb, l, kp, L, G, h1⟩, ht1⟩
      have c1 : W1.cell? ⟨q, 1, none⟩ = some (.map (some mb)) := h1.blk.cell 1
      have hlk := look_no h1 T HT.out.2 (by rw [HT.out.1]; exact HLO.out) W1 h1.map
      have HH := Lib.hid (And.intro h1 ht1)
      clear hB h1 ht1
      go_wp2_with fail
      go_ret
      exact ⟨S, rfl, ⟨_, _, _, _, _, HH.out.1⟩, fun k hk => .inl hk, HH.out.2⟩
    | some f =>
      have HLO := Lib.hid hlo
      clear hlo
      go_enter Tryz.func63, Tryz.ntmps63
      go_wp2_with fail
      refine hB.mono ?_
      rintro e W1 ⟨rfl, ⟨mb, l, kp, L, G, h1⟩, ht1⟩
      have c1 : W1.cell? ⟨q, 1, none⟩ = some (.map (some mb)) := h1.blk.cell 1
      obtain ⟨x, hx, hxf, hfn, hlk⟩ := look_yes h1 T HT.out.2 (by rw [HT.out.1]; exact HLO.out)
      have hlk1 := hlk W1 h1.map
      obtain ⟨w2, hdl, hm2, htu⟩ := h1.map.drop (Maps.string_keyed Tryz.underlying9) Tryz.underlying53 T (key_mk T HT.out.2) 0
      have ht2 := turn_of_map htu
      rw [HT.out.1] at hm2
      have HH := Lib.hid (And.intro h1 (And.intro ht1 (And.intro hm2 ht2)))
      clear hB h1 ht1 hlk hx hxf hfn hm2 ht2 htu
      go_wp2_with fail
      go_ret
      obtain ⟨h1, ht1, hm2, ht2⟩ := HH.out
      exact ⟨S, rfl, ⟨mb, l, kp, _, _, h1.del ht2 hm2⟩, fun k hk => .inl hk, ht1.trans (ht2.mono fun k e => by rw [e]; exact h1.sm)⟩
  · have hE := do_stop m ⟨4, name, [], [], 0, 0⟩ rfl (by show (4 : Int) ≠ 3; omega) (by rw [hr]; exact h0)
    rw [hE, hr, hm1]
    have d0 : (r != 0) = true := by simpa using h0
    clear hE hr h hO hfit hm1 h0
    go_enter Tryz.func63, Tryz.ntmps63
    go_wp2_with fail
    refine hB.mono ?_
    rintro e W1 ⟨rfl, h1, ht1⟩
    have HH := Lib.hid (And.intro h1 ht1)
    clear hB h1 ht1
    go_wp2_with fail
    go_ret
    exact ⟨S, rfl, HH.out.1, fun k hk => .inl hk, HH.out.2⟩

end Go.Proofs.YthjikbhjciphiaaGreatDoor

/-
  The program's disk: Rename.
-/
namespace Go.Proofs.YthjikbhjciphiaaGreatDoor
open Go.RowKit
set_option linter.unusedVariables false
set_option linter.unusedSimpArgs false

theorem pcall_ren (m : Dk) (s d : List UInt8) (ht : targetB s = true) (ht2 : targetB d = true) : callD m ⟨3, s, d, [], 0, 0⟩ = match lookF s m.files with | none => (8, m) | some f => (0, withFs m (withF ⟨d, f.data, f.sure⟩ false (withoutF s m.files))) := by
  unfold callD fileF
  simp only [ht, ht2]
  cases h : lookF s m.files <;> simp

end Go.Proofs.YthjikbhjciphiaaGreatDoor

/-
  The program's disk: Append.
-/
namespace Go.Proofs.YthjikbhjciphiaaGreatDoor
open Go.RowKit
set_option linter.unusedVariables false
set_option linter.unusedSimpArgs false

theorem Turn.also {S T : Nat → Prop} {W w w' : World} (h : Turn S W w) (k : Turn T w w') (hT : ∀ j, T j → S j ∨ W.heap.size ≤ j) : Turn S W w' :=
  ⟨k.os.trans h.os, k.tape.trans h.tape, k.output.trans h.output, Nat.le_trans h.size k.size, fun j hj hs => (k.block j (Nat.lt_of_lt_of_le hj h.size) (fun e => by
    rcases hT j e with h1 | h1
    · exact hs h1
    · omega)).trans (h.block j hj hs)⟩
theorem with_with (f g : Fl) (l : List Fl) (h : SrtF l) (hn : f.name = g.name) : withF f false (withF g false l) = withF f false l := by
  refine srt_ext _ _ (srt_with f _ false (srt_with g l false h (fun e => by cases e)) (fun e => by cases e)) (srt_with f l false h (fun e => by cases e)) fun t => ?_
  rw [look_with, look_with, look_with, hn]
  split <;> rfl
theorem pcall_app (m : Dk) (s d : List UInt8) (ht : targetB s = true) (hl : m.files.length < 1024) : callD m ⟨1, s, [], d, 0, 0⟩ = if m.cap - sizeF m.files < (d.length : Int) then (10, m) else (0, withFs m (withF ⟨s, (fileF s m.files).data ++ d, (fileF s m.files).sure⟩ false m.files)) := by
  unfold callD
  have e : decide (1024 ≤ m.files.length) = false := decide_eq_false (by omega)
  simp only [ht, e]
  simp

section
variable {w w1 : World} {S : Nat → Prop} {q mb l n : Nat} {m : Dk} {kp : Int} {L : List (List UInt8 × Value)} {G : List UInt8 → Option FM} {s data : List UInt8} {x : FM} {v' : Value}
/-- What is left when a file's bytes have grown, and stand in it. -/
theorem papp_tail (h : PDat w S q m mb l kp L G) (hx : G s = some x) (hfn : x.f.name = s) (hn : data.length = n) (hown : w1.ownsRow 0 5 1 v' (x.f.data.length + n) (x.f.data.map bv ++ data.map bv)) (hgr : w.grownBy w1 (Value.slice x.A x.f.data.length x.c).ownBlock)
    (hat : v'.ownBlock = (Value.slice x.A x.f.data.length x.c).ownBlock ∨ v'.ownBlock = some w.heap.size) :
    w1.cell? ⟨x.g, 0, none⟩ = some (.slice x.A x.f.data.length x.c) ∧ w1.frozen? ⟨x.g, 0, none⟩ = false ∧ (∃ A' c', v' = .slice A' (x.f.data.length + n) c') ∧
    (∃ G', PDat (w1.setCell ⟨x.g, 0, none⟩ v') (fun k => S k ∨ (w.heap.size ≤ k ∧ k < w1.heap.size)) q (withFs m (withF ⟨s, x.f.data ++ data, x.f.sure⟩ false m.files)) mb l kp L G') ∧ Turn x.blks w (w1.setCell ⟨x.g, 0, none⟩ v') := by
  have hxa := h.at_ s x hx
  have htw := h.sep.two s x
  have hgl : x.g < w.heap.size := hxa.1.lt
  have hb1 : Turn (fun k => ∃ a, x.A = some a ∧ k = a.block) w w1 := by
    refine ⟨hgr.os, hgr.tape, hgr.output, hgr.size, fun k hk hne => hgr.block k hk fun e => hne ?_⟩
    cases hA : x.A with
    | none => rw [hA] at e; cases e
    | some a => rw [hA] at e; exact ⟨a, rfl, Option.some.inj e⟩
  have hB := hb1.blk hxa.1 (fun ⟨a, ha, e⟩ => htw a hx ha e.symm)
  obtain ⟨A', c', rfl, hf1, hf2, hf3⟩ := own_form hown
  have ht2 : Turn (fun k => k = x.g) w1 (w1.setCell ⟨x.g, 0, none⟩ (.slice A' (x.f.data.length + n) c')) := (Turn.refl (fun k => k = x.g) w1).setCell (p := ⟨x.g, 0, none⟩) rfl _
  have ht : Turn x.blks w (w1.setCell ⟨x.g, 0, none⟩ (.slice A' (x.f.data.length + n) c')) := (hb1.mono fun k hk => .inr hk).trans (ht2.mono fun k hk => .inl hk)
  have hA' : ∀ a, A' = some a → (x.A = some ⟨a.block, 0, none⟩ ∨ a.block = w.heap.size) ∧ a.block < w1.heap.size := by
    intro a ha
    subst ha
    have hlt := hown.lt a.block rfl
    refine ⟨?_, hlt.2⟩
    rcases hat with e | e
    · left
      cases hA : x.A with
      | none => rw [hA] at e; cases e
      | some a2 =>
        rw [hA] at e
        have e2 : a.block = a2.block := Option.some.inj e
        rcases hxa.2.2 with ⟨h1, _⟩ | ⟨g2, cap2, cur2, h1, _⟩
        · rw [hA] at h1; cases h1
        · rw [hA] at h1
          injection h1 with h1
          rw [e2, Option.some.inj h1]
    · right
      exact Option.some.inj e
  have hne : ∀ a, A' = some a → a.block ≠ x.g := by
    intro a ha
    rcases (hA' a ha).1 with e | e
    · exact htw ⟨a.block, 0, none⟩ hx e
    · omega
  have hy : FM.at_ (w1.setCell ⟨x.g, 0, none⟩ (.slice A' (x.f.data.length + n) c')) ⟨⟨s, x.f.data ++ data, x.f.sure⟩, x.g, A', c'⟩ := by
    have hlen : (x.f.data ++ data).length = x.f.data.length + n := by rw [List.length_append, hn]
    refine ⟨?_, ?_⟩
    · show Blk _ x.g _ [.slice A' (x.f.data ++ data).length c', .int .i64 ((x.f.sure : Nat) : Int)]
      rw [hlen]
      exact hB.set 0 (.slice A' (x.f.data.length + n) c')
    · show World.ownsRow _ 0 _ 1 (.slice A' (x.f.data ++ data).length c') (x.f.data ++ data).length ((x.f.data ++ data).map bv)
      rw [hlen, List.map_append]
      exact own_turn hown ht2 hne
  refine ⟨hB.cell 0, hB.frozen 0, ⟨A', c', rfl⟩, ⟨_, h.set (S' := fun k => S k ∨ (w.heap.size ≤ k ∧ k < w1.heap.size)) (y := ⟨⟨s, x.f.data ++ data, x.f.sure⟩, x.g, A', c'⟩) hx rfl rfl ht (fun k hk => hk) hy (fun k hk => .inl hk) (fun k hk => ?_) (fun k hk => ?_) hne⟩, ht⟩
  · rcases hk with e | ⟨a, ha, e⟩
    · exact .inl (.inl e)
    · have h1 := hA' a ha
      rcases h1.1 with h2 | h2
      · exact .inl (.inr ⟨_, h2, e⟩)
      · exact .inr ⟨by omega, .inr ⟨by omega, by omega⟩⟩
  · have hs : (w1.setCell ⟨x.g, 0, none⟩ (.slice A' (x.f.data.length + n) c')).heap.size = w1.heap.size := by simp [World.setCell]
    rw [hs]
    rcases hk with e | e
    · have := h.lt k e
      have := hb1.size
      omega
    · exact e.2
end

set_option maxRecDepth 100000 in
set_option maxHeartbeats 2000000 in
theorem pappend_any (W : World) (S : Nat → Prop) (q : Nat) (m : Dk) (name data : List UInt8) (A : Option Addr) (n c : Nat) (h : PD W S q m) (hO : OkD 200 m) (hl : name.length ≤ 100) (hd : data.length ≤ 12000) (hda : BytS W S A n data) (hnil : A = none → n = 0 ∧ c = 0) :
    Calls Tryz.prog 60 #[.pointer (some ⟨q, 0, none⟩), .string ⟨name.toArray⟩, .slice A n c] W (StepPost PD S q (doD m ⟨1, name, [], data, 0, 0⟩) W) := by
  have hB := phead_any W S q m [name] #[.string ⟨name.toArray⟩] 1 h hO rfl (by omega) (fun s hs => by have := List.mem_singleton.1 hs; rw [this]; omega) rfl
  obtain ⟨r, hr⟩ : ∃ r, beginR m [name] = r := ⟨_, rfl⟩
  obtain ⟨m1, hm1⟩ : ∃ m1, (beginD m).2 = m1 := ⟨_, rfl⟩
  have hfit := begin_fit hO
  have hcap := (begin_ok hO).cap
  rw [hm1] at hfit hB hcap
  rw [hr] at hB
  obtain ⟨T, hT⟩ : ∃ T : ByteArray, ⟨name.toArray⟩ = T := ⟨_, rfl⟩
  have hTl : T.data.toList = name := by rw [← hT]
  have hTs : T.size ≤ 10000 := by rw [← hT]; show name.toArray.size ≤ _; simp; omega
  rw [hT] at hB ⊢
  have HT := Lib.hid (And.intro hTl hTs)
  clear hT hTl hTs
  have hnd : n ≤ 12000 := by have := hda.1; omega
  have HDA := Lib.hid (And.intro hda hnil)
  clear hda hnil
  by_cases h0 : r = 0
  · subst h0
    obtain ⟨hb1, hb2⟩ := begin_past m [name] hr
    have hta : targetB name = true := by simpa using hb2
    have hE := do_call m ⟨1, name, [], data, 0, 0⟩ rfl hb1
    rw [hm1, pcall_app m1 name data hta (by omega)] at hE
    rw [hE]
    have HF := Lib.hid (And.intro hfit hcap)
    clear hE hb1 hb2 hta hr h hO hfit hm1 hcap hd
    obtain ⟨C, hC⟩ : ∃ C, m1.cap = C := ⟨_, rfl⟩
    obtain ⟨Z, hZ⟩ : ∃ Z, sizeF m1.files = Z := ⟨_, rfl⟩
    have hC0 : 0 ≤ C ∧ C < 9223372036854775808 := by rw [← hC]; exact HF.out.2
    obtain ⟨hC1, hC2⟩ := hC0
    have hZ0 : Z ≤ 40000 := by rw [← hZ]; exact HF.out.1.2.1
    rw [hC, hZ, HDA.out.1.1]
    have HC := Lib.hid (And.intro hC hZ)
    clear hC hZ
    obtain ⟨iu, hiu, hu0, hu1, hu2⟩ := info_parts Tryz.infoByte
    cases hlo : lookF name m1.files with
    | none =>
      have HLO := Lib.hid hlo
      clear hlo
      by_cases hfu : C - (Z : Int) < (n : Int)
      · rw [if_pos hfu]
        have d3 : decide (C - (Z : Int) < (n : Int)) = true := decide_eq_true hfu
        have d4 : decide ((n : Int) > C - (Z : Int)) = true := d3
        have e7 : IntKind.i64.wrap (C - (Z : Int)) = C - (Z : Int) := IntWalk.i64_in _ ⟨by omega, by omega⟩
        clear hC1 hC2 hZ0 hfu
        go_enter Tryz.func60, Tryz.ntmps60
        go_wp2_with fail
        refine hB.mono ?_
        rintro e W1 ⟨rfl, ⟨mb, l, kp, L, G, h1⟩, ht1⟩
        have c1 : W1.cell? ⟨q, 1, none⟩ = some (.map (some mb)) := h1.blk.cell 1
        have c0 : W1.cell? ⟨q, 0, none⟩ = some (.int .i64 C) := by rw [← HC.out.1]; exact h1.blk.cell 0
        have hsz := fun w (hb : Below W1.heap.size W1 w) => psize_any w (h1.below hb) (by have := HF.out.1.2.1; omega)
        rw [HC.out.2] at hsz
        have hq := h1.blk.lt
        have HBD : Hid (∀ w, Below W1.heap.size W1 w → Below W1.heap.size W1 w) := Lib.hid (fun w h => h)
        have hlk1 := look_no h1 T HT.out.2 (by rw [HT.out.1]; exact HLO.out) W1 h1.map
        have hmlen := h1.map.len Tryz.underlying53 3
        have hL : L.length ≤ 200 := by rw [h1.len]; exact HF.out.1.1
        obtain ⟨N, hN⟩ : ∃ N, L.length = N := ⟨_, rfl⟩
        rw [hN] at hmlen hL
        have d5 : decide ((1024 : Int) ≤ (N : Int)) = false := decide_eq_false (by omega)
        have d6 : decide ((N : Int) ≥ 1024) = false := d5
        have HN := Lib.hid hN
        have HH := Lib.hid (And.intro h1 ht1)
        clear hB h1 ht1 hN
        go_wp2_with fail
        go_cut [45] from 36 to 45 (fun s45 wx => s45 = .bool true ∧ Below W1.heap.size W1 wx)
        case first =>
          go_region_held3 (fun w' => w'.cell? ⟨q, 0, none⟩ = some (.int .i64 C)) (first | exact t0 | exact c0 | go_keep)
            ((go_at_call 24; refine (hsz _ (below_drewN (Below.refl _ _) 1)).mono ?_; rintro e w7 ⟨rfl, hb7⟩; have t0 := (hb7.cell (p := ⟨q, 0, none⟩) hq).trans c0; have hb8 := HBD.out w7 (bthen (below_drewN (Below.refl _ W1) 1) hb7)))
          all_goals
            go_wp2_with fail
            go_meet
            exact ⟨rfl, hb8⟩
        case rest =>
          obtain ⟨rfl, hb⟩ := hcut
          have HBB := Lib.hid hb
          clear hb
          go_wp2_with fail
          go_ret
          exact ⟨S, rfl, ⟨_, _, _, _, _, HH.out.1.below HBB.out⟩, fun k hk => .inl hk, HH.out.2.trans (Turn.of_below HBB.out)⟩
      · rw [if_neg hfu]
        have d3 : decide (C - (Z : Int) < (n : Int)) = false := decide_eq_false hfu
        have d4 : decide ((n : Int) > C - (Z : Int)) = false := d3
        have e7 : IntKind.i64.wrap (C - (Z : Int)) = C - (Z : Int) := IntWalk.i64_in _ ⟨by omega, by omega⟩
        clear hC1 hC2 hZ0 hfu
        go_enter Tryz.func60, Tryz.ntmps60
        go_wp2_with fail
        refine hB.mono ?_
        rintro e W1 ⟨rfl, ⟨mb, l, kp, L, G, h1⟩, ht1⟩
        have c1 : W1.cell? ⟨q, 1, none⟩ = some (.map (some mb)) := h1.blk.cell 1
        have c0 : W1.cell? ⟨q, 0, none⟩ = some (.int .i64 C) := by rw [← HC.out.1]; exact h1.blk.cell 0
        have hsz := fun w (hb : Below W1.heap.size W1 w) => psize_any w (h1.below hb) (by have := HF.out.1.2.1; omega)
        rw [HC.out.2] at hsz
        have hq := h1.blk.lt
        have HBD : Hid (∀ w, Below W1.heap.size W1 w → Below W1.heap.size W1 w) := Lib.hid (fun w h => h)
        have hlk1 := look_no h1 T HT.out.2 (by rw [HT.out.1]; exact HLO.out) W1 h1.map
        have hmlen := h1.map.len Tryz.underlying53 3
        have hL : L.length ≤ 200 := by rw [h1.len]; exact HF.out.1.1
        obtain ⟨N, hN⟩ : ∃ N, L.length = N := ⟨_, rfl⟩
        rw [hN] at hmlen hL
        have d5 : decide ((1024 : Int) ≤ (N : Int)) = false := decide_eq_false (by omega)
        have d6 : decide ((N : Int) ≥ 1024) = false := d5
        have HN := Lib.hid hN
        have HH := Lib.hid (And.intro h1 ht1)
        clear hB h1 ht1 hN
        go_wp2_with fail
        go_cut [45] from 36 to 45 (fun s45 wx => s45 = .bool false ∧ Below W1.heap.size W1 wx)
        case first =>
          go_region_held3 (fun w' => w'.cell? ⟨q, 0, none⟩ = some (.int .i64 C)) (first | exact t0 | exact c0 | go_keep)
            ((go_at_call 24; refine (hsz _ (below_drewN (Below.refl _ _) 1)).mono ?_; rintro e w7 ⟨rfl, hb7⟩; have t0 := (hb7.cell (p := ⟨q, 0, none⟩) hq).trans c0; have hb8 := HBD.out w7 (bthen (below_drewN (Below.refl _ W1) 1) hb7)))
          all_goals
            go_wp2_with fail
            go_meet
            exact ⟨rfl, hb8⟩
        case rest =>
          obtain ⟨rfl, hb⟩ := hcut
          obtain ⟨h1, ht1⟩ := HH.out
          have h2 := h1.below hb
          have ht2 : Turn S W wc := ht1.trans (Turn.of_below hb)
          have h3 := h2.below ((Below.refl _ wc).alloc (Nat.le_refl _) (.cells #[.slice none 0 0, .int .i64 0] 78))
          have hg0 : Blk (wc.alloc (.cells #[.slice none 0 0, .int .i64 0] 78)) wc.heap.size 78 [.slice none 0 0, .int .i64 0] := Blk.new wc _ _ rfl
          have hgS : ¬ S wc.heap.size := fun e => by have := h2.lt _ e; omega
          obtain ⟨w4, hup, hm4, htu4⟩ := h3.map.put (Maps.string_keyed Tryz.underlying9) Tryz.underlying53 (by have h := HN.out; unfold maxLen; omega) T (.pointer (some ⟨wc.heap.size, 0, none⟩)) (key_mk T HT.out.2)
          have ht4 := turn_of_map htu4
          rw [HT.out.1] at hm4
          have hy : FM.at_ w4 ⟨⟨name, [], 0⟩, wc.heap.size, none, 0⟩ := ⟨ht4.blk hg0 (fun e => by have e' : wc.heap.size = mb := e; rw [e'] at hgS; exact hgS h2.sm), World.ownsRow_nil _ _ _ _⟩
          have hs3 : (wc.alloc (.cells #[.slice none 0 0, .int .i64 0] 78)).heap.size = wc.heap.size + 1 := by simp
          have h4 := h3.put (S' := fun k => S k ∨ k = wc.heap.size) (y := ⟨⟨name, [], 0⟩, wc.heap.size, none, 0⟩) rfl ht4 hm4 hy (fun k hk => .inl hk) (fun k hk => by
            rcases hk with e | ⟨a, ha, _⟩
            · refine ⟨.inr e, fun e2 => ?_, fun e2 => ?_⟩
              · have := h2.lt q h2.sq; have e' : k = wc.heap.size := e; omega
              · have := h2.lt mb h2.sm; have e' : k = wc.heap.size := e; omega
            · cases ha) (fun t z k hts hz hk hk2 => by
            rcases hk2 with e | ⟨a, ha, _⟩
            · have := h2.lt k (h2.sep.inS t z k hz hk).1
              have e' : k = wc.heap.size := e
              omega
            · cases ha) (fun k hk => by
            have h5 := ht4.size
            rcases hk with hk | hk
            · have := h2.lt k hk; omega
            · omega) (fun a ha => by cases ha)
          have ht5 : Turn S W w4 := (ht2.alloc _).trans (ht4.mono fun k e => by rw [e]; exact h2.sm)
          have hby := (HDA.out.1.turn ht5).byt
          have k0 : w4.cell? ⟨wc.heap.size, 0, none⟩ = some (.slice none 0 0) := hy.1.cell 0
          have c4 : (wc.alloc (.cells #[.slice none 0 0, .int .i64 0] 78)).cell? ⟨q, 1, none⟩ = some (.map (some mb)) := h3.blk.cell 1
          have hown : w4.ownsRow 0 5 1 (.slice none 0 0) 0 [] := World.ownsRow_nil _ _ _ _
          have H4 := Lib.hid (And.intro h4 (And.intro ht5 ht2.size))
          have hqc := h2.blk.lt
          have c1w : wc.cell? ⟨q, 1, none⟩ = some (.map (some mb)) := h2.blk.cell 1
          clear h1 ht1 h2 ht2 h3 hg0 hgS hm4 htu4 ht4 hy h4 ht5 hb c0 c1 hlk1 hsz hq hs3 hmlen
          go_wp2_with (at_builtin; refine wpList_append_byt_at w4 rfl _ _ 70 rfl 0 5 iu (.int .u8 0) Tryz.underlying70 hiu hu0 hu1 hu2 rfl _ 0 [] rfl hown w4.heap.size A n c data rfl hby (fun e => (HDA.out.2 e).2) (by omega) (Nat.zero_le _) ?_)
          intro v8 w8 hown8 hgr8 hat8
          obtain ⟨y0, yz, ⟨A8, c8, rfl⟩, ⟨G8, h8⟩, ht8⟩ := papp_tail (s := name) (x := ⟨⟨name, [], 0⟩, wc.heap.size, none, 0⟩) H4.out.1 (by unfold upG; rw [if_pos rfl]) rfl HDA.out.1.1 (by simpa using hown8) hgr8 hat8
          simp only [List.length_nil, Nat.zero_add] at h8 ht8
          have H8 := Lib.hid (And.intro h8 (And.intro ht8 hgr8.size))
          clear hown8 hgr8 hat8 h8 ht8 hown hby k0
          go_wp2_with fail
          go_ret
          obtain ⟨h8, ht8, hs8⟩ := H8.out
          have hE2 : fileF name m1.files = ⟨name, [], 0⟩ := fileF_none name m1.files HLO.out
          refine ⟨fun k => (S k ∨ k = wc.heap.size) ∨ (w4.heap.size ≤ k ∧ k < w8.heap.size), rfl, ⟨mb, l, kp, putM name (.pointer (some ⟨wc.heap.size, 0, none⟩)) L, G8, ?_⟩, fun k hk => ?_, H4.out.2.1.also ht8 fun k hk => ?_⟩
          · show PDat _ _ q (withFs m1 (withF ⟨name, (fileF name m1.files).data ++ data, (fileF name m1.files).sure⟩ false m1.files)) mb l kp _ G8
            rw [hE2, ← with_with ⟨name, [] ++ data, 0⟩ ⟨name, [], 0⟩ m1.files HH.out.1.srt rfl]
            exact h8
          · have h9 := H4.out.2.1.size
            have h10 := H4.out.2.2
            rcases hk with (hk | hk) | hk
            · exact .inl hk
            · exact .inr (by omega)
            · exact .inr (by omega)
          · rcases hk with e | ⟨a, ha, _⟩
            · exact .inr (by have e' : k = wc.heap.size := e; have := H4.out.2.2; omega)
            · cases ha
    | some f =>
      have HLO := Lib.hid hlo
      clear hlo
      by_cases hfu : C - (Z : Int) < (n : Int)
      · rw [if_pos hfu]
        have d3 : decide (C - (Z : Int) < (n : Int)) = true := decide_eq_true hfu
        have d4 : decide ((n : Int) > C - (Z : Int)) = true := d3
        have e7 : IntKind.i64.wrap (C - (Z : Int)) = C - (Z : Int) := IntWalk.i64_in _ ⟨by omega, by omega⟩
        clear hC1 hC2 hZ0 hfu
        go_enter Tryz.func60, Tryz.ntmps60
        go_wp2_with fail
        refine hB.mono ?_
        rintro e W1 ⟨rfl, ⟨mb, l, kp, L, G, h1⟩, ht1⟩
        have c1 : W1.cell? ⟨q, 1, none⟩ = some (.map (some mb)) := h1.blk.cell 1
        have c0 : W1.cell? ⟨q, 0, none⟩ = some (.int .i64 C) := by rw [← HC.out.1]; exact h1.blk.cell 0
        have hsz := fun w (hb : Below W1.heap.size W1 w) => psize_any w (h1.below hb) (by have := HF.out.1.2.1; omega)
        rw [HC.out.2] at hsz
        have hq := h1.blk.lt
        have HBD : Hid (∀ w, Below W1.heap.size W1 w → Below W1.heap.size W1 w) := Lib.hid (fun w h => h)
        obtain ⟨x, hx, hxf, hfn, hlk⟩ := look_yes h1 T HT.out.2 (by rw [HT.out.1]; exact HLO.out)
        have hlk1 := hlk W1 h1.map
        rw [HT.out.1] at hx hfn
        have HX := Lib.hid (And.intro hx (And.intro hxf hfn))
        have HH := Lib.hid (And.intro h1 ht1)
        clear hB h1 ht1 hx hxf hfn hlk
        go_wp2_with fail
        go_cut [45] from 36 to 45 (fun s45 wx => s45 = .bool true ∧ Below W1.heap.size W1 wx)
        case first =>
          go_region_held3 (fun w' => w'.cell? ⟨q, 0, none⟩ = some (.int .i64 C)) (first | exact t0 | exact c0 | go_keep)
            ((go_at_call 24; refine (hsz _ (below_drewN (Below.refl _ _) 1)).mono ?_; rintro e w7 ⟨rfl, hb7⟩; have t0 := (hb7.cell (p := ⟨q, 0, none⟩) hq).trans c0; have hb8 := HBD.out w7 (bthen (below_drewN (Below.refl _ W1) 1) hb7)))
          all_goals
            go_wp2_with fail
            go_meet
            exact ⟨rfl, hb8⟩
        case rest =>
          obtain ⟨rfl, hb⟩ := hcut
          have HBB := Lib.hid hb
          clear hb
          go_wp2_with fail
          go_ret
          exact ⟨S, rfl, ⟨_, _, _, _, _, HH.out.1.below HBB.out⟩, fun k hk => .inl hk, HH.out.2.trans (Turn.of_below HBB.out)⟩
      · rw [if_neg hfu]
        have d3 : decide (C - (Z : Int) < (n : Int)) = false := decide_eq_false hfu
        have d4 : decide ((n : Int) > C - (Z : Int)) = false := d3
        have e7 : IntKind.i64.wrap (C - (Z : Int)) = C - (Z : Int) := IntWalk.i64_in _ ⟨by omega, by omega⟩
        clear hC1 hC2 hZ0 hfu
        go_enter Tryz.func60, Tryz.ntmps60
        go_wp2_with fail
        refine hB.mono ?_
        rintro e W1 ⟨rfl, ⟨mb, l, kp, L, G, h1⟩, ht1⟩
        have c1 : W1.cell? ⟨q, 1, none⟩ = some (.map (some mb)) := h1.blk.cell 1
        have c0 : W1.cell? ⟨q, 0, none⟩ = some (.int .i64 C) := by rw [← HC.out.1]; exact h1.blk.cell 0
        have hsz := fun w (hb : Below W1.heap.size W1 w) => psize_any w (h1.below hb) (by have := HF.out.1.2.1; omega)
        rw [HC.out.2] at hsz
        have hq := h1.blk.lt
        have HBD : Hid (∀ w, Below W1.heap.size W1 w → Below W1.heap.size W1 w) := Lib.hid (fun w h => h)
        obtain ⟨x, hx, hxf, hfn, hlk⟩ := look_yes h1 T HT.out.2 (by rw [HT.out.1]; exact HLO.out)
        have hlk1 := hlk W1 h1.map
        rw [HT.out.1] at hx hfn
        have HX := Lib.hid (And.intro hx (And.intro hxf hfn))
        have HH := Lib.hid (And.intro h1 ht1)
        clear hB h1 ht1 hx hxf hfn hlk
        go_wp2_with fail
        go_cut [45] from 36 to 45 (fun s45 wx => s45 = .bool false ∧ Below W1.heap.size W1 wx)
        case first =>
          go_region_held3 (fun w' => w'.cell? ⟨q, 0, none⟩ = some (.int .i64 C)) (first | exact t0 | exact c0 | go_keep)
            ((go_at_call 24; refine (hsz _ (below_drewN (Below.refl _ _) 1)).mono ?_; rintro e w7 ⟨rfl, hb7⟩; have t0 := (hb7.cell (p := ⟨q, 0, none⟩) hq).trans c0; have hb8 := HBD.out w7 (bthen (below_drewN (Below.refl _ W1) 1) hb7)))
          all_goals
            go_wp2_with fail
            go_meet
            exact ⟨rfl, hb8⟩
        case rest =>
          obtain ⟨rfl, hb⟩ := hcut
          obtain ⟨h1, ht1⟩ := HH.out
          obtain ⟨hx, hxf, hfn⟩ := HX.out
          have h2 := h1.below hb
          have ht2 : Turn S W wc := ht1.trans (Turn.of_below hb)
          have hat := h2.at_ name x hx
          have hby := (HDA.out.1.turn ht2).byt
          have hown := hat.2
          have k0 : wc.cell? ⟨x.g, 0, none⟩ = some (.slice x.A x.f.data.length x.c) := hat.1.cell 0
          have hxl : x.f.data.length ≤ 40000 := by
            have e1 := h1.tied.file name
            rw [hx] at e1
            have e2 := mem_size m1.files x.f (look_mem name m1.files x.f e1)
            have e3 := HF.out.1.2.1
            omega
          obtain ⟨n0, hn0⟩ : ∃ n0, x.f.data.length = n0 := ⟨_, rfl⟩
          have hX2 : (x.f.data.map bv).length = n0 := by simp [hn0]
          rw [hn0] at hown k0 hxl
          have H2 := Lib.hid (And.intro h2 (And.intro ht2 hn0))
          clear h1 ht1 hx hxf hfn h2 ht2 hat hn0 hX2 hb c0 c1 hlk1 hsz hq
          go_wp2_with (at_builtin; refine wpList_append_byt_at wc rfl _ _ 70 rfl 0 5 iu (.int .u8 0) Tryz.underlying70 hiu hu0 hu1 hu2 rfl _ n0 (x.f.data.map bv) rfl hown wc.heap.size A n c data rfl hby (fun e => (HDA.out.2 e).2) (by omega) (Nat.zero_le _) ?_)
          intro v8 w8 hown8 hgr8 hat8
          rw [← H2.out.2.2] at hown8 hgr8 hat8
          obtain ⟨y0, yz, ⟨A8, c8, rfl⟩, ⟨G8, h8⟩, ht8⟩ := papp_tail H2.out.1 HX.out.1 (by rw [HX.out.2.1]; exact HX.out.2.2) HDA.out.1.1 hown8 hgr8 hat8
          have H8 := Lib.hid (And.intro h8 (And.intro ht8 hgr8.size))
          clear hown8 hgr8 hat8 h8 ht8 hown hby k0
          go_wp2_with fail
          go_ret
          obtain ⟨h8, ht8, hs8⟩ := H8.out
          obtain ⟨hx, hxf, hfn⟩ := HX.out
          have hE2 : fileF name m1.files = f := fileF_some name m1.files f HLO.out
          refine ⟨fun k => S k ∨ (wc.heap.size ≤ k ∧ k < w8.heap.size), rfl, ⟨mb, l, kp, L, G8, ?_⟩, fun k hk => ?_, H2.out.2.1.also ht8 fun k hk => .inl (H2.out.1.sep.inS name x k hx hk).1⟩
          · show PDat _ _ q (withFs m1 (withF ⟨name, (fileF name m1.files).data ++ data, (fileF name m1.files).sure⟩ false m1.files)) mb l kp L G8
            rw [hE2, ← hxf]
            exact h8
          · rcases hk with hk | hk
            · exact .inl hk
            · exact .inr (Nat.le_trans H2.out.2.1.size hk.1)
  · have hE := do_stop m ⟨1, name, [], data, 0, 0⟩ rfl (by show (1 : Int) ≠ 3; omega) (by rw [hr]; exact h0)
    rw [hE, hr, hm1]
    have d0 : (r != 0) = true := by simpa using h0
    clear hE hr h hO hfit hm1 h0
    go_enter Tryz.func60, Tryz.ntmps60
    go_wp2_with fail
    refine hB.mono ?_
    rintro e W1 ⟨rfl, h1, ht1⟩
    have HH := Lib.hid (And.intro h1 ht1)
    clear hB h1 ht1
    go_wp2_with fail
    go_ret
    exact ⟨S, rfl, HH.out.1, fun k hk => .inl hk, HH.out.2⟩

end Go.Proofs.YthjikbhjciphiaaGreatDoor
