/-
  The program's disk: Rename.
-/
import Derived.Test.YtnjkilmhphcocaaDpH
namespace Go.Proofs.Ytnjkilmhphcocaa
open Go.RowKit
set_option linter.unusedVariables false
set_option linter.unusedSimpArgs false

theorem pcall_ren (m : Dk) (s d : List UInt8) (ht : targetB s = true) (ht2 : targetB d = true) : callD m ⟨3, s, d, [], 0, 0⟩ = match lookF s m.files with | none => (8, m) | some f => (0, withFs m (withF ⟨d, f.data, f.sure⟩ false (withoutF s m.files))) := by
  unfold callD fileF
  simp only [ht, ht2]
  cases h : lookF s m.files <;> simp

set_option maxRecDepth 100000 in
set_option maxHeartbeats 2000000 in
theorem prename_any (W : World) (S : Nat → Prop) (q : Nat) (m : Dk) (name dest : List UInt8) (h : PD W S q m) (hO : OkD 200 m) (hl : name.length ≤ 100) (hl2 : dest.length ≤ 100) :
    Calls Try.prog 25 #[.pointer (some ⟨q, 0, none⟩), .string ⟨name.toArray⟩, .string ⟨dest.toArray⟩] W (StepPost PD S q (doD m ⟨3, name, dest, [], 0, 0⟩) W) := by
  have hB := phead_any W S q m [name, dest] #[.string ⟨name.toArray⟩, .string ⟨dest.toArray⟩] 2 h hO rfl (by omega) (fun s hs => by
    rcases List.mem_cons.1 hs with e | e
    · rw [e]; omega
    · have := List.mem_singleton.1 e; rw [this]; omega) rfl
  obtain ⟨r, hr⟩ : ∃ r, beginR m [name, dest] = r := ⟨_, rfl⟩
  obtain ⟨m1, hm1⟩ : ∃ m1, (beginD m).2 = m1 := ⟨_, rfl⟩
  have hfit := begin_fit hO
  rw [hm1] at hfit hB
  rw [hr] at hB
  obtain ⟨T, hT⟩ : ∃ T : ByteArray, ⟨name.toArray⟩ = T := ⟨_, rfl⟩
  have hTl : T.data.toList = name := by rw [← hT]
  have hTs : T.size ≤ 10000 := by rw [← hT]; show name.toArray.size ≤ _; simp; omega
  obtain ⟨U, hU⟩ : ∃ U : ByteArray, ⟨dest.toArray⟩ = U := ⟨_, rfl⟩
  have hUl : U.data.toList = dest := by rw [← hU]
  have hUs : U.size ≤ 10000 := by rw [← hU]; show dest.toArray.size ≤ _; simp; omega
  rw [hT, hU] at hB ⊢
  have HT := Lib.hid (And.intro hTl hTs)
  have HU := Lib.hid (And.intro hUl hUs)
  clear hT hTl hTs hU hUl hUs
  by_cases h0 : r = 0
  · subst h0
    obtain ⟨hb1, hb2⟩ := begin_past m [name, dest] hr
    have hta : targetB name = true ∧ targetB dest = true := by simpa using hb2
    have hE := do_call m ⟨3, name, dest, [], 0, 0⟩ rfl hb1
    rw [hm1, pcall_ren m1 name dest hta.1 hta.2] at hE
    rw [hE]
    have HF := Lib.hid hfit
    clear hE hb1 hb2 hta hr h hO hfit hm1
    cases hlo : lookF name m1.files with
    | none =>
      have HLO := Lib.hid hlo
      clear hlo
      go_enter Try.func25, Try.ntmps25
      go_wp2_with fail
      refine hB.mono ?_
      rintro e W1 ⟨rfl, ⟨mb, l, kp, L, G, h1⟩, ht1⟩
      have c1 : W1.cell? ⟨q, 1, none⟩ = some (.map (some mb)) := h1.blk.cell 1
      have hlk := look_no h1 T HT.out.2 (by rw [HT.out.1]; exact HLO.out) W1 h1.map
      have HH := Lib.hid (And.intro h1 ht1)
      clear hB h1 ht1
      go_wp2_with fail
      go_ret
      exact ⟨S, rfl, ⟨_, _, _, _, _, HH.out.1⟩, fun k hk => .inl hk, HH.out.2⟩
    | some f =>
      have HLO := Lib.hid hlo
      clear hlo
      go_enter Try.func25, Try.ntmps25
      go_wp2_with fail
      refine hB.mono ?_
      rintro e W1 ⟨rfl, ⟨mb, l, kp, L, G, h1⟩, ht1⟩
      have c1 : W1.cell? ⟨q, 1, none⟩ = some (.map (some mb)) := h1.blk.cell 1
      obtain ⟨x, hx, hxf, hfn, hlk⟩ := look_yes h1 T HT.out.2 (by rw [HT.out.1]; exact HLO.out)
      have hlk1 := hlk W1 h1.map
      obtain ⟨w2, hdl, hm2, htu⟩ := h1.map.drop (Maps.string_keyed Try.underlying9) Try.underlying57 T (key_mk T HT.out.2) 0
      have ht2 := turn_of_map htu
      rw [HT.out.1] at hm2
      have h2 := h1.del ht2 hm2
      have hln : (delM name L).length < maxLen := by
        have e1 := h1.len
        have e2 : (delM name L).length ≤ L.length := List.length_filter_le _ _
        have e3 := HF.out.1
        unfold maxLen
        omega
      obtain ⟨w3, hup, hm3, htu3⟩ := hm2.put (Maps.string_keyed Try.underlying9) Try.underlying57 hln U (.pointer (some ⟨x.g, 0, none⟩)) (key_mk U HU.out.2)
      have ht3 := turn_of_map htu3
      rw [HU.out.1] at hm3
      rw [HT.out.1] at hx hfn
      have c2 : w2.cell? ⟨q, 1, none⟩ = some (.map (some mb)) := h2.blk.cell 1
      have HX := Lib.hid (And.intro hx (And.intro hxf hfn))
      have HH := Lib.hid (And.intro h1 (And.intro ht1 (And.intro h2 (And.intro ht2 (And.intro hm3 ht3)))))
      obtain ⟨g, hg⟩ : ∃ g, x.g = g := ⟨_, rfl⟩
      rw [hg] at hlk1 hup
      have HG := Lib.hid hg
      clear hB h1 ht1 hlk hx hxf hfn hm2 ht2 htu h2 hm3 ht3 htu3 hg hln
      go_wp2_with fail
      go_ret
      obtain ⟨h1, ht1, h2, ht2, hm3, ht3⟩ := HH.out
      obtain ⟨hx, hxf, hfn⟩ := HX.out
      have hat := h1.at_ name x hx
      have hy : FM.at_ w3 ⟨⟨dest, f.data, f.sure⟩, x.g, x.A, x.c⟩ := by
        rw [← hxf]
        exact FM.turn (x := x) hat (ht2.trans ht3) (fun k hk e => (h1.sep.inS name x k hx hk).2.2 e)
      have h3 := h2.put (S' := S) (y := ⟨⟨dest, f.data, f.sure⟩, x.g, x.A, x.c⟩) rfl ht3 hm3 hy (fun k hk => hk) (fun k hk => h1.sep.inS name x k hx hk) (fun t z k _ hz hk hk2 => by
        unfold dnG at hz
        split at hz
        · cases hz
        · rename_i hne
          exact h1.sep.apart t name z x k hne hz hx hk hk2) (fun k hk => Nat.lt_of_lt_of_le (h2.lt k hk) ht3.size) (fun a ha => h1.sep.two name x a hx ha)
      exact ⟨S, rfl, ⟨mb, l, kp, _, _, h3⟩, fun k hk => .inl hk, ht1.trans ((ht2.trans ht3).mono fun k e => by rw [e]; exact h1.sm)⟩
  · have hE := do_stop3 m ⟨3, name, dest, [], 0, 0⟩ rfl (by show beginR m [name, dest] ≠ 0; rw [hr]; exact h0)
    rw [hE]
    show Calls _ _ _ _ (StepPost PD S q (beginR m [name, dest], (beginD m).2) W)
    rw [hr, hm1]
    have d0 : (r != 0) = true := by simpa using h0
    clear hE hr h hO hfit hm1 h0
    go_enter Try.func25, Try.ntmps25
    go_wp2_with fail
    refine hB.mono ?_
    rintro e W1 ⟨rfl, h1, ht1⟩
    have HH := Lib.hid (And.intro h1 ht1)
    clear hB h1 ht1
    go_wp2_with fail
    go_ret
    exact ⟨S, rfl, HH.out.1, fun k hk => .inl hk, HH.out.2⟩

end Go.Proofs.Ytnjkilmhphcocaa
