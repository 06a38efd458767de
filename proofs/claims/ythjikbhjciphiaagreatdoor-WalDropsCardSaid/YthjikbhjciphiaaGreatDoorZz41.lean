/-
  The program's journal: kept, grow; what stands of the disk behind an append.
-/
import Derived.Test.YthjikbhjciphiaaGreatDoorZz40
import Derived.Test.YthjikbhjciphiaaGreatDoorZz27
import Derived.Test.YthjikbhjciphiaaGreatDoorZz36
import Derived.Test.YthjikbhjciphiaaGreatDoorZz35
namespace Go.Proofs.YthjikbhjciphiaaGreatDoor
open Go.RowKit
set_option linter.unusedVariables false
set_option linter.unusedSimpArgs false

theorem okd_of {m : Dk} {own : Nat} {pre : List (Nat × List UInt8)} {R0 cur : List Rc} (hH : HeldJ m.files own pre R0 cur) {k : Nat} (hx : OkX k m) (hk : k ≤ 200) (hf : m.files.length ≤ 200) (hs : sizeF m.files ≤ 40000) : OkD 200 m :=
  ⟨hf, by omega, fun f h => by
    rw [hH.all.1] at h
    obtain ⟨p, _, rfl⟩ := List.mem_map.1 h
    exact Nat.le_refl _, by have := hx.1; omega, hx.2.1, hx.2.2⟩
theorem okd_app {m1 m : Dk} {own : Nat} {pre : List (Nat × List UInt8)} {R0 cur new : List Rc} (hH : HeldJ m.files own pre R0 cur) {k s : Nat} (hx : OkX k m1) (hk : k ≤ 200) (hf : m.files.length ≤ 190) (hs : sizeF m.files ≤ 20000) (hn : (segB new).length ≤ 12000) (hss : s ≤ (segB (cur ++ new)).length)
    (he : m1.files = pre.map sgF ++ [⟨nameL own, segB (cur ++ new), s⟩]) : OkD 200 m1 := by
  have hlen : pre.length ≤ m.files.length := by
    rw [hH.files, List.length_append, List.length_map]
    omega
  have hsz : sizeF m1.files ≤ sizeF m.files + (segB new).length := by
    rw [he, hH.files]
    unfold sizeF
    rw [List.map_append, List.map_append, List.sum_append, List.sum_append, segB_app]
    split
    · next hc => rw [hc]; simp [segB_nil]
    · simp [sgF]; omega
  refine ⟨by rw [he, List.length_append, List.length_map, List.length_singleton]; omega, by omega, fun f h => ?_, by have := hx.1; omega, hx.2.1, hx.2.2⟩
  rw [he] at h
  rcases List.mem_append.1 h with h | h
  · obtain ⟨p, _, rfl⟩ := List.mem_map.1 h
    exact Nat.le_refl _
  · rw [List.mem_singleton.1 h]
    exact hss
section
variable {T : Nat → Prop} {p q c : Nat} {j : Jn} {A : Option Addr}

set_option maxRecDepth 100000 in
set_option maxHeartbeats 1000000 in
theorem lkept_any (W : World) (h : LDat W T p q j A c) (A1 A2 : Option Addr) (n1 c1 n2 c2 : Nat) (hn : n1 = j.size) (hnil : A1 = none → n1 = 0 ∧ c1 = 0) (hnc : n1 ≤ c1) (hcm : c1 ≤ maxLen) :
    Calls Tryz.prog 59 #[.pointer (some ⟨p, 0, none⟩), .slice A1 n1 c1, .slice A2 n2 c2] W fun e W' => e = .returned (.int .i64 0) ∧ W' = W := by
  have c4 : W.cell? ⟨p, 4, none⟩ = some (.int .i64 ((n1 : Nat) : Int)) := by rw [hn]; exact h.blk.cell 4
  unfold maxLen at hcm
  have hP := fun p1 p2 d => Tryz.bytes_HasPrefix_e2 p1 p2 n2 c2 d W
  clear h hn
  rcases A1 with _ | ⟨b, o, x⟩
  · obtain ⟨rfl, rfl⟩ := hnil rfl
    go_enter Tryz.func59, Tryz.ntmps59
    go_wp2_with fail
    refine (hP _ _ _).mono ?_
    rintro e w1 ⟨rfl, rfl⟩
    go_wp2_with fail
    go_ret
    exact ⟨rfl, rfl⟩
  · have e1 : (n1 : Int) - (n1 : Int) = 0 := by omega
    have e2 : ¬ (n1 : Int) < (n1 : Int) := by omega
    have e3 : (if (n1 : Int) < (n1 : Int) then (n1 : Int) else (n1 : Int)) = (n1 : Int) := by split <;> rfl
    have e4 : (0 : Int) ≤ (n1 : Int) := by omega
    have e5 : (n1 : Int) ≤ (n1 : Int) := by omega
    have e6 : (n1 : Int) ≤ (c1 : Int) := by omega
    go_enter Tryz.func59, Tryz.ntmps59
    go_wp2_with fail
    all_goals
      refine (hP _ _ _).mono ?_
      rintro e w1 ⟨rfl, rfl⟩
      go_wp2_with fail
      go_ret
      exact ⟨rfl, rfl⟩

theorem lgrow_any (W : World) (h : LDat W T p q j A c) (L : Nat) (hL : L < 1000000000) (ho : j.own + 1 < 9223372036854775808) :
    Calls Tryz.prog 62 #[.pointer (some ⟨p, 0, none⟩), .int .i64 (L : Nat)] W fun e W' => e = .returned (.tuple #[]) ∧ LDat W' T p q ⟨if 256 ≤ L then j.own + 1 else j.own, j.next, j.sure, j.buf, if 256 ≤ L then 0 else L⟩ A c ∧ Turn (fun k => k = p) W W' := by
  have hB : Blk W p 68 [.pointer (some ⟨q, 0, none⟩), .int .u64 ((j.next : Nat) : Int), .slice A j.buf.length c, .int .u64 ((j.own : Nat) : Int), .int .i64 ((j.size : Nat) : Int)] := h.blk
  have c3 : W.cell? ⟨p, 3, none⟩ = some (.int .u64 ((j.own : Nat) : Int)) := hB.cell 3
  have c4 : W.cell? ⟨p, 4, none⟩ = some (.int .i64 ((j.size : Nat) : Int)) := hB.cell 4
  have z3 := hB.frozen 3
  have z4 := hB.frozen 4
  have hplt := hB.lt
  have key : ∀ (w' : World) (o s : Nat), Blk w' p 68 [.pointer (some ⟨q, 0, none⟩), .int .u64 ((j.next : Nat) : Int), .slice A j.buf.length c, .int .u64 ((o : Nat) : Int), .int .i64 ((s : Nat) : Int)] → Turn (fun k => k = p) W w' → o < 18446744073709551616 → s < 1000000000 → LDat w' T p q ⟨o, j.next, j.sure, j.buf, s⟩ A c := fun w' o s hb ht h1 h2 =>
    ⟨hb, own_turn h.own ht (fun a ha e => by
      have := ((own_lenA h.own).2.2.2 a ha).1
      have e' : a.block = p := e
      omega), h.sp, h.next, h.small.1, h1, h2⟩
  obtain ⟨o, hoo⟩ : ∃ o, j.own = o := ⟨_, rfl⟩
  have hos := h.small.2.1
  rw [hoo] at c3 ho hB hos ⊢
  have HK := Lib.hid (And.intro key hB)
  clear key h hB hoo
  by_cases h256 : 256 ≤ L
  · have t1 : ((L : Nat) : Int) ≥ 256 := by omega
    have t2 : (256 : Int) ≤ (L : Int) := by omega
    have hw : IntKind.u64.wrap ((o : Int) + 1) = ((o + 1 : Nat) : Int) := by rw [IntKind.wrap_u64]; omega
    rw [if_pos h256, if_pos h256]
    have HL := Lib.hid (And.intro (show o + 1 < 18446744073709551616 by omega) hL)
    clear h256 ho hL hos
    go_enter Tryz.func62, Tryz.ntmps62
    go_wp2_with fail
    go_end0
    have ht : Turn (fun k => k = p) W (((W.setCell ⟨p, 4, none⟩ (.int .i64 (L : Nat))).setCell ⟨p, 3, none⟩ (.int .u64 ((o + 1 : Nat) : Int))).setCell ⟨p, 4, none⟩ (.int .i64 0)) :=
      (((Turn.refl (fun k => k = p) W).setCell (p := ⟨p, 4, none⟩) rfl _).setCell (p := ⟨p, 3, none⟩) rfl _).setCell (p := ⟨p, 4, none⟩) rfl _
    exact ⟨rfl, HK.out.1 _ (o + 1) 0 (((HK.out.2.set 4 _).set 3 _).set 4 _) ht HL.out.1 (by decide), ht⟩
  · have t1 : ¬ ((L : Nat) : Int) ≥ 256 := by omega
    have t2 : ¬ (256 : Int) ≤ (L : Int) := by omega
    rw [if_neg h256, if_neg h256]
    have HL := Lib.hid (And.intro hos hL)
    clear h256 ho hL hos
    go_enter Tryz.func62, Tryz.ntmps62
    go_wp2_with fail
    go_end0
    have ht : Turn (fun k => k = p) W (W.setCell ⟨p, 4, none⟩ (.int .i64 (L : Nat))) := (Turn.refl (fun k => k = p) W).setCell (p := ⟨p, 4, none⟩) rfl _
    exact ⟨rfl, HK.out.1 _ o L (HK.out.2.set 4 _) ht HL.out.1 HL.out.2, ht⟩
end

end Go.Proofs.YthjikbhjciphiaaGreatDoor

/-
  The program's journal: write, Commit.
-/
namespace Go.Proofs.YthjikbhjciphiaaGreatDoor
open Go.RowKit
set_option linter.unusedVariables false
set_option linter.unusedSimpArgs false

/-- A journal behind a commit that was done, its records let go or not. -/
def grewJ (j : Jn) (L : Nat) (buf : List Rc) : Jn := ⟨if 256 ≤ L then j.own + 1 else j.own, j.next, j.sure, buf, if 256 ≤ L then 0 else L⟩

/-- What a write leaves. -/
def WrPost (W : World) (S T : Nat → Prop) (p q c : Nat) (j : Jn) (A : Option Addr) (r : Int × Dk) (W' : World) : Prop :=
  ∃ S', PD W' S' q r.2 ∧ (∀ k, S' k → S k ∨ W.heap.size ≤ k) ∧ Turn (fun k => S k ∨ T k) W W' ∧ LDat W' T p q (if r.1 = 0 then grewJ j (fileF (nameL j.own) r.2.files).data.length j.buf else j) A c

theorem seg_len (new : List Rc) (h : ∀ r ∈ new, okRc r) (hl : new.length ≤ 200) : (segB new).length ≤ 11200 := by
  have := (lenB_le new h).1
  omega
theorem read_data (m : Dk) (name : List UInt8) (h : m.down = false) : (readD m name).2 = (fileF name m.files).data := by
  unfold readD fileF
  rw [h]
  cases lookF name m.files <;> rfl

set_option maxRecDepth 100000 in
set_option maxHeartbeats 800000 in
theorem lwrite_any (W : World) (S T : Nat → Prop) (p q c : Nat) (m : Dk) (j : Jn) (A : Option Addr) (pre : List (Nat × List UInt8)) (R0 cur : List Rc) (A1 : Option Addr) (n1 c1 : Nat)
    (hS : SV W) (hSg : ∀ w, Turn (fun k => S k ∨ T k) W w → SV w) (hP : PD W S q m) (hL : LDat W T p q j A c) (hd : ∀ k, S k → ¬ T k) (hO : OkJ m) (hbl : j.buf.length ≤ 200) (hok : ∀ r ∈ j.buf, okRc r) (hH : HeldJ m.files j.own pre R0 cur) (hsz : j.size = (fileF (nameL j.own) m.files).data.length) (hup : m.down = false) (how : j.own < 1000000000) (hne : j.buf ≠ [])
    (hb : BytS W (fun k => S k ∨ T k) A1 n1 (segB j.buf)) (hnil : A1 = none → n1 = 0 ∧ c1 = 0) (hnc : n1 ≤ c1) (hcm : c1 ≤ maxLen) :
    Calls Tryz.prog 38 #[.pointer (some ⟨p, 0, none⟩), .slice A1 n1 c1] W fun e W' => e = .returned (.int .i64 (commitD m j.own j.buf).1) ∧ WrPost W S T p q c j A (commitD m j.own j.buf) W' := by
  obtain ⟨hx, hfl, hfs, _⟩ := hO
  have hpos : 0 < n1 := by
    have h1 := (lenB_le j.buf hok).2
    have h2 := List.length_pos_iff.2 hne
    have h3 := hb.1
    omega
  obtain ⟨ab, ao, rfl, hb1, hb2⟩ := hb.2 hpos
  clear hb1 hb2
  have hOk := okd_of hH hx (by omega) (by omega) (by omega)
  have hcd : commitD m j.own j.buf = if (doD m ⟨1, nameL j.own, [], segB j.buf, 0, 0⟩).1 ≠ 0 then doD m ⟨1, nameL j.own, [], segB j.buf, 0, 0⟩ else doD (doD m ⟨1, nameL j.own, [], segB j.buf, 0, 0⟩).2 ⟨2, nameL j.own, [], [], 0, 0⟩ := by
    unfold commitD
    rw [if_neg hne]
  have hsl := seg_len j.buf hok hbl
  have hNm := sname_any j.own W (by omega) hS.1
  have hnl : (nameL j.own).length = 17 := nameL_len j.own
  have hxa := hx.does ⟨1, nameL j.own, [], segB j.buf, 0, 0⟩ rfl
  have hcases := do_append m hup (nameL j.own) (segB j.buf) (target_name j.own) (by omega)
  rw [hH.append j.buf] at hcases
  have hsure : (fileF (nameL j.own) m.files).sure ≤ (segB (cur ++ j.buf)).length := by
    have h1 : (fileF (nameL j.own) m.files).sure ≤ (fileF (nameL j.own) m.files).data.length := by
      unfold fileF
      cases hlo : lookF (nameL j.own) m.files with
      | none => exact Nat.le_refl _
      | some f => exact hOk.sure f (look_mem _ _ _ hlo)
    rw [hH.own_file] at h1
    rw [segB_app, List.length_append]
    omega
  obtain ⟨su, hsu⟩ : ∃ su, (fileF (nameL j.own) m.files).sure = su := ⟨_, rfl⟩
  rw [hsu] at hcases hsure
  have hApp := fun W1 (h1 : PD W1 S q m) A2 n2 c2 h2 h3 => pappend_any W1 S q m (nameL j.own) (segB j.buf) A2 n2 c2 h1 hOk (by omega) (by omega) h2 h3
  have hRd := fun W1 (h1 : PD W1 S q m) => pread_any W1 S q m (nameL j.own) h1 hOk (by omega)
  rw [read_data m _ hup, ← hsz] at hRd
  obtain ⟨ra, hra⟩ : ∃ ra, (readD m (nameL j.own)).1 = ra := ⟨_, rfl⟩
  rw [hra] at hRd
  obtain ⟨a1, ha1⟩ : ∃ a1, (doD m ⟨1, nameL j.own, [], segB j.buf, 0, 0⟩).1 = a1 := ⟨_, rfl⟩
  obtain ⟨m1, hm1⟩ : ∃ m1, (doD m ⟨1, nameL j.own, [], segB j.buf, 0, 0⟩).2 = m1 := ⟨_, rfl⟩
  have hpair : doD m ⟨1, nameL j.own, [], segB j.buf, 0, 0⟩ = (a1, m1) := by rw [← ha1, ← hm1]
  rw [hpair] at hcd hcases hApp hxa
  have hc3 : W.cell? ⟨p, 3, none⟩ = some (.int .u64 ((j.own : Nat) : Int)) := hL.blk.cell 3
  have hc0 : W.cell? ⟨p, 0, none⟩ = some (.pointer (some ⟨q, 0, none⟩)) := hL.blk.cell 0
  have HC := Lib.hid (commit_does hH hup (by omega) j.buf hne)
  have HLk := Lib.hid (fun (l : List Fl) (f : Fl) h1 h2 => look_last j.own (by omega) l f h1 h2)
  obtain ⟨N, hN⟩ : ∃ N, nameL j.own = N := ⟨_, rfl⟩
  rw [hN] at hNm hRd hApp hcd hcases hsz
  obtain ⟨T0, hT0⟩ : ∃ T0 : ByteArray, ⟨N.toArray⟩ = T0 := ⟨_, rfl⟩
  rw [hT0] at hNm hRd hApp
  obtain ⟨z, hz⟩ : ∃ z, j.size = z := ⟨_, rfl⟩
  rw [hz] at hRd hsz
  have hz9 : z ≤ 20000 := by
    rw [hsz, ← hN, hH.own_file]
    have h1 : (segB cur).length ≤ sizeF m.files := by
      rw [hH.files]
      unfold sizeF
      rw [List.map_append, List.sum_append]
      split
      · next hc => rw [hc]; simp [segB_nil]
      · simp [sgF]
    omega
  have HA := Lib.hid (And.intro hP (And.intro hL (And.intro hd (And.intro hb (And.intro hnil (And.intro hnc (And.intro hcm (And.intro hSg (And.intro hH (And.intro hfl (And.intro hfs (And.intro hok (And.intro hsl (And.intro hxa (And.intro hcases (And.intro hsure (And.intro hcd (And.intro hN (And.intro hz (And.intro hsz (And.intro how hT0)))))))))))))))))))))
  clear hP hL hd hb hnil hnc hcm hSg hH hfl hfs hok hsl hxa hcases hsure hcd hN hz hsz how hT0 hx hOk hne hnl hsu hra ha1 hm1 hpair hup hbl hS
  go_enter Tryz.func38, Tryz.ntmps38
  go_wp2_with fail
  refine hNm.mono ?_
  rintro e w1 ⟨rfl, hb1⟩
  have d0 : w1.cell? ⟨p, 0, none⟩ = some (.pointer (some ⟨q, 0, none⟩)) := (hb1.cell (p := ⟨p, 0, none⟩) HA.out.2.1.blk.lt).trans hc0
  have hP1 := HA.out.1.below hb1
  have H1 := Lib.hid (And.intro hP1 hb1)
  have hRd1 := hRd w1 hP1
  clear hP1 hb1 hNm hRd hc3 hc0
  go_wp2_with fail
  refine hRd1.mono ?_
  rintro e w2 ⟨v2, rfl, hown2, hb2⟩
  obtain ⟨A2, c2, rfl, hn2, hnc2, hcm2⟩ := own_form hown2
  have hP2 := H1.out.1.below hb2
  have hbb := bthen H1.out.2 hb2
  have hL2 := HA.out.2.1.turn (Turn.of_below (S := fun _ => False) hbb) (fun _ h => h.elim)
  have hK := lkept_any w2 hL2 A2 (some ⟨ab, ao, none⟩) z c2 n1 c1 HA.out.2.2.2.2.2.2.2.2.2.2.2.2.2.2.2.2.2.2.1.symm hn2 hnc2 hcm2
  have H2 := Lib.hid (And.intro hP2 (And.intro hL2 hbb))
  have k0 : w2.cell? ⟨p, 0, none⟩ = some (.pointer (some ⟨q, 0, none⟩)) := hL2.blk.cell 0
  have i1 : (0 : Int) ≤ (n1 : Int) := by omega
  have i2 : n1 ≤ c1 := HA.out.2.2.2.2.2.1
  have i3 : c1 ≤ 9223372036854775807 := by have := HA.out.2.2.2.2.2.2.1; unfold maxLen at this; omega
  clear hRd1 hown2 hb2 hP2 hbb hL2 d0 hn2 hnc2 hcm2
  go_wp2_with fail
  refine hK.mono ?_
  rintro e w3 ⟨rfl, rfl⟩
  obtain ⟨hP3, hL3, hbb3⟩ := H2.out
  obtain ⟨_, _, hd, hb, hnil, hnc, hcm, hSg, hH, hfl, hfs, hok, hsl, hxa, hcases, hsure, hcd, hN, hz, hsz, how, hT0⟩ := HA.out
  have hby : BytS w3 S (some ⟨ab, ao, none⟩) n1 (segB j.buf) := (hb.turn (Turn.of_below hbb3)).less fun k hk => .inl hk
  have hAp := hApp w3 hP3 (some ⟨ab, ao, none⟩) n1 c1 hby hnil
  have hL3b := hL3.blk
  have hn1 : n1 ≤ 11200 := by have := hb.1; omega
  have hdata : (segB (cur ++ j.buf)).length = z + n1 := by
    rw [segB_app, List.length_append, hb.1, hsz, ← hN, hH.own_file]
  have HD := Lib.hid hdata
  have hz9' := hz9
  clear hP3 hby hApp hb hnil hnc hcm hSg hok hsz how hz hdata hK
  by_cases h0 : a1 = 0
  · subst h0
    rw [if_neg (by simp)] at hcd
    obtain ⟨hfil, hdn⟩ : m1.files = pre.map sgF ++ [⟨N, segB (cur ++ j.buf), su⟩] ∧ m1.down = false := by
      rcases hcases with ⟨hx, _⟩ | ⟨m9, hx, _⟩ | ⟨m9, hx, h1, h2, h3, _⟩
      · cases hx
      · cases hx
      · injection hx with _ hx
        rw [hx]
        exact ⟨h1, h3⟩
    have hOk1 : OkD 200 m1 := okd_app hH hxa (by omega) hfl hfs (by omega) hsure (by rw [hN]; exact hfil)
    have hSy := fun W1 S1 (h1 : PD W1 S1 q m1) => psync_any W1 S1 q m1 N h1 hOk1 (by rw [← hN, nameL_len]; omega)
    rw [hT0] at hSy
    obtain ⟨a2, ha2⟩ : ∃ a2, (doD m1 ⟨2, N, [], [], 0, 0⟩).1 = a2 := ⟨_, rfl⟩
    obtain ⟨m2, hm2⟩ : ∃ m2, (doD m1 ⟨2, N, [], [], 0, 0⟩).2 = m2 := ⟨_, rfl⟩
    have hpair : doD m1 ⟨2, N, [], [], 0, 0⟩ = (a2, m2) := by rw [← ha2, ← hm2]
    rw [hpair] at hSy hcd
    have HJ := Lib.hid (And.intro hL3 (And.intro hbb3 (And.intro hd hcd)))
    clear hsl hL3 hbb3 hd hcd hfil hdn hOk1 ha2 hm2 hpair hH hfl hfs hxa hcases hsure hN hT0 hz9
    go_wp2_with fail
    refine hAp.mono ?_
    rintro e w4 ⟨S4, rfl, hP4, hS4, ht4⟩
    have hL4 := HJ.out.1.turn ht4 HJ.out.2.2.1
    have k4 : w4.cell? ⟨p, 0, none⟩ = some (.pointer (some ⟨q, 0, none⟩)) := hL4.blk.cell 0
    have hSy4 := hSy w4 S4 hP4
    have hd4 : ∀ k, S4 k → ¬ T k := fun k hk h => by
      rcases hS4 k hk with h1 | h1
      · exact HJ.out.2.2.1 k h1 h
      · have := (HJ.out.1.here.2 k h).2
        omega
    have ht04 : Turn (fun k => S k ∨ T k) W w4 := (Turn.of_below HJ.out.2.1).trans (ht4.mono fun k hk => .inl hk)
    have hs4 : ∀ k, S4 k → S k ∨ W.heap.size ≤ k := fun k hk => by
      rcases hS4 k hk with h1 | h1
      · exact .inl h1
      · exact .inr (Nat.le_trans HJ.out.2.1.size h1)
    have H4 := Lib.hid (And.intro hL4 (And.intro hd4 (And.intro ht04 hs4)))
    clear hAp hSy hP4 hS4 ht4 hL4 hd4 ht04 hs4 hL3b k0
    go_wp2_with fail
    refine hSy4.mono ?_
    rintro e w5 ⟨S5, rfl, hP5, hS5, ht5⟩
    have hL5 := H4.out.1.turn ht5 H4.out.2.1
    have hs5 : ∀ k, S5 k → S k ∨ W.heap.size ≤ k := fun k hk => by
      rcases hS5 k hk with h1 | h1
      · exact H4.out.2.2.2 k h1
      · exact .inr (Nat.le_trans H4.out.2.2.1.size h1)
    have ht05 : Turn (fun k => S k ∨ T k) W w5 := ⟨ht5.os.trans H4.out.2.2.1.os, ht5.tape.trans H4.out.2.2.1.tape, ht5.output.trans H4.out.2.2.1.output, Nat.le_trans H4.out.2.2.1.size ht5.size, fun k hk hn => (ht5.block k (Nat.lt_of_lt_of_le hk H4.out.2.2.1.size) (fun h => by
      rcases H4.out.2.2.2 k h with h1 | h1
      · exact hn (.inl h1)
      · omega)).trans (H4.out.2.2.1.block k hk hn)⟩
    have hd5 : ∀ k, S5 k → ¬ T k := fun k hk h => by
      rcases hS5 k hk with h1 | h1
      · exact H4.out.2.1 k h1 h
      · have := (H4.out.1.here.2 k h).2
        omega
    by_cases h2 : a2 = 0
    · subst h2
      have hfm : (fileF N m2.files).data.length = z + n1 := by
        have h1 := HC.out
        rw [HJ.out.2.2.2] at h1
        rcases h1 with ⟨_, _, _, _, h1, _⟩ | ⟨h1, _⟩ | ⟨h1, _⟩
        · have h3 : m2.files = pre.map sgF ++ [sgF (j.own, segB (cur ++ j.buf))] := h1
          have h4 := HLk.out (pre.map sgF) (sgF (j.own, segB (cur ++ j.buf))) (fun g hg => (HA.out.2.2.2.2.2.2.2.2.1.ahead g hg).2) rfl
          rw [HA.out.2.2.2.2.2.2.2.2.2.2.2.2.2.2.2.2.2.1] at h4
          unfold fileF
          rw [h3, h4]
          exact HD.out
        · cases h1
        · cases h1
      obtain ⟨L, hL⟩ : ∃ L, z + n1 = L := ⟨_, rfl⟩
      have e7 : (z : Int) + (n1 : Int) = (L : Int) := by omega
      have hGr := lgrow_any w5 hL5 L (by omega) (by have := HA.out.2.2.2.2.2.2.2.2.2.2.2.2.2.2.2.2.2.2.2.2.1; omega)
      have H5 := Lib.hid (And.intro hP5 (And.intro hs5 (And.intro ht05 (And.intro hd5 (And.intro (hfm.trans hL) HJ.out.2.2.2)))))
      have hL9 : L ≤ 40000 := by omega
      clear hSy4 hP5 hS5 ht5 hL5 hs5 ht05 hd5 hfm hL k4
      go_wp2_with fail
      refine hGr.mono ?_
      rintro e w6 ⟨rfl, hL6, ht6⟩
      have H6 := Lib.hid (And.intro hL6 ht6)
      clear hGr hL6 ht6
      go_wp2_with fail
      go_ret
      obtain ⟨g1, g2, g3, g4, g5, g6⟩ := H5.out
      rw [g6]
      refine ⟨rfl, S5, g1.turn H6.out.2 (fun k hk h => g4 k h (by rw [hk]; exact (HJ.out.1.here).1)), g2, g3.trans (H6.out.2.mono fun k hk => .inr (by rw [hk]; exact (HJ.out.1.here).1)), ?_⟩
      rw [if_pos rfl]
      show LDat w6 T p q (grewJ j (fileF (nameL j.own) m2.files).data.length j.buf) _ _
      rw [HA.out.2.2.2.2.2.2.2.2.2.2.2.2.2.2.2.2.2.1, g5]
      exact H6.out.1
    · have H5 := Lib.hid (And.intro hP5 (And.intro hs5 (And.intro ht05 (And.intro hL5 HJ.out.2.2.2))))
      clear hSy4 hP5 hS5 ht5 hL5 hs5 ht05 hd5 k4
      go_wp2_with fail
      go_ret
      obtain ⟨g1, g2, g3, g4, g5⟩ := H5.out
      rw [g5]
      refine ⟨rfl, S5, g1, g2, g3, ?_⟩
      rw [if_neg h2]
      exact g4
  · rw [if_pos (show a1 ≠ 0 from h0)] at hcd
    have HJ := Lib.hid (And.intro hL3 (And.intro hbb3 (And.intro hd hcd)))
    clear hsl hL3 hbb3 hd hcd hH hfl hfs hxa hcases hsure hN hT0 hz9
    go_wp2_with fail
    refine hAp.mono ?_
    rintro e w4 ⟨S4, rfl, hP4, hS4, ht4⟩
    have hL4 := HJ.out.1.turn ht4 HJ.out.2.2.1
    have H4 := Lib.hid (And.intro hP4 (And.intro hS4 (And.intro ht4 hL4)))
    clear hAp hP4 hS4 ht4 hL4
    go_wp2_with fail
    go_ret
    obtain ⟨g1, g2, g3, g4⟩ := H4.out
    rw [HJ.out.2.2.2]
    refine ⟨rfl, S4, g1, fun k hk => ?_, (Turn.of_below HJ.out.2.1).trans (g3.mono fun k hk => .inl hk), ?_⟩
    · rcases g2 k hk with h1 | h1
      · exact .inl h1
      · exact .inr (Nat.le_trans HJ.out.2.1.size h1)
    · rw [if_neg h0]
      exact g4

end Go.Proofs.YthjikbhjciphiaaGreatDoor

/-
  The program's journal: Commit.
-/
namespace Go.Proofs.YthjikbhjciphiaaGreatDoor
open Go.RowKit
set_option linter.unusedVariables false
set_option linter.unusedSimpArgs false

/-- What a commit leaves. -/
def CmPost (W : World) (S T : Nat → Prop) (p q : Nat) (r : Dk × Jn) (W' : World) : Prop :=
  ∃ S' T' A' c', PD W' S' q r.1 ∧ LDat W' T' p q r.2 A' c' ∧ (∀ k, S' k → ¬ T' k) ∧ (∀ k, S' k → S k ∨ W.heap.size ≤ k) ∧ (∀ k, T' k → T k ∨ W.heap.size ≤ k) ∧ Turn (fun k => S k ∨ T k) W W'

set_option maxRecDepth 100000 in
set_option maxHeartbeats 800000 in
theorem lcommit_any (W : World) (S T : Nat → Prop) (p q c : Nat) (m : Dk) (j : Jn) (A : Option Addr) (pre : List (Nat × List UInt8)) (R0 cur : List Rc)
    (hS : SV W) (hSg : ∀ w, Turn (fun k => S k ∨ T k) W w → SV w) (hP : PD W S q m) (hL : LDat W T p q j A c) (hd : ∀ k, S k → ¬ T k) (hO : OkJ m) (hbl : j.buf.length ≤ 200) (hok : ∀ r ∈ j.buf, okRc r) (hH : HeldJ m.files j.own pre R0 cur) (hsz : j.size = (fileF (nameL j.own) m.files).data.length) (hup : m.down = false) (how : j.own < 1000000000) :
    Calls Tryz.prog 14 #[.pointer (some ⟨p, 0, none⟩)] W fun e W' => e = .returned (.int .i64 (commitJ m j).1) ∧ CmPost W S T p q (commitJ m j).2 W' := by
  have hmf : ∀ (fn : Fn) (first cap : Array Value) (w : World), (Instr.makeFunc fn first cap).run Tryz.prog w = .ok (.func fn first cap) w := fun _ _ _ _ => rfl
  have c2 : W.cell? ⟨p, 2, none⟩ = some (.slice A j.buf.length c) := hL.blk.cell 2
  have hplt := hL.blk.lt
  by_cases hne : j.buf = []
  · have e : commitJ m j = (0, m, j) := by
      unfold commitJ commitD
      rw [if_pos hne]
      simp [hne]
    rw [e]
    rw [hne] at c2
    have HH := Lib.hid (And.intro hP (And.intro hL hd))
    clear hS hSg hP hL hd hO hbl hok hH hsz hup how hne e hmf
    go_enter Tryz.func14, Tryz.ntmps14
    go_wp2_with fail
    go_ret
    exact ⟨rfl, S, T, A, c, HH.out.1, HH.out.2.1, HH.out.2.2, fun k hk => .inl hk, fun k hk => .inl hk, Turn.refl _ _⟩
  · have hpos := List.length_pos_iff.2 hne
    have h0 : ((j.buf.length : Int) == 0) = false := by simp; omega
    have h00 : ¬ (j.buf.length : Int) = 0 := by omega
    have hb1 : Below W.heap.size W (W.alloc (.cells #[.slice none 0 0] 72)) := (Below.refl _ W).alloc (Nat.le_refl _) _
    have hL1 := hL.turn (Turn.of_below (S := fun _ => False) hb1) (fun _ h => h.elim)
    have hEa := leach_any (W.alloc (.cells #[.slice none 0 0] 72)) T p q c W.heap.size j A hL1 ⟨none, 0, Blk.new W _ _ rfl, World.ownsRow_nil _ _ _ _⟩ (hS.below hb1) (fun w hw => hS.below (hb1.trans hw)) hok hbl (fun k hk => (hL.here.2 k hk).2)
    have hWr := fun w A1 n1 c1 h1 h2 h3 h4 h5 h6 h7 h8 => lwrite_any w S T p q c m j A pre R0 cur A1 n1 c1 h1 h2 h3 h4 hd hO hbl hok hH hsz hup how hne h5 h6 h7 h8
    have hcj : commitJ m j = ((commitD m j.own j.buf).1, (commitD m j.own j.buf).2, if (commitD m j.own j.buf).1 = 0 then ⟨if 256 ≤ (fileF (nameL j.own) (commitD m j.own j.buf).2.files).data.length then j.own + 1 else j.own, j.next, j.next - 1, [], if 256 ≤ (fileF (nameL j.own) (commitD m j.own j.buf).2.files).data.length then 0 else (fileF (nameL j.own) (commitD m j.own j.buf).2.files).data.length⟩ else j) := by
      unfold commitJ
      simp [hne]
    rw [hcj]
    obtain ⟨r, hr⟩ : ∃ r, commitD m j.own j.buf = r := ⟨_, rfl⟩
    obtain ⟨a, m'⟩ := r
    rw [hr] at hWr
    rw [hr]
    obtain ⟨R, hR⟩ : ∃ R, (if a = 0 then (⟨if 256 ≤ (fileF (nameL j.own) m'.files).data.length then j.own + 1 else j.own, j.next, j.next - 1, [], if 256 ≤ (fileF (nameL j.own) m'.files).data.length then 0 else (fileF (nameL j.own) m'.files).data.length⟩ : Jn) else j) = R := ⟨_, rfl⟩
    show Calls Tryz.prog _ _ W fun e W' => e = .returned (.int .i64 a) ∧ CmPost W S T p q (m', if a = 0 then (⟨if 256 ≤ (fileF (nameL j.own) m'.files).data.length then j.own + 1 else j.own, j.next, j.next - 1, [], if 256 ≤ (fileF (nameL j.own) m'.files).data.length then 0 else (fileF (nameL j.own) m'.files).data.length⟩ : Jn) else j) W'
    rw [hR]
    have HR := Lib.hid hR
    clear hR
    have HH := Lib.hid (And.intro hP (And.intro hL (And.intro hd (And.intro hS (And.intro hSg hb1)))))
    clear hP hL hd hS hSg hO hbl hok hH hsz hup how hcj hr hL1 hb1
    simp only at hWr
    go_enter Tryz.func14, Tryz.ntmps14
    go_wp2_with fail
    refine hEa.mono ?_
    rintro e w2 ⟨rfl, ⟨A1, c1, hB2, ho2⟩, hb2⟩
    have k0 : w2.cell? ⟨W.heap.size, 0, none⟩ = some (.slice A1 (segB j.buf).length c1) := hB2.cell 0
    obtain ⟨hP, hL, hd, hS, hSg, hb1⟩ := HH.out
    have hb3 : Below W.heap.size W w2 := hb1.trans hb2
    obtain ⟨f1, f2, f3, f4⟩ := own_lenA ho2
    have hST : ∀ k, S k ∨ T k → k < W.heap.size := fun k hk => by
      rcases hk with h | h
      · obtain ⟨_, _, _, _, _, hp⟩ := hP
        exact hp.lt k h
      · exact (hL.here.2 k h).2
    have hWr2 := hWr w2 A1 (segB j.buf).length c1 (hS.below hb3) (fun w hw => hSg w ((Turn.of_below hb3).trans hw)) (hP.below hb3) (hL.turn (Turn.of_below (S := fun _ => False) hb3) (fun _ h => h.elim)) (BytS.of_own ho2 (fun k hk => by have := hST k hk; omega)) f3 f1 f2
    have HB3 := Lib.hid hb3
    clear hP hL hd hS hSg hb1 hB2 ho2 hb2 hb3 f1 f2 f3 f4 hST hWr hEa
    go_wp2_with fail
    refine hWr2.mono ?_
    rintro e w3 ⟨rfl, S3, hP3, hS3, ht3, hL3⟩
    have hd3 : ∀ k, S3 k → ¬ T k := fun k hk h => by
      rcases hS3 k hk with h1 | h1
      · exact HH.out.2.2.1 k h1 h
      · have := (HH.out.2.1.here.2 k h).2
        have := HB3.out.size
        omega
    have ht03 : Turn (fun k => S k ∨ T k) W w3 := (Turn.of_below HB3.out).trans ht3
    have hs3 : ∀ k, S3 k → S k ∨ W.heap.size ≤ k := fun k hk => by
      rcases hS3 k hk with h1 | h1
      · exact .inl h1
      · exact .inr (Nat.le_trans HB3.out.size h1)
    by_cases ha : a = 0
    · subst ha
      rw [if_pos rfl] at hL3
      obtain ⟨L, hLl⟩ : ∃ L, (fileF (nameL j.own) m'.files).data.length = L := ⟨_, rfl⟩
      have HR2 := Lib.hid (show (⟨if 256 ≤ L then j.own + 1 else j.own, j.next, j.next - 1, [], if 256 ≤ L then 0 else L⟩ : Jn) = R by rw [← HR.out, if_pos rfl, hLl])
      have hL3 : LDat w3 T p q (grewJ j (fileF (nameL j.own) m'.files).data.length j.buf) A c := hL3
      rw [hLl] at hL3
      have hB3 := hL3.blk
      have y2 : w3.cell? ⟨p, 2, none⟩ = some (.slice A j.buf.length c) := hB3.cell 2
      have yz := hB3.frozen 2
      have hplt3 := hB3.lt
      have H3 := Lib.hid (And.intro hP3 (And.intro hs3 (And.intro ht03 (And.intro hL3 hd3))))
      clear hP3 hS3 ht3 hL3 hd3 ht03 hs3 hWr2 c2 k0 hB3 hLl HR
      go_wp2_with fail
      go_ret
      obtain ⟨g1, g2, g3, g4, g5⟩ := H3.out
      rw [← HR2.out]
      have ht4 : Turn (fun k => k = p) w3 (w3.setCell ⟨p, 2, none⟩ (.slice none 0 0)) := (Turn.refl (fun k => k = p) w3).setCell (p := ⟨p, 2, none⟩) rfl _
      have hTp := g4.here.1
      refine ⟨rfl, S3, fun k => k = p, none, 0, g1.turn ht4 (fun k hk h => g5 k h (by rw [hk]; exact hTp)), ⟨?_, ?_, fun k => ?_, ?_, ?_⟩, fun k hk h => g5 k hk (by rw [h]; exact hTp), g2, fun k hk => .inl (by rw [hk]; exact hTp), g3.trans (ht4.mono fun k hk => .inr (by rw [hk]; exact hTp))⟩
      · exact g4.blk.set 2 (.slice none 0 0)
      · exact World.ownsRow_nil _ _ _ _
      · simp
      · have := g4.next
        show j.next = j.next - 1 + 1 + 0
        have h5 : j.next = j.sure + 1 + j.buf.length := this
        omega
      · exact g4.small
    · rw [if_neg ha] at hL3
      have H3 := Lib.hid (And.intro hP3 (And.intro hs3 (And.intro ht03 (And.intro hL3 hd3))))
      clear hP3 hS3 ht3 hL3 hd3 ht03 hs3 hWr2 c2 k0
      go_wp2_with fail
      go_ret
      obtain ⟨g1, g2, g3, g4, g5⟩ := H3.out
      rw [← HR.out, if_neg ha]
      exact ⟨rfl, S3, T, A, c, g1, g4, g5, g2, fun k hk => .inl hk, g3⟩

end Go.Proofs.YthjikbhjciphiaaGreatDoor
