/-
  The program's disk: Append.
-/
import Derived.Test.YtikghnbhbehepaaZz15
import Derived.Deep.RegionHeld3
import Derived.Deep.CutRange
import Derived.Shelf.SlIter.Nil
import Derived.Shelf.SortM.Plain
import Derived.Shelf.SortM.SortNone
import Derived.Ground.GgzProg
import Derived.Ground.SlgmProg
import Derived.Test.YtikghnbhbehepaaProg
namespace Go.Proofs.Ytikghnbhbehepaa
open Go.RowKit
set_option linter.unusedVariables false
set_option linter.unusedSimpArgs false

theorem Turn.also {S T : Nat → Prop} {W w w' : World} (h : Turn S W w) (k : Turn T w w') (hT : ∀ j, T j → S j ∨ W.heap.size ≤ j) : Turn S W w' :=
  ⟨k.os.trans h.os, k.tape.trans h.tape, k.output.trans h.output, Nat.le_trans h.size k.size, fun j hj hs => (k.block j (Nat.lt_of_lt_of_le hj h.size) (fun e => by
    rcases hT j e with h1 | h1
    · exact hs h1
    · omega)).trans (h.block j hj hs)⟩
theorem with_with (f g : Fl) (l : List Fl) (h : SrtF l) (hn : f.name = g.name) : withF f false (withF g false l) = withF f false l := by
  refine srt_ext _ _ (srt_with f _ false (srt_with g l false h (fun e => by cases e)) (fun e => by cases e)) (srt_with f l false h (fun e => by cases e)) fun t => ?_
  rw [look_with, look_with, look_with, hn]
  split <;> rfl
theorem pcall_app (m : Dk) (s d : List UInt8) (ht : targetB s = true) (hl : m.files.length < 1024) : callD m ⟨1, s, [], d, 0, 0⟩ = if m.cap - sizeF m.files < (d.length : Int) then (10, m) else (0, withFs m (withF ⟨s, (fileF s m.files).data ++ d, (fileF s m.files).sure⟩ false m.files)) := by
  unfold callD
  have e : decide (1024 ≤ m.files.length) = false := decide_eq_false (by omega)
  simp only [ht, e]
  simp

section
variable {w w1 : World} {S : Nat → Prop} {q mb l n : Nat} {m : Dk} {kp : Int} {L : List (List UInt8 × Value)} {G : List UInt8 → Option FM} {s data : List UInt8} {x : FM} {v' : Value}
/-- What is left when a file's bytes have grown, and stand in it. -/
theorem papp_tail (h : PDat w S q m mb l kp L G) (hx : G s = some x) (hfn : x.f.name = s) (hn : data.length = n) (hown : w1.ownsRow 0 5 1 v' (x.f.data.length + n) (x.f.data.map bv ++ data.map bv)) (hgr : w.grownBy w1 (Value.slice x.A x.f.data.length x.c).ownBlock)
    (hat : v'.ownBlock = (Value.slice x.A x.f.data.length x.c).ownBlock ∨ v'.ownBlock = some w.heap.size) :
    w1.cell? ⟨x.g, 0, none⟩ = some (.slice x.A x.f.data.length x.c) ∧ w1.frozen? ⟨x.g, 0, none⟩ = false ∧ (∃ A' c', v' = .slice A' (x.f.data.length + n) c') ∧
    (∃ G', PDat (w1.setCell ⟨x.g, 0, none⟩ v') (fun k => S k ∨ (w.heap.size ≤ k ∧ k < w1.heap.size)) q (withFs m (withF ⟨s, x.f.data ++ data, x.f.sure⟩ false m.files)) mb l kp L G') ∧ Turn x.blks w (w1.setCell ⟨x.g, 0, none⟩ v') := by
  have hxa := h.at_ s x hx
  have htw := h.sep.two s x
  have hgl : x.g < w.heap.size := hxa.1.lt
  have hb1 : Turn (fun k => ∃ a, x.A = some a ∧ k = a.block) w w1 := by
    refine ⟨hgr.os, hgr.tape, hgr.output, hgr.size, fun k hk hne => hgr.block k hk fun e => hne ?_⟩
    cases hA : x.A with
    | none => rw [hA] at e; cases e
    | some a => rw [hA] at e; exact ⟨a, rfl, Option.some.inj e⟩
  have hB := hb1.blk hxa.1 (fun ⟨a, ha, e⟩ => htw a hx ha e.symm)
  obtain ⟨A', c', rfl, hf1, hf2, hf3⟩ := own_form hown
  have ht2 : Turn (fun k => k = x.g) w1 (w1.setCell ⟨x.g, 0, none⟩ (.slice A' (x.f.data.length + n) c')) := (Turn.refl (fun k => k = x.g) w1).setCell (p := ⟨x.g, 0, none⟩) rfl _
  have ht : Turn x.blks w (w1.setCell ⟨x.g, 0, none⟩ (.slice A' (x.f.data.length + n) c')) := (hb1.mono fun k hk => .inr hk).trans (ht2.mono fun k hk => .inl hk)
  have hA' : ∀ a, A' = some a → (x.A = some ⟨a.block, 0, none⟩ ∨ a.block = w.heap.size) ∧ a.block < w1.heap.size := by
    intro a ha
    subst ha
    have hlt := hown.lt a.block rfl
    refine ⟨?_, hlt.2⟩
    rcases hat with e | e
    · left
      cases hA : x.A with
      | none => rw [hA] at e; cases e
      | some a2 =>
        rw [hA] at e
        have e2 : a.block = a2.block := Option.some.inj e
        rcases hxa.2.2 with ⟨h1, _⟩ | ⟨g2, cap2, cur2, h1, _⟩
        · rw [hA] at h1; cases h1
        · rw [hA] at h1
          injection h1 with h1
          rw [e2, Option.some.inj h1]
    · right
      exact Option.some.inj e
  have hne : ∀ a, A' = some a → a.block ≠ x.g := by
    intro a ha
    rcases (hA' a ha).1 with e | e
    · exact htw ⟨a.block, 0, none⟩ hx e
    · omega
  have hy : FM.at_ (w1.setCell ⟨x.g, 0, none⟩ (.slice A' (x.f.data.length + n) c')) ⟨⟨s, x.f.data ++ data, x.f.sure⟩, x.g, A', c'⟩ := by
    have hlen : (x.f.data ++ data).length = x.f.data.length + n := by rw [List.length_append, hn]
    refine ⟨?_, ?_⟩
    · show Blk _ x.g _ [.slice A' (x.f.data ++ data).length c', .int .i64 ((x.f.sure : Nat) : Int)]
      rw [hlen]
      exact hB.set 0 (.slice A' (x.f.data.length + n) c')
    · show World.ownsRow _ 0 _ 1 (.slice A' (x.f.data ++ data).length c') (x.f.data ++ data).length ((x.f.data ++ data).map bv)
      rw [hlen, List.map_append]
      exact own_turn hown ht2 hne
  refine ⟨hB.cell 0, hB.frozen 0, ⟨A', c', rfl⟩, ⟨_, h.set (S' := fun k => S k ∨ (w.heap.size ≤ k ∧ k < w1.heap.size)) (y := ⟨⟨s, x.f.data ++ data, x.f.sure⟩, x.g, A', c'⟩) hx rfl rfl ht (fun k hk => hk) hy (fun k hk => .inl hk) (fun k hk => ?_) (fun k hk => ?_) hne⟩, ht⟩
  · rcases hk with e | ⟨a, ha, e⟩
    · exact .inl (.inl e)
    · have h1 := hA' a ha
      rcases h1.1 with h2 | h2
      · exact .inl (.inr ⟨_, h2, e⟩)
      · exact .inr ⟨by omega, .inr ⟨by omega, by omega⟩⟩
  · have hs : (w1.setCell ⟨x.g, 0, none⟩ (.slice A' (x.f.data.length + n) c')).heap.size = w1.heap.size := by simp [World.setCell]
    rw [hs]
    rcases hk with e | e
    · have := h.lt k e
      have := hb1.size
      omega
    · exact e.2
end

set_option maxRecDepth 100000 in
set_option maxHeartbeats 2000000 in
theorem pappend_any (W : World) (S : Nat → Prop) (q : Nat) (m : Dk) (name data : List UInt8) (A : Option Addr) (n c : Nat) (h : PD W S q m) (hO : OkD 200 m) (hl : name.length ≤ 100) (hd : data.length ≤ 200) (hda : BytS W S A n data) (hnil : A = none → n = 0 ∧ c = 0) :
    Calls Try.prog 42 #[.pointer (some ⟨q, 0, none⟩), .string ⟨name.toArray⟩, .slice A n c] W (StepPost PD S q (doD m ⟨1, name, [], data, 0, 0⟩) W) := by
  have hB := phead_any W S q m [name] #[.string ⟨name.toArray⟩] 1 h hO rfl (by omega) (fun s hs => by have := List.mem_singleton.1 hs; rw [this]; omega) rfl
  obtain ⟨r, hr⟩ : ∃ r, beginR m [name] = r := ⟨_, rfl⟩
  obtain ⟨m1, hm1⟩ : ∃ m1, (beginD m).2 = m1 := ⟨_, rfl⟩
  have hfit := begin_fit hO
  have hcap := (begin_ok hO).cap
  rw [hm1] at hfit hB hcap
  rw [hr] at hB
  obtain ⟨T, hT⟩ : ∃ T : ByteArray, ⟨name.toArray⟩ = T := ⟨_, rfl⟩
  have hTl : T.data.toList = name := by rw [← hT]
  have hTs : T.size ≤ 10000 := by rw [← hT]; show name.toArray.size ≤ _; simp; omega
  rw [hT] at hB ⊢
  have HT := Lib.hid (And.intro hTl hTs)
  clear hT hTl hTs
  have hnd : n ≤ 200 := by have := hda.1; omega
  have HDA := Lib.hid (And.intro hda hnil)
  clear hda hnil
  by_cases h0 : r = 0
  · subst h0
    obtain ⟨hb1, hb2⟩ := begin_past m [name] hr
    have hta : targetB name = true := by simpa using hb2
    have hE := do_call m ⟨1, name, [], data, 0, 0⟩ rfl hb1
    rw [hm1, pcall_app m1 name data hta (by omega)] at hE
    rw [hE]
    have HF := Lib.hid (And.intro hfit hcap)
    clear hE hb1 hb2 hta hr h hO hfit hm1 hcap hd
    obtain ⟨C, hC⟩ : ∃ C, m1.cap = C := ⟨_, rfl⟩
    obtain ⟨Z, hZ⟩ : ∃ Z, sizeF m1.files = Z := ⟨_, rfl⟩
    have hC0 : 0 ≤ C ∧ C < 9223372036854775808 := by rw [← hC]; exact HF.out.2
    obtain ⟨hC1, hC2⟩ := hC0
    have hZ0 : Z ≤ 40000 := by rw [← hZ]; exact HF.out.1.2.1
    rw [hC, hZ, HDA.out.1.1]
    have HC := Lib.hid (And.intro hC hZ)
    clear hC hZ
    obtain ⟨iu, hiu, hu0, hu1, hu2⟩ := info_parts Try.infoByte
    cases hlo : lookF name m1.files with
    | none =>
      have HLO := Lib.hid hlo
      clear hlo
      by_cases hfu : C - (Z : Int) < (n : Int)
      · rw [if_pos hfu]
        have d3 : decide (C - (Z : Int) < (n : Int)) = true := decide_eq_true hfu
        have d4 : decide ((n : Int) > C - (Z : Int)) = true := d3
        have e7 : IntKind.i64.wrap (C - (Z : Int)) = C - (Z : Int) := IntWalk.i64_in _ ⟨by omega, by omega⟩
        clear hC1 hC2 hZ0 hfu
        go_enter Try.func42, Try.ntmps42
        go_wp2_with fail
        refine hB.mono ?_
        rintro e W1 ⟨rfl, ⟨mb, l, kp, L, G, h1⟩, ht1⟩
        have c1 : W1.cell? ⟨q, 1, none⟩ = some (.map (some mb)) := h1.blk.cell 1
        have c0 : W1.cell? ⟨q, 0, none⟩ = some (.int .i64 C) := by rw [← HC.out.1]; exact h1.blk.cell 0
        have hsz := fun w (hb : Below W1.heap.size W1 w) => psize_any w (h1.below hb) (by have := HF.out.1.2.1; omega)
        rw [HC.out.2] at hsz
        have hq := h1.blk.lt
        have HBD : Hid (∀ w, Below W1.heap.size W1 w → Below W1.heap.size W1 w) := Lib.hid (fun w h => h)
        have hlk1 := look_no h1 T HT.out.2 (by rw [HT.out.1]; exact HLO.out) W1 h1.map
        have hmlen := h1.map.len Try.underlying59 3
        have hL : L.length ≤ 200 := by rw [h1.len]; exact HF.out.1.1
        obtain ⟨N, hN⟩ : ∃ N, L.length = N := ⟨_, rfl⟩
        rw [hN] at hmlen hL
        have d5 : decide ((1024 : Int) ≤ (N : Int)) = false := decide_eq_false (by omega)
        have d6 : decide ((N : Int) ≥ 1024) = false := d5
        have HN := Lib.hid hN
        have HH := Lib.hid (And.intro h1 ht1)
        clear hB h1 ht1 hN
        go_wp2_with fail
        go_cut [45] from 36 to 45 (fun s45 wx => s45 = .bool true ∧ Below W1.heap.size W1 wx)
        case first =>
          go_region_held3 (fun w' => w'.cell? ⟨q, 0, none⟩ = some (.int .i64 C)) (first | exact t0 | exact c0 | go_keep)
            ((go_at_call 53; refine (hsz _ (below_drewN (Below.refl _ _) 1)).mono ?_; rintro e w7 ⟨rfl, hb7⟩; have t0 := (hb7.cell (p := ⟨q, 0, none⟩) hq).trans c0; have hb8 := HBD.out w7 (bthen (below_drewN (Below.refl _ W1) 1) hb7)))
          all_goals
            go_wp2_with fail
            go_meet
            exact ⟨rfl, hb8⟩
        case rest =>
          obtain ⟨rfl, hb⟩ := hcut
          have HBB := Lib.hid hb
          clear hb
          go_wp2_with fail
          go_ret
          exact ⟨S, rfl, ⟨_, _, _, _, _, HH.out.1.below HBB.out⟩, fun k hk => .inl hk, HH.out.2.trans (Turn.of_below HBB.out)⟩
      · rw [if_neg hfu]
        have d3 : decide (C - (Z : Int) < (n : Int)) = false := decide_eq_false hfu
        have d4 : decide ((n : Int) > C - (Z : Int)) = false := d3
        have e7 : IntKind.i64.wrap (C - (Z : Int)) = C - (Z : Int) := IntWalk.i64_in _ ⟨by omega, by omega⟩
        clear hC1 hC2 hZ0 hfu
        go_enter Try.func42, Try.ntmps42
        go_wp2_with fail
        refine hB.mono ?_
        rintro e W1 ⟨rfl, ⟨mb, l, kp, L, G, h1⟩, ht1⟩
        have c1 : W1.cell? ⟨q, 1, none⟩ = some (.map (some mb)) := h1.blk.cell 1
        have c0 : W1.cell? ⟨q, 0, none⟩ = some (.int .i64 C) := by rw [← HC.out.1]; exact h1.blk.cell 0
        have hsz := fun w (hb : Below W1.heap.size W1 w) => psize_any w (h1.below hb) (by have := HF.out.1.2.1; omega)
        rw [HC.out.2] at hsz
        have hq := h1.blk.lt
        have HBD : Hid (∀ w, Below W1.heap.size W1 w → Below W1.heap.size W1 w) := Lib.hid (fun w h => h)
        have hlk1 := look_no h1 T HT.out.2 (by rw [HT.out.1]; exact HLO.out) W1 h1.map
        have hmlen := h1.map.len Try.underlying59 3
        have hL : L.length ≤ 200 := by rw [h1.len]; exact HF.out.1.1
        obtain ⟨N, hN⟩ : ∃ N, L.length = N := ⟨_, rfl⟩
        rw [hN] at hmlen hL
        have d5 : decide ((1024 : Int) ≤ (N : Int)) = false := decide_eq_false (by omega)
        have d6 : decide ((N : Int) ≥ 1024) = false := d5
        have HN := Lib.hid hN
        have HH := Lib.hid (And.intro h1 ht1)
        clear hB h1 ht1 hN
        go_wp2_with fail
        go_cut [45] from 36 to 45 (fun s45 wx => s45 = .bool false ∧ Below W1.heap.size W1 wx)
        case first =>
          go_region_held3 (fun w' => w'.cell? ⟨q, 0, none⟩ = some (.int .i64 C)) (first | exact t0 | exact c0 | go_keep)
            ((go_at_call 53; refine (hsz _ (below_drewN (Below.refl _ _) 1)).mono ?_; rintro e w7 ⟨rfl, hb7⟩; have t0 := (hb7.cell (p := ⟨q, 0, none⟩) hq).trans c0; have hb8 := HBD.out w7 (bthen (below_drewN (Below.refl _ W1) 1) hb7)))
          all_goals
            go_wp2_with fail
            go_meet
            exact ⟨rfl, hb8⟩
        case rest =>
          obtain ⟨rfl, hb⟩ := hcut
          obtain ⟨h1, ht1⟩ := HH.out
          have h2 := h1.below hb
          have ht2 : Turn S W wc := ht1.trans (Turn.of_below hb)
          have h3 := h2.below ((Below.refl _ wc).alloc (Nat.le_refl _) (.cells #[.slice none 0 0, .int .i64 0] 79))
          have hg0 : Blk (wc.alloc (.cells #[.slice none 0 0, .int .i64 0] 79)) wc.heap.size 79 [.slice none 0 0, .int .i64 0] := Blk.new wc _ _ rfl
          have hgS : ¬ S wc.heap.size := fun e => by have := h2.lt _ e; omega
          obtain ⟨w4, hup, hm4, htu4⟩ := h3.map.put (Maps.string_keyed Try.underlying9) Try.underlying59 (by have h := HN.out; unfold maxLen; omega) T (.pointer (some ⟨wc.heap.size, 0, none⟩)) (key_mk T HT.out.2)
          have ht4 := turn_of_map htu4
          rw [HT.out.1] at hm4
          have hy : FM.at_ w4 ⟨⟨name, [], 0⟩, wc.heap.size, none, 0⟩ := ⟨ht4.blk hg0 (fun e => by have e' : wc.heap.size = mb := e; rw [e'] at hgS; exact hgS h2.sm), World.ownsRow_nil _ _ _ _⟩
          have hs3 : (wc.alloc (.cells #[.slice none 0 0, .int .i64 0] 79)).heap.size = wc.heap.size + 1 := by simp
          have h4 := h3.put (S' := fun k => S k ∨ k = wc.heap.size) (y := ⟨⟨name, [], 0⟩, wc.heap.size, none, 0⟩) rfl ht4 hm4 hy (fun k hk => .inl hk) (fun k hk => by
            rcases hk with e | ⟨a, ha, _⟩
            · refine ⟨.inr e, fun e2 => ?_, fun e2 => ?_⟩
              · have := h2.lt q h2.sq; have e' : k = wc.heap.size := e; omega
              · have := h2.lt mb h2.sm; have e' : k = wc.heap.size := e; omega
            · cases ha) (fun t z k hts hz hk hk2 => by
            rcases hk2 with e | ⟨a, ha, _⟩
            · have := h2.lt k (h2.sep.inS t z k hz hk).1
              have e' : k = wc.heap.size := e
              omega
            · cases ha) (fun k hk => by
            have h5 := ht4.size
            rcases hk with hk | hk
            · have := h2.lt k hk; omega
            · omega) (fun a ha => by cases ha)
          have ht5 : Turn S W w4 := (ht2.alloc _).trans (ht4.mono fun k e => by rw [e]; exact h2.sm)
          have hby := (HDA.out.1.turn ht5).byt
          have k0 : w4.cell? ⟨wc.heap.size, 0, none⟩ = some (.slice none 0 0) := hy.1.cell 0
          have c4 : (wc.alloc (.cells #[.slice none 0 0, .int .i64 0] 79)).cell? ⟨q, 1, none⟩ = some (.map (some mb)) := h3.blk.cell 1
          have hown : w4.ownsRow 0 5 1 (.slice none 0 0) 0 [] := World.ownsRow_nil _ _ _ _
          have H4 := Lib.hid (And.intro h4 (And.intro ht5 ht2.size))
          have hqc := h2.blk.lt
          have c1w : wc.cell? ⟨q, 1, none⟩ = some (.map (some mb)) := h2.blk.cell 1
          clear h1 ht1 h2 ht2 h3 hg0 hgS hm4 htu4 ht4 hy h4 ht5 hb c0 c1 hlk1 hsz hq hs3 hmlen
          go_wp2_with (at_builtin; refine wpList_append_byt_at w4 rfl _ _ 44 rfl 0 5 iu (.int .u8 0) Try.underlying44 hiu hu0 hu1 hu2 rfl _ 0 [] rfl hown w4.heap.size A n c data rfl hby (fun e => (HDA.out.2 e).2) (by omega) (Nat.zero_le _) ?_)
          intro v8 w8 hown8 hgr8 hat8
          obtain ⟨y0, yz, ⟨A8, c8, rfl⟩, ⟨G8, h8⟩, ht8⟩ := papp_tail (s := name) (x := ⟨⟨name, [], 0⟩, wc.heap.size, none, 0⟩) H4.out.1 (by unfold upG; rw [if_pos rfl]) rfl HDA.out.1.1 (by simpa using hown8) hgr8 hat8
          simp only [List.length_nil, Nat.zero_add] at h8 ht8
          have H8 := Lib.hid (And.intro h8 (And.intro ht8 hgr8.size))
          clear hown8 hgr8 hat8 h8 ht8 hown hby k0
          go_wp2_with fail
          go_ret
          obtain ⟨h8, ht8, hs8⟩ := H8.out
          have hE2 : fileF name m1.files = ⟨name, [], 0⟩ := fileF_none name m1.files HLO.out
          refine ⟨fun k => (S k ∨ k = wc.heap.size) ∨ (w4.heap.size ≤ k ∧ k < w8.heap.size), rfl, ⟨mb, l, kp, putM name (.pointer (some ⟨wc.heap.size, 0, none⟩)) L, G8, ?_⟩, fun k hk => ?_, H4.out.2.1.also ht8 fun k hk => ?_⟩
          · show PDat _ _ q (withFs m1 (withF ⟨name, (fileF name m1.files).data ++ data, (fileF name m1.files).sure⟩ false m1.files)) mb l kp _ G8
            rw [hE2, ← with_with ⟨name, [] ++ data, 0⟩ ⟨name, [], 0⟩ m1.files HH.out.1.srt rfl]
            exact h8
          · have h9 := H4.out.2.1.size
            have h10 := H4.out.2.2
            rcases hk with (hk | hk) | hk
            · exact .inl hk
            · exact .inr (by omega)
            · exact .inr (by omega)
          · rcases hk with e | ⟨a, ha, _⟩
            · exact .inr (by have e' : k = wc.heap.size := e; have := H4.out.2.2; omega)
            · cases ha
    | some f =>
      have HLO := Lib.hid hlo
      clear hlo
      by_cases hfu : C - (Z : Int) < (n : Int)
      · rw [if_pos hfu]
        have d3 : decide (C - (Z : Int) < (n : Int)) = true := decide_eq_true hfu
        have d4 : decide ((n : Int) > C - (Z : Int)) = true := d3
        have e7 : IntKind.i64.wrap (C - (Z : Int)) = C - (Z : Int) := IntWalk.i64_in _ ⟨by omega, by omega⟩
        clear hC1 hC2 hZ0 hfu
        go_enter Try.func42, Try.ntmps42
        go_wp2_with fail
        refine hB.mono ?_
        rintro e W1 ⟨rfl, ⟨mb, l, kp, L, G, h1⟩, ht1⟩
        have c1 : W1.cell? ⟨q, 1, none⟩ = some (.map (some mb)) := h1.blk.cell 1
        have c0 : W1.cell? ⟨q, 0, none⟩ = some (.int .i64 C) := by rw [← HC.out.1]; exact h1.blk.cell 0
        have hsz := fun w (hb : Below W1.heap.size W1 w) => psize_any w (h1.below hb) (by have := HF.out.1.2.1; omega)
        rw [HC.out.2] at hsz
        have hq := h1.blk.lt
        have HBD : Hid (∀ w, Below W1.heap.size W1 w → Below W1.heap.size W1 w) := Lib.hid (fun w h => h)
        obtain ⟨x, hx, hxf, hfn, hlk⟩ := look_yes h1 T HT.out.2 (by rw [HT.out.1]; exact HLO.out)
        have hlk1 := hlk W1 h1.map
        rw [HT.out.1] at hx hfn
        have HX := Lib.hid (And.intro hx (And.intro hxf hfn))
        have HH := Lib.hid (And.intro h1 ht1)
        clear hB h1 ht1 hx hxf hfn hlk
        go_wp2_with fail
        go_cut [45] from 36 to 45 (fun s45 wx => s45 = .bool true ∧ Below W1.heap.size W1 wx)
        case first =>
          go_region_held3 (fun w' => w'.cell? ⟨q, 0, none⟩ = some (.int .i64 C)) (first | exact t0 | exact c0 | go_keep)
            ((go_at_call 53; refine (hsz _ (below_drewN (Below.refl _ _) 1)).mono ?_; rintro e w7 ⟨rfl, hb7⟩; have t0 := (hb7.cell (p := ⟨q, 0, none⟩) hq).trans c0; have hb8 := HBD.out w7 (bthen (below_drewN (Below.refl _ W1) 1) hb7)))
          all_goals
            go_wp2_with fail
            go_meet
            exact ⟨rfl, hb8⟩
        case rest =>
          obtain ⟨rfl, hb⟩ := hcut
          have HBB := Lib.hid hb
          clear hb
          go_wp2_with fail
          go_ret
          exact ⟨S, rfl, ⟨_, _, _, _, _, HH.out.1.below HBB.out⟩, fun k hk => .inl hk, HH.out.2.trans (Turn.of_below HBB.out)⟩
      · rw [if_neg hfu]
        have d3 : decide (C - (Z : Int) < (n : Int)) = false := decide_eq_false hfu
        have d4 : decide ((n : Int) > C - (Z : Int)) = false := d3
        have e7 : IntKind.i64.wrap (C - (Z : Int)) = C - (Z : Int) := IntWalk.i64_in _ ⟨by omega, by omega⟩
        clear hC1 hC2 hZ0 hfu
        go_enter Try.func42, Try.ntmps42
        go_wp2_with fail
        refine hB.mono ?_
        rintro e W1 ⟨rfl, ⟨mb, l, kp, L, G, h1⟩, ht1⟩
        have c1 : W1.cell? ⟨q, 1, none⟩ = some (.map (some mb)) := h1.blk.cell 1
        have c0 : W1.cell? ⟨q, 0, none⟩ = some (.int .i64 C) := by rw [← HC.out.1]; exact h1.blk.cell 0
        have hsz := fun w (hb : Below W1.heap.size W1 w) => psize_any w (h1.below hb) (by have := HF.out.1.2.1; omega)
        rw [HC.out.2] at hsz
        have hq := h1.blk.lt
        have HBD : Hid (∀ w, Below W1.heap.size W1 w → Below W1.heap.size W1 w) := Lib.hid (fun w h => h)
        obtain ⟨x, hx, hxf, hfn, hlk⟩ := look_yes h1 T HT.out.2 (by rw [HT.out.1]; exact HLO.out)
        have hlk1 := hlk W1 h1.map
        rw [HT.out.1] at hx hfn
        have HX := Lib.hid (And.intro hx (And.intro hxf hfn))
        have HH := Lib.hid (And.intro h1 ht1)
        clear hB h1 ht1 hx hxf hfn hlk
        go_wp2_with fail
        go_cut [45] from 36 to 45 (fun s45 wx => s45 = .bool false ∧ Below W1.heap.size W1 wx)
        case first =>
          go_region_held3 (fun w' => w'.cell? ⟨q, 0, none⟩ = some (.int .i64 C)) (first | exact t0 | exact c0 | go_keep)
            ((go_at_call 53; refine (hsz _ (below_drewN (Below.refl _ _) 1)).mono ?_; rintro e w7 ⟨rfl, hb7⟩; have t0 := (hb7.cell (p := ⟨q, 0, none⟩) hq).trans c0; have hb8 := HBD.out w7 (bthen (below_drewN (Below.refl _ W1) 1) hb7)))
          all_goals
            go_wp2_with fail
            go_meet
            exact ⟨rfl, hb8⟩
        case rest =>
          obtain ⟨rfl, hb⟩ := hcut
          obtain ⟨h1, ht1⟩ := HH.out
          obtain ⟨hx, hxf, hfn⟩ := HX.out
          have h2 := h1.below hb
          have ht2 : Turn S W wc := ht1.trans (Turn.of_below hb)
          have hat := h2.at_ name x hx
          have hby := (HDA.out.1.turn ht2).byt
          have hown := hat.2
          have k0 : wc.cell? ⟨x.g, 0, none⟩ = some (.slice x.A x.f.data.length x.c) := hat.1.cell 0
          have hxl : x.f.data.length ≤ 40000 := by
            have e1 := h1.tied.file name
            rw [hx] at e1
            have e2 := mem_size m1.files x.f (look_mem name m1.files x.f e1)
            have e3 := HF.out.1.2.1
            omega
          obtain ⟨n0, hn0⟩ : ∃ n0, x.f.data.length = n0 := ⟨_, rfl⟩
          have hX2 : (x.f.data.map bv).length = n0 := by simp [hn0]
          rw [hn0] at hown k0 hxl
          have H2 := Lib.hid (And.intro h2 (And.intro ht2 hn0))
          clear h1 ht1 hx hxf hfn h2 ht2 hat hn0 hX2 hb c0 c1 hlk1 hsz hq
          go_wp2_with (at_builtin; refine wpList_append_byt_at wc rfl _ _ 44 rfl 0 5 iu (.int .u8 0) Try.underlying44 hiu hu0 hu1 hu2 rfl _ n0 (x.f.data.map bv) rfl hown wc.heap.size A n c data rfl hby (fun e => (HDA.out.2 e).2) (by omega) (Nat.zero_le _) ?_)
          intro v8 w8 hown8 hgr8 hat8
          rw [← H2.out.2.2] at hown8 hgr8 hat8
          obtain ⟨y0, yz, ⟨A8, c8, rfl⟩, ⟨G8, h8⟩, ht8⟩ := papp_tail H2.out.1 HX.out.1 (by rw [HX.out.2.1]; exact HX.out.2.2) HDA.out.1.1 hown8 hgr8 hat8
          have H8 := Lib.hid (And.intro h8 (And.intro ht8 hgr8.size))
          clear hown8 hgr8 hat8 h8 ht8 hown hby k0
          go_wp2_with fail
          go_ret
          obtain ⟨h8, ht8, hs8⟩ := H8.out
          obtain ⟨hx, hxf, hfn⟩ := HX.out
          have hE2 : fileF name m1.files = f := fileF_some name m1.files f HLO.out
          refine ⟨fun k => S k ∨ (wc.heap.size ≤ k ∧ k < w8.heap.size), rfl, ⟨mb, l, kp, L, G8, ?_⟩, fun k hk => ?_, H2.out.2.1.also ht8 fun k hk => .inl (H2.out.1.sep.inS name x k hx hk).1⟩
          · show PDat _ _ q (withFs m1 (withF ⟨name, (fileF name m1.files).data ++ data, (fileF name m1.files).sure⟩ false m1.files)) mb l kp L G8
            rw [hE2, ← hxf]
            exact h8
          · rcases hk with hk | hk
            · exact .inl hk
            · exact .inr (Nat.le_trans H2.out.2.1.size hk.1)
  · have hE := do_stop m ⟨1, name, [], data, 0, 0⟩ rfl (by show (1 : Int) ≠ 3; omega) (by rw [hr]; exact h0)
    rw [hE, hr, hm1]
    have d0 : (r != 0) = true := by simpa using h0
    clear hE hr h hO hfit hm1 h0
    go_enter Try.func42, Try.ntmps42
    go_wp2_with fail
    refine hB.mono ?_
    rintro e W1 ⟨rfl, h1, ht1⟩
    have HH := Lib.hid (And.intro h1 ht1)
    clear hB h1 ht1
    go_wp2_with fail
    go_ret
    exact ⟨S, rfl, HH.out.1, fun k hk => .inl hk, HH.out.2⟩

end Go.Proofs.Ytikghnbhbehepaa

/-
  The keys of a map, sorted: contracts of the library's functions, laid at this seat.
-/
namespace Go.Proofs
open Go.Shelf
def Try.keys51_ren : Go.Shelf.Ren := ⟨fun | 7 => 51 | 10 => 57 | n => n, fun | 23 => 59 | 26 => 9 | 3 => 76 | 28 => 86 | 0 => 0 | 27 => 85 | 33 => 69 | 4 => 4 | n => n, fun | n => n⟩
theorem Try.keys51 : Go.Proofs.SlLaysZ.n7 Try.prog Try.keys51_ren := {
  mixed := by kernel_rfl
  f7 := ⟨Try.f51.name, by decide, Try.func51.trans (congrArg some (by kernel_rfl))⟩
  f10 := ⟨Try.f57.name, by decide, Try.func57.trans (congrArg some (by kernel_rfl))⟩
  t0 := Try.underlying0
  a0 := Try.isAgg0
  z0 := Try.sizeOf0
  v0 := Try.zeroValue0
  t4 := Try.underlying4
  a4 := Try.isAgg4
  z4 := Try.sizeOf4
  v4 := Try.zeroValue4
  t23 := Try.underlying59
  a23 := Try.isAgg59
  z23 := Try.sizeOf59
  v23 := Try.zeroValue59
  t26 := Try.underlying9
  a26 := Try.isAgg9
  z26 := Try.sizeOf9
  v26 := Try.zeroValue9
  t27 := Try.underlying85
  a27 := Try.isAgg85
  z27 := Try.sizeOf85
  v27 := Try.zeroValue85
  t28 := Try.underlying86
  a28 := Try.isAgg86
  z28 := Try.sizeOf86
  v28 := Try.zeroValue86
  t33 := Try.underlying69
  a33 := Try.isAgg69
  z33 := Try.sizeOf69
  v33 := Try.zeroValue69 }
def Try.sorted50_ren : Go.Shelf.Ren := ⟨fun | 6 => 50 | 8 => 55 | 9 => 56 | 11 => 60 | 13 => 62 | 12 => 61 | 23 => 76 | 24 => 77 | 14 => 67 | 15 => 68 | 16 => 69 | 17 => 70 | 18 => 71 | 19 => 72 | 20 => 73 | 21 => 74 | 22 => 75 | 25 => 80 | 26 => 81 | 27 => 82 | 28 => 83 | 29 => 84 | 30 => 85 | 31 => 86 | n => n, fun | 26 => 9 | 28 => 86 | 24 => 74 | 0 => 0 | 3 => 3 | 37 => 96 | 48 => 109 | 50 => 24 | 4 => 4 | 40 => 102 | 39 => 101 | 45 => 106 | 5 => 5 | 9 => 9 | 51 => 111 | 55 => 115 | 57 => 117 | 58 => 118 | 33 => 69 | n => n, fun | n => n⟩
theorem Try.sorted50 : Go.Proofs.SlLaysZ.n6 Try.prog Try.sorted50_ren := {
  mixed := by kernel_rfl
  f6 := ⟨Try.f50.name, by decide, Try.func50.trans (congrArg some (by kernel_rfl))⟩
  f8 := ⟨Try.f55.name, by decide, Try.func55.trans (congrArg some (by kernel_rfl))⟩
  f11 := ⟨Try.f60.name, by decide, Try.func60.trans (congrArg some (by kernel_rfl))⟩
  t0 := Try.underlying0
  a0 := Try.isAgg0
  z0 := Try.sizeOf0
  v0 := Try.zeroValue0
  t24 := Try.underlying74
  a24 := Try.isAgg74
  z24 := Try.sizeOf74
  v24 := Try.zeroValue74
  t26 := Try.underlying9
  a26 := Try.isAgg9
  z26 := Try.sizeOf9
  v26 := Try.zeroValue9
  t28 := Try.underlying86
  a28 := Try.isAgg86
  z28 := Try.sizeOf86
  v28 := Try.zeroValue86
  i26 := by kernel_rfl }
def Try.sort56_ren : Go.Shelf.Ren := ⟨fun | 6 => 56 | 8 => 62 | 9 => 61 | 19 => 76 | 20 => 77 | 21 => 67 | 22 => 68 | 23 => 69 | 24 => 70 | 25 => 71 | 26 => 72 | 27 => 73 | 28 => 74 | 29 => 75 | 36 => 80 | 31 => 81 | 32 => 82 | 37 => 83 | 38 => 84 | 39 => 85 | 41 => 86 | n => n, fun | 27 => 74 | 29 => 9 | 3 => 3 | 32 => 96 | 26 => 74 | 0 => 0 | 44 => 109 | 46 => 24 | 4 => 4 | 36 => 102 | 35 => 101 | 41 => 106 | 5 => 5 | 9 => 9 | 53 => 111 | 57 => 115 | 63 => 117 | 64 => 118 | n => n, fun | n => n⟩
theorem Try.sort56 : Go.Proofs.SlLaysM.n6 Try.prog Try.sort56_ren := {
  mixed := by kernel_rfl
  f6 := ⟨Try.f56.name, by decide, Try.func56.trans (congrArg some (by kernel_rfl))⟩
  f8 := Try.func62.trans (congrArg some (by kernel_rfl))
  f9 := ⟨Try.f61.name, by decide, Try.func61.trans (congrArg some (by kernel_rfl))⟩
  f19 := Try.func76.trans (congrArg some (by kernel_rfl))
  f20 := Try.func77.trans (congrArg some (by kernel_rfl))
  f21 := ⟨Try.f67.name, by decide, Try.func67.trans (congrArg some (by kernel_rfl))⟩
  f22 := ⟨Try.f68.name, by decide, Try.func68.trans (congrArg some (by kernel_rfl))⟩
  f23 := ⟨Try.f69.name, by decide, Try.func69.trans (congrArg some (by kernel_rfl))⟩
  f24 := ⟨Try.f70.name, by decide, Try.func70.trans (congrArg some (by kernel_rfl))⟩
  f25 := ⟨Try.f71.name, by decide, Try.func71.trans (congrArg some (by kernel_rfl))⟩
  f26 := ⟨Try.f72.name, by decide, Try.func72.trans (congrArg some (by kernel_rfl))⟩
  f27 := ⟨Try.f73.name, by decide, Try.func73.trans (congrArg some (by kernel_rfl))⟩
  f28 := ⟨Try.f74.name, by decide, Try.func74.trans (congrArg some (by kernel_rfl))⟩
  f29 := ⟨Try.f75.name, by decide, Try.func75.trans (congrArg some (by kernel_rfl))⟩
  f31 := Try.func81.trans (congrArg some (by kernel_rfl))
  f32 := Try.func82.trans (congrArg some (by kernel_rfl))
  f36 := ⟨Try.f80.name, by decide, Try.func80.trans (congrArg some (by kernel_rfl))⟩
  f37 := ⟨Try.f83.name, by decide, Try.func83.trans (congrArg some (by kernel_rfl))⟩
  f38 := ⟨Try.f84.name, by decide, Try.func84.trans (congrArg some (by kernel_rfl))⟩
  f39 := ⟨Try.f85.name, by decide, Try.func85.trans (congrArg some (by kernel_rfl))⟩
  f41 := ⟨Try.f86.name, by decide, Try.func86.trans (congrArg some (by kernel_rfl))⟩
  t0 := Try.underlying0
  a0 := Try.isAgg0
  z0 := Try.sizeOf0
  v0 := Try.zeroValue0
  t3 := Try.underlying3
  a3 := Try.isAgg3
  z3 := Try.sizeOf3
  v3 := Try.zeroValue3
  t4 := Try.underlying4
  a4 := Try.isAgg4
  z4 := Try.sizeOf4
  v4 := Try.zeroValue4
  t5 := Try.underlying5
  a5 := Try.isAgg5
  z5 := Try.sizeOf5
  v5 := Try.zeroValue5
  t9 := Try.underlying9
  a9 := Try.isAgg9
  z9 := Try.sizeOf9
  v9 := Try.zeroValue9
  t26 := Try.underlying74
  a26 := Try.isAgg74
  z26 := Try.sizeOf74
  v26 := Try.zeroValue74
  t27 := Try.underlying74
  a27 := Try.isAgg74
  z27 := Try.sizeOf74
  v27 := Try.zeroValue74
  t29 := Try.underlying9
  a29 := Try.isAgg9
  z29 := Try.sizeOf9
  v29 := Try.zeroValue9
  t32 := Try.underlying96
  a32 := Try.isAgg96
  z32 := Try.sizeOf96
  v32 := Try.zeroValue96
  t35 := Try.underlying101
  a35 := Try.isAgg101
  z35 := Try.sizeOf101
  v35 := Try.zeroValue101
  t36 := Try.underlying102
  a36 := Try.isAgg102
  z36 := Try.sizeOf102
  v36 := Try.zeroValue102
  t41 := Try.underlying106
  a41 := Try.isAgg106
  z41 := Try.sizeOf106
  v41 := Try.zeroValue106
  t44 := Try.underlying109
  a44 := Try.isAgg109
  z44 := Try.sizeOf109
  v44 := Try.zeroValue109
  t46 := Try.underlying24
  a46 := Try.isAgg24
  z46 := Try.sizeOf24
  v46 := Try.zeroValue24
  t53 := Try.underlying111
  a53 := Try.isAgg111
  z53 := Try.sizeOf111
  v53 := Try.zeroValue111
  t57 := Try.underlying115
  a57 := Try.isAgg115
  z57 := Try.sizeOf115
  v57 := Try.zeroValue115
  t63 := Try.underlying117
  a63 := Try.isAgg117
  z63 := Try.sizeOf117
  v63 := Try.zeroValue117
  t64 := Try.underlying118
  a64 := Try.isAgg118
  z64 := Try.sizeOf118
  v64 := Try.zeroValue118 }
open Go.RowKit Go.Maps Go.Sort in
theorem Try.sorts50 (m : Nat) : AnyZ.SortsIn Try.prog Try.sorted50_ren Fence.wide m :=
  ⟨fun blk off cap ss W hH hblk hsz => callsIn_wide.2 (AnyM.slices_Sort_string Try.sort56 blk off cap ss W hH hblk hsz),
   fun p cap W => callsIn_wide.2 (AnyM.slices_Sort_string_none Try.sort56 p cap W)⟩
open Go.RowKit Go.Maps Go.Sort in
theorem Try.maps_Keys_51 (mb : Option Nat) (W : World) : CallsIn Fence.wide 5 Try.prog 51 #[.map mb] W fun e w' => e = .returned (.func (.func 57) #[] #[.pointer (some ⟨W.heap.size, 0, none⟩)]) ∧ w' = W.alloc (.cells #[.map mb] 59) :=
  AnyZ.keys_in Try.keys51 Fence.wide 5 trivial rfl mb W
open Go.RowKit Go.Maps Go.Sort in
theorem Try.slices_Sorted_keys_50_51 {H : Type} (b nn : Nat) (D0 : DataW H) (R : Value → Option (DataW H × List MemPlace)) (w : World) (hown : w.ownsMap Try.prog 9 R b nn D0) (hmax : Maps.size D0 ≤ maxLen) (hbytes : Maps.size D0 * 16 ≤ 140737488355328) :
    CallsIn Fence.wide 5 Try.prog 50 #[.func (.func 57) #[] #[.pointer (some ⟨w.heap.size, 0, none⟩)]] (w.alloc (.cells #[.map (some b)] 59)) fun e w' => ∃ (v : Value) (ss : List (List UInt8)), e = .returned v ∧ ss.Perm (strKeys D0) ∧
      w'.ownsRow (w.alloc (.cells #[.map (some b)] 59)).heap.size 9 1 v ss.length ((ss.mergeSort (fun x y => decide (x ≤ y))).map encStr) ∧ (v = .slice none 0 0 ↔ ss = []) ∧ Below (w.alloc (.cells #[.map (some b)] 59)).heap.size (w.alloc (.cells #[.map (some b)] 59)) w' := by
  have hbl := hown.lt
  have hseq : SeqGives Fence.wide 2 Try.prog 57 #[.pointer (some ⟨w.heap.size, 0, none⟩)] encStr (fun ss => ss.Perm (strKeys D0)) (Maps.size D0) (w.alloc (.cells #[.map (some b)] 59)) :=
    AnyZ.keys_gives (ρ := Try.keys51_ren) { Try.keys51 with } Fence.wide _ trivial rfl (by omega) w.heap.size b nn D0 _ (by simp) (by simp) (by
      obtain ⟨es, clock, hb, Ft, hs, hD⟩ := hown
      exact ⟨es, clock, (Below.heap_alloc _ _ b hbl).trans hb, Ft, hs, hD⟩)
  exact AnyZ.sorted_in Try.sorted50 Fence.wide 5 trivial trivial trivial trivial rfl (by omega) (Try.sorts50 _) (enters_of Try.func56 (by kernel_rfl) rfl) 57 #[.pointer (some ⟨w.heap.size, 0, none⟩)] trivial (enters_of Try.func57 (by kernel_rfl) rfl) _ _ hmax hbytes _ hseq
open Go.RowKit Go.Maps Go.Sort in
theorem Try.slices_Sorted_keys_nil_50_51 (w : World) :
    CallsIn Fence.wide 5 Try.prog 50 #[.func (.func 57) #[] #[.pointer (some ⟨w.heap.size, 0, none⟩)]] (w.alloc (.cells #[.map none] 59)) fun e w' => ∃ (v : Value) (ss : List (List UInt8)), e = .returned v ∧ ss = [] ∧
      w'.ownsRow (w.alloc (.cells #[.map none] 59)).heap.size 9 1 v ss.length ((ss.mergeSort (fun x y => decide (x ≤ y))).map encStr) ∧ (v = .slice none 0 0 ↔ ss = []) ∧ Below (w.alloc (.cells #[.map none] 59)).heap.size (w.alloc (.cells #[.map none] 59)) w' := by
  have hseq : SeqGives Fence.wide 2 Try.prog 57 #[.pointer (some ⟨w.heap.size, 0, none⟩)] encStr (fun ss : List (List UInt8) => ss = []) 0 (w.alloc (.cells #[.map none] 59)) :=
    AnyZ.keys_gives_nil (ρ := Try.keys51_ren) { Try.keys51 with } Fence.wide _ trivial rfl w.heap.size _ (by simp) (by simp)
  exact AnyZ.sorted_in Try.sorted50 Fence.wide 5 trivial trivial trivial trivial rfl (by omega) (Try.sorts50 _) (enters_of Try.func56 (by kernel_rfl) rfl) 57 #[.pointer (some ⟨w.heap.size, 0, none⟩)] trivial (enters_of Try.func57 (by kernel_rfl) rfl) _ 0 (Nat.zero_le _) (by omega) _ hseq
end Go.Proofs

/-
  The program's disk: Read, List.
-/
namespace Go.Proofs.Ytikghnbhbehepaa
open Go.RowKit
set_option linter.unusedVariables false
set_option linter.unusedSimpArgs false

theorem bl_le (x : List UInt8) : ∀ y, Op.bytesLess x y = true → x ≤ y := by
  intro y h
  have h2 : x < y := by
    induction x generalizing y with
    | nil =>
      cases y with
      | nil => simp [Op.bytesLess] at h
      | cons b y => exact List.nil_lt_cons b y
    | cons a x ih =>
      cases y with
      | nil => simp [Op.bytesLess] at h
      | cons b y =>
        rw [bl_cons] at h
        rw [List.cons_lt_cons_iff]
        rcases h with h | ⟨rfl, h⟩
        · exact .inl (UInt8.lt_iff_toNat_lt.2 h)
        · exact .inr ⟨rfl, ih y h⟩
  exact List.le_of_lt h2
theorem srt_sort (fs : List Fl) (h : SrtF fs) (ss : List (List UInt8)) (hp : ss.Perm (fs.map Fl.name)) : ss.mergeSort leB = fs.map Fl.name := by
  rw [mergeSort_of_perm hp]
  refine List.mergeSort_of_pairwise ?_
  rw [List.pairwise_map]
  exact List.Pairwise.imp (fun {a b} hab => decide_eq_true (bl_le _ _ hab)) h
theorem strKeys_mapD (L : List (List UInt8 × Value)) : strKeys (mapD L) = L.map (·.1) := by
  show (mapE L).map (fun p => strOf p.1) = _
  unfold mapE
  rw [List.map_map]
  rfl

theorem pkeys_any (mb : Option Nat) (W : World) : Calls Try.prog 51 #[.map mb] W fun e w' => e = .returned (.func (.func 57) #[] #[.pointer (some ⟨W.heap.size, 0, none⟩)]) ∧ w' = W.alloc (.cells #[.map mb] 59) :=
  callsIn_wide.1 (Try.maps_Keys_51 mb W)

set_option maxRecDepth 100000 in
set_option maxHeartbeats 2000000 in
theorem plist_any (W : World) (S : Nat → Prop) (q : Nat) (m : Dk) (h : PD W S q m) (hO : OkD 200 m) :
    Calls Try.prog 37 #[.pointer (some ⟨q, 0, none⟩)] W fun e W' => ∃ v, e = .returned v ∧ W'.ownsRow W.heap.size 9 1 v m.files.length (wsV (m.files.map Fl.name)) ∧ Below W.heap.size W W' := by
  obtain ⟨mb, l, kp, L, G, h⟩ := h
  have c1 : W.cell? ⟨q, 1, none⟩ = some (.map (some mb)) := h.blk.cell 1
  have hk := pkeys_any (some mb) W
  have hlen : Maps.size (mapD L) = m.files.length := by rw [mapD_size, h.len]
  have hl2 := hO.len
  have hs := callsIn_wide.1 (Try.slices_Sorted_keys_50_51 mb L.length (mapD L) rawR W h.map (by rw [hlen]; unfold maxLen; omega) (by rw [hlen]; omega))
  have HH := Lib.hid h
  clear h hO hlen hl2
  go_enter Try.func37, Try.ntmps37
  go_wp2_with fail
  refine hk.mono ?_
  rintro e W1 ⟨rfl, rfl⟩
  clear hk
  go_wp2_with fail
  refine hs.mono ?_
  rintro e W2 ⟨v, ss, rfl, hS, hrow, hnil, hb⟩
  have hp : ss.Perm (m.files.map Fl.name) := by
    rw [strKeys_mapD] at hS
    exact hS.trans (tied_perm HH.out.map (Maps.string_keyed Try.underlying9) HH.out.tied HH.out.srt)
  have hlen : ss.length = m.files.length := by rw [hp.length_eq, List.length_map]
  have hsort : ss.mergeSort (fun x y => decide (x ≤ y)) = m.files.map Fl.name := srt_sort m.files HH.out.srt ss hp
  rw [hsort, hlen] at hrow
  have HW := Lib.hid (And.intro hrow hb)
  clear hs hS hrow hnil hb hp hlen hsort
  go_wp2_with fail
  go_ret
  exact ⟨v, rfl, own_mono HW.out.1 (by simp), bthen ((Below.refl _ W).alloc (Nat.le_refl _) _) HW.out.2⟩

end Go.Proofs.Ytikghnbhbehepaa
