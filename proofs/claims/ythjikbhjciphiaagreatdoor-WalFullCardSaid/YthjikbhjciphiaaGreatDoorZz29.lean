/-
  The program's disk: Append.
-/
import Derived.Test.YthjikbhjciphiaaGreatDoorZz28
import Derived.Deep.RegionHeld3
import Derived.Deep.CutRange
import Derived.Test.YthjikbhjciphiaaGreatDoorZz24
import Derived.DeepKeys
import Derived.Laws.IdiomArrays
import Derived.Test.YthjikbhjciphiaaGreatDoorZz25
import Derived.Test.YthjikbhjciphiaaGreatDoorZz17
namespace Go.Proofs.YthjikbhjciphiaaGreatDoor
open Go.RowKit
set_option linter.unusedVariables false
set_option linter.unusedSimpArgs false

theorem Turn.also {S T : Nat → Prop} {W w w' : World} (h : Turn S W w) (k : Turn T w w') (hT : ∀ j, T j → S j ∨ W.heap.size ≤ j) : Turn S W w' :=
  ⟨k.os.trans h.os, k.tape.trans h.tape, k.output.trans h.output, Nat.le_trans h.size k.size, fun j hj hs => (k.block j (Nat.lt_of_lt_of_le hj h.size) (fun e => by
    rcases hT j e with h1 | h1
    · exact hs h1
    · omega)).trans (h.block j hj hs)⟩
theorem with_with (f g : Fl) (l : List Fl) (h : SrtF l) (hn : f.name = g.name) : withF f false (withF g false l) = withF f false l := by
  refine srt_ext _ _ (srt_with f _ false (srt_with g l false h (fun e => by cases e)) (fun e => by cases e)) (srt_with f l false h (fun e => by cases e)) fun t => ?_
  rw [look_with, look_with, look_with, hn]
  split <;> rfl
theorem pcall_app (m : Dk) (s d : List UInt8) (ht : targetB s = true) (hl : m.files.length < 1024) : callD m ⟨1, s, [], d, 0, 0⟩ = if m.cap - sizeF m.files < (d.length : Int) then (10, m) else (0, withFs m (withF ⟨s, (fileF s m.files).data ++ d, (fileF s m.files).sure⟩ false m.files)) := by
  unfold callD
  have e : decide (1024 ≤ m.files.length) = false := decide_eq_false (by omega)
  simp only [ht, e]
  simp

section
variable {w w1 : World} {S : Nat → Prop} {q mb l n : Nat} {m : Dk} {kp : Int} {L : List (List UInt8 × Value)} {G : List UInt8 → Option FM} {s data : List UInt8} {x : FM} {v' : Value}
/-- What is left when a file's bytes have grown, and stand in it. -/
theorem papp_tail (h : PDat w S q m mb l kp L G) (hx : G s = some x) (hfn : x.f.name = s) (hn : data.length = n) (hown : w1.ownsRow 0 5 1 v' (x.f.data.length + n) (x.f.data.map bv ++ data.map bv)) (hgr : w.grownBy w1 (Value.slice x.A x.f.data.length x.c).ownBlock)
    (hat : v'.ownBlock = (Value.slice x.A x.f.data.length x.c).ownBlock ∨ v'.ownBlock = some w.heap.size) :
    w1.cell? ⟨x.g, 0, none⟩ = some (.slice x.A x.f.data.length x.c) ∧ w1.frozen? ⟨x.g, 0, none⟩ = false ∧ (∃ A' c', v' = .slice A' (x.f.data.length + n) c') ∧
    (∃ G', PDat (w1.setCell ⟨x.g, 0, none⟩ v') (fun k => S k ∨ (w.heap.size ≤ k ∧ k < w1.heap.size)) q (withFs m (withF ⟨s, x.f.data ++ data, x.f.sure⟩ false m.files)) mb l kp L G') ∧ Turn x.blks w (w1.setCell ⟨x.g, 0, none⟩ v') := by
  have hxa := h.at_ s x hx
  have htw := h.sep.two s x
  have hgl : x.g < w.heap.size := hxa.1.lt
  have hb1 : Turn (fun k => ∃ a, x.A = some a ∧ k = a.block) w w1 := by
    refine ⟨hgr.os, hgr.tape, hgr.output, hgr.size, fun k hk hne => hgr.block k hk fun e => hne ?_⟩
    cases hA : x.A with
    | none => rw [hA] at e; cases e
    | some a => rw [hA] at e; exact ⟨a, rfl, Option.some.inj e⟩
  have hB := hb1.blk hxa.1 (fun ⟨a, ha, e⟩ => htw a hx ha e.symm)
  obtain ⟨A', c', rfl, hf1, hf2, hf3⟩ := own_form hown
  have ht2 : Turn (fun k => k = x.g) w1 (w1.setCell ⟨x.g, 0, none⟩ (.slice A' (x.f.data.length + n) c')) := (Turn.refl (fun k => k = x.g) w1).setCell (p := ⟨x.g, 0, none⟩) rfl _
  have ht : Turn x.blks w (w1.setCell ⟨x.g, 0, none⟩ (.slice A' (x.f.data.length + n) c')) := (hb1.mono fun k hk => .inr hk).trans (ht2.mono fun k hk => .inl hk)
  have hA' : ∀ a, A' = some a → (x.A = some ⟨a.block, 0, none⟩ ∨ a.block = w.heap.size) ∧ a.block < w1.heap.size := by
    intro a ha
    subst ha
    have hlt := hown.lt a.block rfl
    refine ⟨?_, hlt.2⟩
    rcases hat with e | e
    · left
      cases hA : x.A with
      | none => rw [hA] at e; cases e
      | some a2 =>
        rw [hA] at e
        have e2 : a.block = a2.block := Option.some.inj e
        rcases hxa.2.2 with ⟨h1, _⟩ | ⟨g2, cap2, cur2, h1, _⟩
        · rw [hA] at h1; cases h1
        · rw [hA] at h1
          injection h1 with h1
          rw [e2, Option.some.inj h1]
    · right
      exact Option.some.inj e
  have hne : ∀ a, A' = some a → a.block ≠ x.g := by
    intro a ha
    rcases (hA' a ha).1 with e | e
    · exact htw ⟨a.block, 0, none⟩ hx e
    · omega
  have hy : FM.at_ (w1.setCell ⟨x.g, 0, none⟩ (.slice A' (x.f.data.length + n) c')) ⟨⟨s, x.f.data ++ data, x.f.sure⟩, x.g, A', c'⟩ := by
    have hlen : (x.f.data ++ data).length = x.f.data.length + n := by rw [List.length_append, hn]
    refine ⟨?_, ?_⟩
    · show Blk _ x.g _ [.slice A' (x.f.data ++ data).length c', .int .i64 ((x.f.sure : Nat) : Int)]
      rw [hlen]
      exact hB.set 0 (.slice A' (x.f.data.length + n) c')
    · show World.ownsRow _ 0 _ 1 (.slice A' (x.f.data ++ data).length c') (x.f.data ++ data).length ((x.f.data ++ data).map bv)
      rw [hlen, List.map_append]
      exact own_turn hown ht2 hne
  refine ⟨hB.cell 0, hB.frozen 0, ⟨A', c', rfl⟩, ⟨_, h.set (S' := fun k => S k ∨ (w.heap.size ≤ k ∧ k < w1.heap.size)) (y := ⟨⟨s, x.f.data ++ data, x.f.sure⟩, x.g, A', c'⟩) hx rfl rfl ht (fun k hk => hk) hy (fun k hk => .inl hk) (fun k hk => ?_) (fun k hk => ?_) hne⟩, ht⟩
  · rcases hk with e | ⟨a, ha, e⟩
    · exact .inl (.inl e)
    · have h1 := hA' a ha
      rcases h1.1 with h2 | h2
      · exact .inl (.inr ⟨_, h2, e⟩)
      · exact .inr ⟨by omega, .inr ⟨by omega, by omega⟩⟩
  · have hs : (w1.setCell ⟨x.g, 0, none⟩ (.slice A' (x.f.data.length + n) c')).heap.size = w1.heap.size := by simp [World.setCell]
    rw [hs]
    rcases hk with e | e
    · have := h.lt k e
      have := hb1.size
      omega
    · exact e.2
end

set_option maxRecDepth 100000 in
set_option maxHeartbeats 2000000 in
theorem pappend_any (W : World) (S : Nat → Prop) (q : Nat) (m : Dk) (name data : List UInt8) (A : Option Addr) (n c : Nat) (h : PD W S q m) (hO : OkD 200 m) (hl : name.length ≤ 100) (hd : data.length ≤ 12000) (hda : BytS W S A n data) (hnil : A = none → n = 0 ∧ c = 0) :
    Calls Tryz.prog 60 #[.pointer (some ⟨q, 0, none⟩), .string ⟨name.toArray⟩, .slice A n c] W (StepPost PD S q (doD m ⟨1, name, [], data, 0, 0⟩) W) := by
  have hB := phead_any W S q m [name] #[.string ⟨name.toArray⟩] 1 h hO rfl (by omega) (fun s hs => by have := List.mem_singleton.1 hs; rw [this]; omega) rfl
  obtain ⟨r, hr⟩ : ∃ r, beginR m [name] = r := ⟨_, rfl⟩
  obtain ⟨m1, hm1⟩ : ∃ m1, (beginD m).2 = m1 := ⟨_, rfl⟩
  have hfit := begin_fit hO
  have hcap := (begin_ok hO).cap
  rw [hm1] at hfit hB hcap
  rw [hr] at hB
  obtain ⟨T, hT⟩ : ∃ T : ByteArray, ⟨name.toArray⟩ = T := ⟨_, rfl⟩
  have hTl : T.data.toList = name := by rw [← hT]
  have hTs : T.size ≤ 10000 := by rw [← hT]; show name.toArray.size ≤ _; simp; omega
  rw [hT] at hB ⊢
  have HT := Lib.hid (And.intro hTl hTs)
  clear hT hTl hTs
  have hnd : n ≤ 12000 := by have := hda.1; omega
  have HDA := Lib.hid (And.intro hda hnil)
  clear hda hnil
  by_cases h0 : r = 0
  · subst h0
    obtain ⟨hb1, hb2⟩ := begin_past m [name] hr
    have hta : targetB name = true := by simpa using hb2
    have hE := do_call m ⟨1, name, [], data, 0, 0⟩ rfl hb1
    rw [hm1, pcall_app m1 name data hta (by omega)] at hE
    rw [hE]
    have HF := Lib.hid (And.intro hfit hcap)
    clear hE hb1 hb2 hta hr h hO hfit hm1 hcap hd
    obtain ⟨C, hC⟩ : ∃ C, m1.cap = C := ⟨_, rfl⟩
    obtain ⟨Z, hZ⟩ : ∃ Z, sizeF m1.files = Z := ⟨_, rfl⟩
    have hC0 : 0 ≤ C ∧ C < 9223372036854775808 := by rw [← hC]; exact HF.out.2
    obtain ⟨hC1, hC2⟩ := hC0
    have hZ0 : Z ≤ 40000 := by rw [← hZ]; exact HF.out.1.2.1
    rw [hC, hZ, HDA.out.1.1]
    have HC := Lib.hid (And.intro hC hZ)
    clear hC hZ
    obtain ⟨iu, hiu, hu0, hu1, hu2⟩ := info_parts Tryz.infoByte
    cases hlo : lookF name m1.files with
    | none =>
      have HLO := Lib.hid hlo
      clear hlo
      by_cases hfu : C - (Z : Int) < (n : Int)
      · rw [if_pos hfu]
        have d3 : decide (C - (Z : Int) < (n : Int)) = true := decide_eq_true hfu
        have d4 : decide ((n : Int) > C - (Z : Int)) = true := d3
        have e7 : IntKind.i64.wrap (C - (Z : Int)) = C - (Z : Int) := IntWalk.i64_in _ ⟨by omega, by omega⟩
        clear hC1 hC2 hZ0 hfu
        go_enter Tryz.func60, Tryz.ntmps60
        go_wp2_with fail
        refine hB.mono ?_
        rintro e W1 ⟨rfl, ⟨mb, l, kp, L, G, h1⟩, ht1⟩
        have c1 : W1.cell? ⟨q, 1, none⟩ = some (.map (some mb)) := h1.blk.cell 1
        have c0 : W1.cell? ⟨q, 0, none⟩ = some (.int .i64 C) := by rw [← HC.out.1]; exact h1.blk.cell 0
        have hsz := fun w (hb : Below W1.heap.size W1 w) => psize_any w (h1.below hb) (by have := HF.out.1.2.1; omega)
        rw [HC.out.2] at hsz
        have hq := h1.blk.lt
        have HBD : Hid (∀ w, Below W1.heap.size W1 w → Below W1.heap.size W1 w) := Lib.hid (fun w h => h)
        have hlk1 := look_no h1 T HT.out.2 (by rw [HT.out.1]; exact HLO.out) W1 h1.map
        have hmlen := h1.map.len Tryz.underlying53 3
        have hL : L.length ≤ 200 := by rw [h1.len]; exact HF.out.1.1
        obtain ⟨N, hN⟩ : ∃ N, L.length = N := ⟨_, rfl⟩
        rw [hN] at hmlen hL
        have d5 : decide ((1024 : Int) ≤ (N : Int)) = false := decide_eq_false (by omega)
        have d6 : decide ((N : Int) ≥ 1024) = false := d5
        have HN := Lib.hid hN
        have HH := Lib.hid (And.intro h1 ht1)
        clear hB h1 ht1 hN
        go_wp2_with fail
        go_cut [45] from 36 to 45 (fun s45 wx => s45 = .bool true ∧ Below W1.heap.size W1 wx)
        case first =>
          go_region_held3 (fun w' => w'.cell? ⟨q, 0, none⟩ = some (.int .i64 C)) (first | exact t0 | exact c0 | go_keep)
            ((go_at_call 24; refine (hsz _ (below_drewN (Below.refl _ _) 1)).mono ?_; rintro e w7 ⟨rfl, hb7⟩; have t0 := (hb7.cell (p := ⟨q, 0, none⟩) hq).trans c0; have hb8 := HBD.out w7 (bthen (below_drewN (Below.refl _ W1) 1) hb7)))
          all_goals
            go_wp2_with fail
            go_meet
            exact ⟨rfl, hb8⟩
        case rest =>
          obtain ⟨rfl, hb⟩ := hcut
          have HBB := Lib.hid hb
          clear hb
          go_wp2_with fail
          go_ret
          exact ⟨S, rfl, ⟨_, _, _, _, _, HH.out.1.below HBB.out⟩, fun k hk => .inl hk, HH.out.2.trans (Turn.of_below HBB.out)⟩
      · rw [if_neg hfu]
        have d3 : decide (C - (Z : Int) < (n : Int)) = false := decide_eq_false hfu
        have d4 : decide ((n : Int) > C - (Z : Int)) = false := d3
        have e7 : IntKind.i64.wrap (C - (Z : Int)) = C - (Z : Int) := IntWalk.i64_in _ ⟨by omega, by omega⟩
        clear hC1 hC2 hZ0 hfu
        go_enter Tryz.func60, Tryz.ntmps60
        go_wp2_with fail
        refine hB.mono ?_
        rintro e W1 ⟨rfl, ⟨mb, l, kp, L, G, h1⟩, ht1⟩
        have c1 : W1.cell? ⟨q, 1, none⟩ = some (.map (some mb)) := h1.blk.cell 1
        have c0 : W1.cell? ⟨q, 0, none⟩ = some (.int .i64 C) := by rw [← HC.out.1]; exact h1.blk.cell 0
        have hsz := fun w (hb : Below W1.heap.size W1 w) => psize_any w (h1.below hb) (by have := HF.out.1.2.1; omega)
        rw [HC.out.2] at hsz
        have hq := h1.blk.lt
        have HBD : Hid (∀ w, Below W1.heap.size W1 w → Below W1.heap.size W1 w) := Lib.hid (fun w h => h)
        have hlk1 := look_no h1 T HT.out.2 (by rw [HT.out.1]; exact HLO.out) W1 h1.map
        have hmlen := h1.map.len Tryz.underlying53 3
        have hL : L.length ≤ 200 := by rw [h1.len]; exact HF.out.1.1
        obtain ⟨N, hN⟩ : ∃ N, L.length = N := ⟨_, rfl⟩
        rw [hN] at hmlen hL
        have d5 : decide ((1024 : Int) ≤ (N : Int)) = false := decide_eq_false (by omega)
        have d6 : decide ((N : Int) ≥ 1024) = false := d5
        have HN := Lib.hid hN
        have HH := Lib.hid (And.intro h1 ht1)
        clear hB h1 ht1 hN
        go_wp2_with fail
        go_cut [45] from 36 to 45 (fun s45 wx => s45 = .bool false ∧ Below W1.heap.size W1 wx)
        case first =>
          go_region_held3 (fun w' => w'.cell? ⟨q, 0, none⟩ = some (.int .i64 C)) (first | exact t0 | exact c0 | go_keep)
            ((go_at_call 24; refine (hsz _ (below_drewN (Below.refl _ _) 1)).mono ?_; rintro e w7 ⟨rfl, hb7⟩; have t0 := (hb7.cell (p := ⟨q, 0, none⟩) hq).trans c0; have hb8 := HBD.out w7 (bthen (below_drewN (Below.refl _ W1) 1) hb7)))
          all_goals
            go_wp2_with fail
            go_meet
            exact ⟨rfl, hb8⟩
        case rest =>
          obtain ⟨rfl, hb⟩ := hcut
          obtain ⟨h1, ht1⟩ := HH.out
          have h2 := h1.below hb
          have ht2 : Turn S W wc := ht1.trans (Turn.of_below hb)
          have h3 := h2.below ((Below.refl _ wc).alloc (Nat.le_refl _) (.cells #[.slice none 0 0, .int .i64 0] 78))
          have hg0 : Blk (wc.alloc (.cells #[.slice none 0 0, .int .i64 0] 78)) wc.heap.size 78 [.slice none 0 0, .int .i64 0] := Blk.new wc _ _ rfl
          have hgS : ¬ S wc.heap.size := fun e => by have := h2.lt _ e; omega
          obtain ⟨w4, hup, hm4, htu4⟩ := h3.map.put (Maps.string_keyed Tryz.underlying9) Tryz.underlying53 (by have h := HN.out; unfold maxLen; omega) T (.pointer (some ⟨wc.heap.size, 0, none⟩)) (key_mk T HT.out.2)
          have ht4 := turn_of_map htu4
          rw [HT.out.1] at hm4
          have hy : FM.at_ w4 ⟨⟨name, [], 0⟩, wc.heap.size, none, 0⟩ := ⟨ht4.blk hg0 (fun e => by have e' : wc.heap.size = mb := e; rw [e'] at hgS; exact hgS h2.sm), World.ownsRow_nil _ _ _ _⟩
          have hs3 : (wc.alloc (.cells #[.slice none 0 0, .int .i64 0] 78)).heap.size = wc.heap.size + 1 := by simp
          have h4 := h3.put (S' := fun k => S k ∨ k = wc.heap.size) (y := ⟨⟨name, [], 0⟩, wc.heap.size, none, 0⟩) rfl ht4 hm4 hy (fun k hk => .inl hk) (fun k hk => by
            rcases hk with e | ⟨a, ha, _⟩
            · refine ⟨.inr e, fun e2 => ?_, fun e2 => ?_⟩
              · have := h2.lt q h2.sq; have e' : k = wc.heap.size := e; omega
              · have := h2.lt mb h2.sm; have e' : k = wc.heap.size := e; omega
            · cases ha) (fun t z k hts hz hk hk2 => by
            rcases hk2 with e | ⟨a, ha, _⟩
            · have := h2.lt k (h2.sep.inS t z k hz hk).1
              have e' : k = wc.heap.size := e
              omega
            · cases ha) (fun k hk => by
            have h5 := ht4.size
            rcases hk with hk | hk
            · have := h2.lt k hk; omega
            · omega) (fun a ha => by cases ha)
          have ht5 : Turn S W w4 := (ht2.alloc _).trans (ht4.mono fun k e => by rw [e]; exact h2.sm)
          have hby := (HDA.out.1.turn ht5).byt
          have k0 : w4.cell? ⟨wc.heap.size, 0, none⟩ = some (.slice none 0 0) := hy.1.cell 0
          have c4 : (wc.alloc (.cells #[.slice none 0 0, .int .i64 0] 78)).cell? ⟨q, 1, none⟩ = some (.map (some mb)) := h3.blk.cell 1
          have hown : w4.ownsRow 0 5 1 (.slice none 0 0) 0 [] := World.ownsRow_nil _ _ _ _
          have H4 := Lib.hid (And.intro h4 (And.intro ht5 ht2.size))
          have hqc := h2.blk.lt
          have c1w : wc.cell? ⟨q, 1, none⟩ = some (.map (some mb)) := h2.blk.cell 1
          clear h1 ht1 h2 ht2 h3 hg0 hgS hm4 htu4 ht4 hy h4 ht5 hb c0 c1 hlk1 hsz hq hs3 hmlen
          go_wp2_with (at_builtin; refine wpList_append_byt_at w4 rfl _ _ 70 rfl 0 5 iu (.int .u8 0) Tryz.underlying70 hiu hu0 hu1 hu2 rfl _ 0 [] rfl hown w4.heap.size A n c data rfl hby (fun e => (HDA.out.2 e).2) (by omega) (Nat.zero_le _) ?_)
          intro v8 w8 hown8 hgr8 hat8
          obtain ⟨y0, yz, ⟨A8, c8, rfl⟩, ⟨G8, h8⟩, ht8⟩ := papp_tail (s := name) (x := ⟨⟨name, [], 0⟩, wc.heap.size, none, 0⟩) H4.out.1 (by unfold upG; rw [if_pos rfl]) rfl HDA.out.1.1 (by simpa using hown8) hgr8 hat8
          simp only [List.length_nil, Nat.zero_add] at h8 ht8
          have H8 := Lib.hid (And.intro h8 (And.intro ht8 hgr8.size))
          clear hown8 hgr8 hat8 h8 ht8 hown hby k0
          go_wp2_with fail
          go_ret
          obtain ⟨h8, ht8, hs8⟩ := H8.out
          have hE2 : fileF name m1.files = ⟨name, [], 0⟩ := fileF_none name m1.files HLO.out
          refine ⟨fun k => (S k ∨ k = wc.heap.size) ∨ (w4.heap.size ≤ k ∧ k < w8.heap.size), rfl, ⟨mb, l, kp, putM name (.pointer (some ⟨wc.heap.size, 0, none⟩)) L, G8, ?_⟩, fun k hk => ?_, H4.out.2.1.also ht8 fun k hk => ?_⟩
          · show PDat _ _ q (withFs m1 (withF ⟨name, (fileF name m1.files).data ++ data, (fileF name m1.files).sure⟩ false m1.files)) mb l kp _ G8
            rw [hE2, ← with_with ⟨name, [] ++ data, 0⟩ ⟨name, [], 0⟩ m1.files HH.out.1.srt rfl]
            exact h8
          · have h9 := H4.out.2.1.size
            have h10 := H4.out.2.2
            rcases hk with (hk | hk) | hk
            · exact .inl hk
            · exact .inr (by omega)
            · exact .inr (by omega)
          · rcases hk with e | ⟨a, ha, _⟩
            · exact .inr (by have e' : k = wc.heap.size := e; have := H4.out.2.2; omega)
            · cases ha
    | some f =>
      have HLO := Lib.hid hlo
      clear hlo
      by_cases hfu : C - (Z : Int) < (n : Int)
      · rw [if_pos hfu]
        have d3 : decide (C - (Z : Int) < (n : Int)) = true := decide_eq_true hfu
        have d4 : decide ((n : Int) > C - (Z : Int)) = true := d3
        have e7 : IntKind.i64.wrap (C - (Z : Int)) = C - (Z : Int) := IntWalk.i64_in _ ⟨by omega, by omega⟩
        clear hC1 hC2 hZ0 hfu
        go_enter Tryz.func60, Tryz.ntmps60
        go_wp2_with fail
        refine hB.mono ?_
        rintro e W1 ⟨rfl, ⟨mb, l, kp, L, G, h1⟩, ht1⟩
        have c1 : W1.cell? ⟨q, 1, none⟩ = some (.map (some mb)) := h1.blk.cell 1
        have c0 : W1.cell? ⟨q, 0, none⟩ = some (.int .i64 C) := by rw [← HC.out.1]; exact h1.blk.cell 0
        have hsz := fun w (hb : Below W1.heap.size W1 w) => psize_any w (h1.below hb) (by have := HF.out.1.2.1; omega)
        rw [HC.out.2] at hsz
        have hq := h1.blk.lt
        have HBD : Hid (∀ w, Below W1.heap.size W1 w → Below W1.heap.size W1 w) := Lib.hid (fun w h => h)
        obtain ⟨x, hx, hxf, hfn, hlk⟩ := look_yes h1 T HT.out.2 (by rw [HT.out.1]; exact HLO.out)
        have hlk1 := hlk W1 h1.map
        rw [HT.out.1] at hx hfn
        have HX := Lib.hid (And.intro hx (And.intro hxf hfn))
        have HH := Lib.hid (And.intro h1 ht1)
        clear hB h1 ht1 hx hxf hfn hlk
        go_wp2_with fail
        go_cut [45] from 36 to 45 (fun s45 wx => s45 = .bool true ∧ Below W1.heap.size W1 wx)
        case first =>
          go_region_held3 (fun w' => w'.cell? ⟨q, 0, none⟩ = some (.int .i64 C)) (first | exact t0 | exact c0 | go_keep)
            ((go_at_call 24; refine (hsz _ (below_drewN (Below.refl _ _) 1)).mono ?_; rintro e w7 ⟨rfl, hb7⟩; have t0 := (hb7.cell (p := ⟨q, 0, none⟩) hq).trans c0; have hb8 := HBD.out w7 (bthen (below_drewN (Below.refl _ W1) 1) hb7)))
          all_goals
            go_wp2_with fail
            go_meet
            exact ⟨rfl, hb8⟩
        case rest =>
          obtain ⟨rfl, hb⟩ := hcut
          have HBB := Lib.hid hb
          clear hb
          go_wp2_with fail
          go_ret
          exact ⟨S, rfl, ⟨_, _, _, _, _, HH.out.1.below HBB.out⟩, fun k hk => .inl hk, HH.out.2.trans (Turn.of_below HBB.out)⟩
      · rw [if_neg hfu]
        have d3 : decide (C - (Z : Int) < (n : Int)) = false := decide_eq_false hfu
        have d4 : decide ((n : Int) > C - (Z : Int)) = false := d3
        have e7 : IntKind.i64.wrap (C - (Z : Int)) = C - (Z : Int) := IntWalk.i64_in _ ⟨by omega, by omega⟩
        clear hC1 hC2 hZ0 hfu
        go_enter Tryz.func60, Tryz.ntmps60
        go_wp2_with fail
        refine hB.mono ?_
        rintro e W1 ⟨rfl, ⟨mb, l, kp, L, G, h1⟩, ht1⟩
        have c1 : W1.cell? ⟨q, 1, none⟩ = some (.map (some mb)) := h1.blk.cell 1
        have c0 : W1.cell? ⟨q, 0, none⟩ = some (.int .i64 C) := by rw [← HC.out.1]; exact h1.blk.cell 0
        have hsz := fun w (hb : Below W1.heap.size W1 w) => psize_any w (h1.below hb) (by have := HF.out.1.2.1; omega)
        rw [HC.out.2] at hsz
        have hq := h1.blk.lt
        have HBD : Hid (∀ w, Below W1.heap.size W1 w → Below W1.heap.size W1 w) := Lib.hid (fun w h => h)
        obtain ⟨x, hx, hxf, hfn, hlk⟩ := look_yes h1 T HT.out.2 (by rw [HT.out.1]; exact HLO.out)
        have hlk1 := hlk W1 h1.map
        rw [HT.out.1] at hx hfn
        have HX := Lib.hid (And.intro hx (And.intro hxf hfn))
        have HH := Lib.hid (And.intro h1 ht1)
        clear hB h1 ht1 hx hxf hfn hlk
        go_wp2_with fail
        go_cut [45] from 36 to 45 (fun s45 wx => s45 = .bool false ∧ Below W1.heap.size W1 wx)
        case first =>
          go_region_held3 (fun w' => w'.cell? ⟨q, 0, none⟩ = some (.int .i64 C)) (first | exact t0 | exact c0 | go_keep)
            ((go_at_call 24; refine (hsz _ (below_drewN (Below.refl _ _) 1)).mono ?_; rintro e w7 ⟨rfl, hb7⟩; have t0 := (hb7.cell (p := ⟨q, 0, none⟩) hq).trans c0; have hb8 := HBD.out w7 (bthen (below_drewN (Below.refl _ W1) 1) hb7)))
          all_goals
            go_wp2_with fail
            go_meet
            exact ⟨rfl, hb8⟩
        case rest =>
          obtain ⟨rfl, hb⟩ := hcut
          obtain ⟨h1, ht1⟩ := HH.out
          obtain ⟨hx, hxf, hfn⟩ := HX.out
          have h2 := h1.below hb
          have ht2 : Turn S W wc := ht1.trans (Turn.of_below hb)
          have hat := h2.at_ name x hx
          have hby := (HDA.out.1.turn ht2).byt
          have hown := hat.2
          have k0 : wc.cell? ⟨x.g, 0, none⟩ = some (.slice x.A x.f.data.length x.c) := hat.1.cell 0
          have hxl : x.f.data.length ≤ 40000 := by
            have e1 := h1.tied.file name
            rw [hx] at e1
            have e2 := mem_size m1.files x.f (look_mem name m1.files x.f e1)
            have e3 := HF.out.1.2.1
            omega
          obtain ⟨n0, hn0⟩ : ∃ n0, x.f.data.length = n0 := ⟨_, rfl⟩
          have hX2 : (x.f.data.map bv).length = n0 := by simp [hn0]
          rw [hn0] at hown k0 hxl
          have H2 := Lib.hid (And.intro h2 (And.intro ht2 hn0))
          clear h1 ht1 hx hxf hfn h2 ht2 hat hn0 hX2 hb c0 c1 hlk1 hsz hq
          go_wp2_with (at_builtin; refine wpList_append_byt_at wc rfl _ _ 70 rfl 0 5 iu (.int .u8 0) Tryz.underlying70 hiu hu0 hu1 hu2 rfl _ n0 (x.f.data.map bv) rfl hown wc.heap.size A n c data rfl hby (fun e => (HDA.out.2 e).2) (by omega) (Nat.zero_le _) ?_)
          intro v8 w8 hown8 hgr8 hat8
          rw [← H2.out.2.2] at hown8 hgr8 hat8
          obtain ⟨y0, yz, ⟨A8, c8, rfl⟩, ⟨G8, h8⟩, ht8⟩ := papp_tail H2.out.1 HX.out.1 (by rw [HX.out.2.1]; exact HX.out.2.2) HDA.out.1.1 hown8 hgr8 hat8
          have H8 := Lib.hid (And.intro h8 (And.intro ht8 hgr8.size))
          clear hown8 hgr8 hat8 h8 ht8 hown hby k0
          go_wp2_with fail
          go_ret
          obtain ⟨h8, ht8, hs8⟩ := H8.out
          obtain ⟨hx, hxf, hfn⟩ := HX.out
          have hE2 : fileF name m1.files = f := fileF_some name m1.files f HLO.out
          refine ⟨fun k => S k ∨ (wc.heap.size ≤ k ∧ k < w8.heap.size), rfl, ⟨mb, l, kp, L, G8, ?_⟩, fun k hk => ?_, H2.out.2.1.also ht8 fun k hk => .inl (H2.out.1.sep.inS name x k hx hk).1⟩
          · show PDat _ _ q (withFs m1 (withF ⟨name, (fileF name m1.files).data ++ data, (fileF name m1.files).sure⟩ false m1.files)) mb l kp L G8
            rw [hE2, ← hxf]
            exact h8
          · rcases hk with hk | hk
            · exact .inl hk
            · exact .inr (Nat.le_trans H2.out.2.1.size hk.1)
  · have hE := do_stop m ⟨1, name, [], data, 0, 0⟩ rfl (by show (1 : Int) ≠ 3; omega) (by rw [hr]; exact h0)
    rw [hE, hr, hm1]
    have d0 : (r != 0) = true := by simpa using h0
    clear hE hr h hO hfit hm1 h0
    go_enter Tryz.func60, Tryz.ntmps60
    go_wp2_with fail
    refine hB.mono ?_
    rintro e W1 ⟨rfl, h1, ht1⟩
    have HH := Lib.hid (And.intro h1 ht1)
    clear hB h1 ht1
    go_wp2_with fail
    go_ret
    exact ⟨S, rfl, HH.out.1, fun k hk => .inl hk, HH.out.2⟩

end Go.Proofs.YthjikbhjciphiaaGreatDoor

/-
  Records: equal ones; the first statement of records.
-/
namespace Go.Proofs.YthjikbhjciphiaaGreatDoor
open Go.RowKit
set_option linter.unusedVariables false
set_option linter.unusedSimpArgs false

theorem u64_wf (x : Nat) (h : x < 18446744073709551616) : (Lit.int .u64 ((x : Nat) : Int)).wf = true := by
  simp [Lit.wf, IntKind.min, IntKind.max, IntKind.signed, IntKind.bits]
  omega
theorem i64_wf (k : Int) (h1 : -9223372036854775808 ≤ k) (h2 : k ≤ 9223372036854775807) : (Lit.int .i64 k).wf = true := by
  simp [Lit.wf, IntKind.min, IntKind.max, IntKind.signed, IntKind.bits]
  omega
theorem rc_lits (r : Rc) (T : ByteArray) (hT : T.size ≤ maxLen) (ho : r.okay) :
    Tryz.prog.keyLits 2 35 (rcV r.seq r.kind T r.lease r.n r.bits).cells.toList = some [.int .u64 ((r.seq : Nat) : Int), .int .i64 r.kind, .string T.data.toList, .int .u64 ((r.lease : Nat) : Int), .int .u64 ((r.n : Nat) : Int), .int .u64 ((r.bits : Nat) : Int)] := by
  obtain ⟨o1, o2, o3, o4, o5, o6⟩ := ho
  have c1 : Tryz.prog.cellsOf 23 = 1 := by kernel_rfl
  have c2 : Tryz.prog.cellsOf 3 = 1 := by kernel_rfl
  have c3 : Tryz.prog.cellsOf 9 = 1 := by kernel_rfl
  have c4 : Tryz.prog.cellsOf 35 = 6 := by kernel_rfl
  simp [Program.keyLits, Tryz.underlying35, Tryz.underlying23, Tryz.underlying3, Tryz.underlying9, c1, c2, c3, c4, rcV, Value.cells, u64_wf, i64_wf, o1, o2, o3, o4, o5, o6, hT]

theorem rc_equal (r q : Rc) (T U : ByteArray) (hT : T.size ≤ maxLen) (hU : U.size ≤ maxLen) (hr : r.okay) (hq : q.okay) (w : World) :
    (Op.equalIn 10000 35 (rcV r.seq r.kind T r.lease r.n r.bits) (rcV q.seq q.kind U q.lease q.n q.bits)).run Tryz.prog w = .ok (decide (r.seq = q.seq ∧ r.kind = q.kind ∧ T = U ∧ r.lease = q.lease ∧ r.n = q.n ∧ r.bits = q.bits)) w := by
  obtain ⟨z, hz, hiff⟩ := run_equalIn_deep (P := Tryz.prog) 9998 2 35 (by kernel_rfl) w 2 2 (rcV r.seq r.kind T r.lease r.n r.bits) (rcV q.seq q.kind U q.lease q.n q.bits) _ _ (by
    have c4 : Tryz.prog.cellsOf 35 = 6 := by kernel_rfl
    simp [Value.formed, Tryz.underlying35, rcV, c4]) (by
    have c4 : Tryz.prog.cellsOf 35 = 6 := by kernel_rfl
    simp [Value.formed, Tryz.underlying35, rcV, c4]) (rc_lits r T hT hr) (rc_lits q U hU hq)
  have : z = decide (r.seq = q.seq ∧ r.kind = q.kind ∧ T = U ∧ r.lease = q.lease ∧ r.n = q.n ∧ r.bits = q.bits) := by
    rw [Bool.eq_iff_iff, hiff]
    have hs : T.data.toList = U.data.toList ↔ T = U := ⟨fun h => by
      obtain ⟨⟨x⟩⟩ := T
      obtain ⟨⟨y⟩⟩ := U
      simpa using h, fun h => by rw [h]⟩
    simp only [List.cons.injEq, Lit.int.injEq, Lit.string.injEq, true_and, and_true, decide_eq_true_eq, hs, Int.ofNat_inj]
  rw [← this]
  exact hz

/-- The comparison of two records. -/
theorem rc_eql (r q : Rc) (T U : ByteArray) (hT : T.size ≤ maxLen) (hU : U.size ≤ maxLen) (hr : r.okay) (hq : q.okay) (w : World) :
    (binOp .eql 35 (rcV r.seq r.kind T r.lease r.n r.bits) (rcV q.seq q.kind U q.lease q.n q.bits)).run Tryz.prog w = .ok (.bool (decide (r.seq = q.seq ∧ r.kind = q.kind ∧ T = U ∧ r.lease = q.lease ∧ r.n = q.n ∧ r.bits = q.bits))) w := by
  have h := rc_equal r q T U hT hU hr hq w
  unfold rcV at h ⊢
  simp only [binOp]
  simp [Op.equal, Op.maxDepth, h]

end Go.Proofs.YthjikbhjciphiaaGreatDoor

/-
  Lists of records compared, and whether there are too many; the statement SegRecords by the program's contracts.
-/
namespace Go.Proofs.YthjikbhjciphiaaGreatDoor
open Go.RowKit
set_option linter.unusedVariables false
set_option linter.unusedSimpArgs false

theorem rc_neq (r q : Rc) (T U : ByteArray) (hT : T.size ≤ maxLen) (hU : U.size ≤ maxLen) (hr : r.okay) (hq : q.okay) (w : World) :
    (binOp .neq 35 (rcV r.seq r.kind T r.lease r.n r.bits) (rcV q.seq q.kind U q.lease q.n q.bits)).run Tryz.prog w = .ok (.bool (!decide (r.seq = q.seq ∧ r.kind = q.kind ∧ T = U ∧ r.lease = q.lease ∧ r.n = q.n ∧ r.bits = q.bits))) w := by
  have h := rc_equal r q T U hT hU hr hq w
  unfold rcV at h ⊢
  simp only [binOp]
  simp [Op.equal, Op.maxDepth, h]

/-- Records whose numbers are words and whose names are short. -/
def Fine (l : List Rc) : Prop := ∀ r ∈ l, r.okay ∧ r.ten.length ≤ maxLen

set_option maxRecDepth 100000 in
set_option maxHeartbeats 2000000 in
theorem sameRcs_any (A1 A2 : Option Addr) (n c1 c2 : Nat) (l : List Rc) (S1 S2 : Nat → Prop) (W : World) (h1 : Rcs W S1 A1 n l) (h2 : Rcs W S2 A2 n l) (hn : n ≤ 1000000) (hf : Fine l) :
    Calls Tryz.prog 26 #[.slice A1 n c1, .slice A2 n c2] W fun e W' => e = .returned (.bool true) ∧ ∃ k, W' = W.drewN k := by
  have HN := Lib.hid (And.intro h1.len hn)
  have hnn : ((n : Int) != (n : Int)) = false := by simp
  go_enter Tryz.func26, Tryz.ntmps26
  go_wp2_with fail
  go_loopw [5] (fun i wr => ∃ k q : Nat, k ≤ n ∧ i = .int .i64 (k : Nat) ∧ wr = W.drewN q) (fun i _ => n - (intOf i).toNat)
  case atStart => exact ⟨0, 0, Nat.zero_le _, rfl, rfl⟩
  case round =>
    obtain ⟨k, q, hk, rfl, rfl⟩ := hrel
    by_cases hlt : k < n
    · obtain ⟨r, hr⟩ : ∃ r, l[k]? = some r := ⟨_, List.getElem?_eq_getElem (by have := HN.out; omega)⟩
      obtain ⟨ho, ht⟩ := hf r (List.mem_of_getElem? hr)
      obtain ⟨g1, o1, e1, _, _, a0, a1, a2, a3, a4, a5⟩ := Rcs.at_ h1 hr
      obtain ⟨g2, o2, e2, _, _, b0, b1, b2, b3, b4, b5⟩ := Rcs.at_ h2 hr
      have hne := fun w => rc_neq r r ⟨r.ten.toArray⟩ ⟨r.ten.toArray⟩ (by show r.ten.toArray.size ≤ _; rw [List.size_toArray]; exact ht) (by show r.ten.toArray.size ≤ _; rw [List.size_toArray]; exact ht) ho ho w
      have hdd : (!decide (r.seq = r.seq ∧ r.kind = r.kind ∧ (⟨r.ten.toArray⟩ : ByteArray) = ⟨r.ten.toArray⟩ ∧ r.lease = r.lease ∧ r.n = r.n ∧ r.bits = r.bits)) = false := by simp
      rw [hdd] at hne
      unfold rcV at hne
      have hkn : (k : Int) < (n : Int) := by omega
      have hkl : k ≤ 1000000 := by have := HN.out; omega
      have HK := Lib.hid hlt
      subst e1 e2
      clear hlt hk hr ho ht hdd h1 h2 hf
      go_wp2_with fail
      go_quiet (fail)
      rw [World.drewN_drewN]
      go_wp2_with fail
      go_roundw
      case rel => exact ⟨k + 1, _, by have := HK.out; omega, by go_num, rfl⟩
      case measure => have := HK.out; simp [intOf]; omega
    · have hkn : ¬ (k : Int) < (n : Int) := by omega
      clear hlt hk
      go_wp2_with fail
      go_ret
      exact ⟨rfl, q, rfl⟩

/-- The program's records of segments. -/
structure SegR (I : World → Prop) : Prop extends SegN I where
  box : ∀ (s : Nat) (k : Int) (T : ByteArray) (l n b : Nat) (W : World), I W → (⟨s, k, T.data.toList, l, n, b⟩ : Rc).okay → T.size ≤ 10000 → Calls Tryz.prog 58 #[rcV s k T l n b] W fun e W' => ∃ A m c, e = .returned (.tuple #[.slice A m c, .int .i64 (checkC ⟨s, k, T.data.toList, l, n, b⟩)]) ∧
    Byt W' W'.heap.size A m (if checkC ⟨s, k, T.data.toList, l, n, b⟩ = 0 then boxC (encC ⟨s, k, T.data.toList, l, n, b⟩) else []) ∧ (A = none → c = 0) ∧ m ≤ c ∧ c ≤ maxLen ∧ Below W.heap.size W W'
  records : ∀ (A : Option Addr) (n c : Nat) (L : List (List UInt8)) (W : World), I W → Lst W (fun k => W.heap.size ≤ k) A n L → (A = none → c = 0) → n ≤ c → c ≤ maxLen → sumL L ≤ 100000 → n ≤ 100000 →
    Calls Tryz.prog 30 #[.slice A n c] W fun e W' => ∃ A' k c', e = .returned (.slice A' k c') ∧ Rcs W' (fun _ => False) A' k (segsR [] L) ∧ Below W.heap.size W W'

theorem recP_ten (b : List UInt8) : (recP b).ten.length ≤ 255 := by
  have h : tnB b < 256 := (b.getD 9 0).toNat_lt
  show ((b.drop 10).take (tnB b)).length ≤ 255
  rw [List.length_take]
  omega
theorem takeR_fine : ∀ (bs : List (List UInt8)) (out : List Rc), Fine out → Fine (takeR out bs) := by
  intro bs
  induction bs with
  | nil => intro out h; exact h
  | cons b bs ih =>
    intro out h
    unfold takeR
    split
    · refine ih _ (fun r hr => ?_)
      rcases List.mem_append.1 hr with hr | hr
      · exact h r hr
      · rw [List.mem_singleton.1 hr]
        exact ⟨recP_okay b, Nat.le_trans (recP_ten b) (by unfold maxLen; decide)⟩
    · exact h
theorem segsR_fine : ∀ (l : List (List UInt8)) (out : List Rc), Fine out → Fine (segsR out l) := by
  intro l
  induction l with
  | nil => intro out h; exact h
  | cons s l ih => intro out h; exact ih _ (takeR_fine _ _ h)

end Go.Proofs.YthjikbhjciphiaaGreatDoor
