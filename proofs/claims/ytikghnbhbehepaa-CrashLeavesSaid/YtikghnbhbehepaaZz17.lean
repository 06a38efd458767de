/-
  The program's disk: Files.
-/
import Derived.Test.YtikghnbhbehepaaZz16
import Derived.Test.YtikghnbhbehepaaZz12
import Derived.Recover
import Derived.Shelf.Abstract
namespace Go.Proofs.Ytikghnbhbehepaa
open Go.RowKit
set_option linter.unusedVariables false
set_option linter.unusedSimpArgs false

/-- Looking up a name that is there, its element alone. -/
theorem look_one {w : World} {S : Nat → Prop} {q mb l : Nat} {m : Dk} {kp : Int} {L : List (List UInt8 × Value)} {G : List UInt8 → Option FM} (h : PDat w S q m mb l kp L G) (T : ByteArray) {f : Fl} (hl : lookF T.data.toList m.files = some f) : ∃ x, G T.data.toList = some x ∧ x.f = f ∧ ∀ w', MapS w' Try.prog 9 mb L →
    (Instr.lookup 59 (.map (some mb)) (.string T) false).run Try.prog w' = .ok (.pointer (some ⟨x.g, 0, none⟩)) w' := by
  obtain ⟨x, h1, h2, h3⟩ := h.tied.yes hl
  refine ⟨x, h1, h2, fun w' hw => ?_⟩
  have hs : T.size ≤ maxLen := by
    have e1 := (lookM_mem T.data.toList L).2 (by rw [h3]; rfl)
    rw [← strKeys_mapD] at e1
    have e2 := strKeys_le hw Try.underlying9 _ e1
    simpa using e2
  obtain ⟨v, ps, hr, hv⟩ := World.ownsMap.lookup hw (Maps.string_keyed Try.underlying9) Try.underlying59 (Try.zeroValue76 w') (show rawR (.pointer none) = some (.held (.pointer none), []) from rfl) (Go.WideMaps.keyOf_string_mk Try.underlying9 hs)
  rw [mapD_at, h3] at hv
  have hv2 : v = .pointer (some ⟨x.g, 0, none⟩) := by
    have : (some (DataW.held v, []) : Option (DataW Value × List MemPlace)) = some (.held (.pointer (some ⟨x.g, 0, none⟩)), ps) := hv
    simpa using congrArg (fun o => o.map (·.1)) this
  rw [hr, hv2]
theorem srt_look (fs : List Fl) (hs : SrtF fs) (k : Nat) (f : Fl) (h : fs[k]? = some f) : lookF f.name fs = some f := by
  induction fs generalizing k with
  | nil => cases h
  | cons g r ih =>
    have hs1 := List.pairwise_cons.1 hs
    rw [look_cons]
    cases k with
    | zero =>
      obtain rfl : g = f := by simpa using h
      rw [if_pos rfl]
    | succ k =>
      have hr : r[k]? = some f := by simpa using h
      have h1 := hs1.1 f (List.mem_of_getElem? hr)
      rw [if_neg (fun e => by rw [e, bl_irrefl] at h1; cases h1)]
      exact ih hs1.2 k hr

/-- Blocks that were there, and those of a row. -/
def Old (W : World) (v : Value) (k : Nat) : Prop := k < W.heap.size ∨ v.ownBlock = some k
theorem files_step {W wr w7 w4 : World} {v : Value} {gg cap nn dn c7 su : Nat} {xs : List Value} {fs : List Fl} {f : Fl} {T : ByteArray} {A7 : Option Addr} {o : Obj} {bs : List UInt8}
    (hx : Fx wr (Old W v) xs fs) (hb8 : Below wr.heap.size wr w7) (hgrow : (w7.alloc o).grownBy w4 v.ownBlock) (hat : v.ownBlock = some gg ∨ gg = w7.heap.size + 1) (hW : W.heap.size ≤ wr.heap.size) (hob : ∀ j, v.ownBlock = some j → j < wr.heap.size)
    (hown7 : w7.ownsRow wr.heap.size 5 1 (.slice A7 dn c7) dn (bs.map bv)) (hq1 : A7 = none → dn = 0 ∧ c7 = 0) (hq2 : dn ≤ c7) (hq3 : c7 ≤ maxLen) (hT : ⟨f.name.toArray⟩ = T) (hd : f.data = bs) (hs : f.sure = su) :
    Fx w4 (Old W (.slice (some ⟨gg, 0, none⟩) nn cap)) (xs ++ [.string T, .slice A7 dn c7, .int .i64 ((su : Nat) : Int)]) (fs ++ [f]) := by
  have hsz : (w7.alloc o).heap.size = w7.heap.size + 1 := by simp
  have ht8 : Turn (fun k => Old W v k ∨ k = gg) (w7.alloc o) w4 := ⟨hgrow.os, hgrow.tape, hgrow.output, hgrow.size, fun k hk hne => hgrow.block k hk fun e => hne (.inl (.inr e.symm))⟩
  have key : ∀ u g, FlV w7 (Old W v) u g → FlV w4 (Old W (.slice (some ⟨gg, 0, none⟩) nn cap)) u g := by
    intro u g h
    have h1 : FlV (w7.alloc o) (Old W v) u g := h.turn (((Turn.refl (Old W v) w7).alloc o))
    have h2 : FlV (w7.alloc o) (fun k => Old W v k ∨ k = gg) u g := h1.more fun k hk hlt => by
      rcases hk with hk | hk
      · exact hk
      · rcases hat with e | e
        · rw [hk]; exact .inr e
        · omega
    refine (h2.turn ht8).less fun k hk => ?_
    rcases hk with hk | hk
    · exact .inl (.inl hk)
    · exact .inr (Option.some.inj hk).symm
  have hnew : FlV w7 (Old W v) (.agg #[.string T, .slice A7 dn c7, .int .i64 ((su : Nat) : Int)]) f := by
    refine ⟨A7, dn, c7, by rw [← hT, ← hs], ?_, hq1, hq2, hq3⟩
    rw [hd]
    refine BytS.of_own hown7 fun k hk => ?_
    rcases hk with hk | hk
    · omega
    · exact hob k hk
  exact Fx.snoc (key _ _ hnew) _ _ (Fx.keep (fun u g h => key u g (h.turn (Turn.of_below hb8))) _ _ hx)

theorem far_cell {w7 w4 : World} {v u : Value} {o : Obj} {a : Addr} (h : w7.cell? a = some u) (hgrow : (w7.alloc o).grownBy w4 v.ownBlock) (hne : v.ownBlock ≠ some a.block) : w4.cell? a = some u := by
  have hlt := block_lt_of_cell h
  have h1 : (w7.alloc o).cell? a = some u := (World.cell?_alloc_lt w7 o a hlt).trans h
  exact (hgrow.cell_far a (block_lt_of_cell h1) (fun e => hne e.symm)).trans h1
theorem grow_below {W1 wr w7 w4 : World} {v : Value} {o : Obj} {B : Nat} (hb : Below B W1 wr) (hB : B ≤ wr.heap.size) (hb8 : Below wr.heap.size wr w7) (hgrow : (w7.alloc o).grownBy w4 v.ownBlock) (ho : ∀ j, v.ownBlock = some j → B ≤ j) : Below B W1 w4 := by
  have h1 := hb8.size
  refine ((hb.trans (hb8.mono hB)).alloc (by omega) o).grown hgrow ?_ ho
  simp
  omega

set_option maxRecDepth 100000 in
set_option maxHeartbeats 2000000 in
theorem pfiles_any (W : World) (S : Nat → Prop) (q : Nat) (m : Dk) (h : PD W S q m) (hO : OkD 200 m) :
    Calls Try.prog 19 #[.pointer (some ⟨q, 0, none⟩)] W fun e W' => ∃ v xs, e = .returned v ∧ W'.ownsRow W.heap.size 54 3 v m.files.length xs ∧ Fx W' (fun k => k < W.heap.size) xs m.files ∧ Below W.heap.size W W' := by
  have hli := plist_any W S q m h hO
  obtain ⟨mb, l, kp, L, G, h⟩ := h
  have hbig : ∀ f ∈ m.files, f.name.length ≤ 10000 → True := fun _ _ _ => trivial
  obtain ⟨n, hn⟩ : ∃ n, m.files.length = n := ⟨_, rfl⟩
  rw [hn] at hli ⊢
  have hn2 : n ≤ 200 := by have := hO.len; omega
  have HH := Lib.hid h
  have HO := Lib.hid (And.intro (hO.good (by omega)) hn)
  have hql := h.blk.lt
  obtain ⟨i0, hi, hz0, hz1, hz2⟩ := info_parts Try.infoFl
  clear h hO hn hbig
  go_enter Try.func19, Try.ntmps19
  go_wp2_with fail
  refine hli.mono ?_
  rintro e W1 ⟨vn, rfl, hrow, hb1⟩
  obtain ⟨A1, c1, rfl, hf1, hf2, hf3⟩ := own_form hrow
  have HV := Lib.hid (And.intro (Vals.of_own hrow) hb1)
  clear hli hrow hb1 hf1
  go_wp2_with fail
  go_loopw [3, 10] (fun v i wr => ∃ k : Nat, k ≤ n ∧ i = .int .i64 k ∧ ∃ xs, wr.ownsRow W1.heap.size 54 3 v k xs ∧ Fx wr (Old W v) xs (m.files.take k) ∧ Below W1.heap.size W1 wr) (fun _ i _ => n - (intOf i).toNat)
  case atStart => exact ⟨0, Nat.zero_le _, rfl, [], World.ownsRow_nil _ _ _ _, rfl, Below.refl _ _⟩
  case round =>
    obtain ⟨k, hk, rfl, xs, hown, hx, hb⟩ := hrel
    by_cases hlt : k < n
    · obtain ⟨f, hf⟩ : ∃ f, m.files[k]? = some f := ⟨_, List.getElem?_eq_getElem (by have := HO.out.2; omega)⟩
      obtain ⟨b, o, x0, rfl, hbB, hx0, hc0⟩ := (HV.out.1.below hb).at_ hlt
      obtain ⟨T, hT⟩ : ∃ T : ByteArray, ⟨f.name.toArray⟩ = T := ⟨_, rfl⟩
      obtain rfl : x0 = .string T := by
        have e1 : (wsV (m.files.map Fl.name))[k]? = some (.string ⟨f.name.toArray⟩) := by
          unfold wsV
          rw [List.getElem?_map, List.getElem?_map, hf]; rfl
        rw [e1] at hx0
        rw [← hT]
        exact (Option.some.inj hx0).symm
      have hlo : lookF f.name m.files = some f := srt_look m.files HH.out.srt k f hf
      have hTl : T.data.toList = f.name := by rw [← hT]
      obtain ⟨x, hxG, hxf, hlk⟩ := look_one HH.out T (f := f) (by rw [hTl]; exact hlo)
      rw [hTl] at hxG
      have hw1 : Turn (fun _ => False) W wr := Turn.of_below (bthen HV.out.2 hb)
      have hxa := FM.turn (HH.out.at_ _ x hxG) hw1 (fun k hk e => e.elim)
      have hlk1 := hlk wr (HH.out.map.turn hw1 (fun e => e.elim))
      have cq : wr.cell? ⟨q, 1, none⟩ = some (.map (some mb)) := (HH.out.turn hw1 (fun k hk => hk.elim)).blk.cell 1
      have hsm := HH.out.small (k := 0) HO.out.1 hxG
      have c1x : wr.cell? ⟨x.g, 1, none⟩ = some (.int .i64 ((x.f.sure : Nat) : Int)) := hxa.1.cell 1
      have hby := fun w (hb : Below wr.heap.size wr w) => pbytes_any x w (FM.turn hxa (Turn.of_below hb : Turn (fun _ => False) wr w) (fun k hk e => e.elim)) hsm.1
      have hgl := hxa.1.lt
      have hgW := HH.out.lt x.g (HH.out.sep.inS _ x x.g hxG (.inl rfl)).1
      have hWs := HV.out.2.size
      have hus : u5.ownBlock = u5.ownBlock := rfl
      obtain ⟨g, hg⟩ : ∃ g, x.g = g := ⟨_, rfl⟩
      obtain ⟨su, hsu⟩ : ∃ su, x.f.sure = su := ⟨_, rfl⟩
      rw [hg] at hlk1 hby hgl c1x hgW
      rw [hsu] at c1x
      have HX := Lib.hid (And.intro hx (And.intro hb (And.intro hg (And.intro hsu (And.intro hxf hT)))))
      have HM : Hid (m.files.take (k + 1) = m.files.take k ++ [f]) := Lib.hid (by rw [List.take_add_one, hf]; rfl)
      obtain ⟨dn, hdn⟩ : ∃ dn, x.f.data.length = dn := ⟨_, rfl⟩
      rw [hdn] at hby hsm
      have HD := Lib.hid hdn
      have hbs := hb.size
      have j0 : (0 : Int) ≤ (k : Int) := by omega
      have j1 : (k : Int) < (n : Int) := by omega
      have hob : ∀ j, u3.ownBlock = some j → j < wr.heap.size := fun j hj => (hown.lt j hj).2
      have HOB := Lib.hid hob
      have hbo : ∀ j, u3.ownBlock = some j → W1.heap.size ≤ j := fun j hj => (hown.lt j hj).1
      have hneg : u3.ownBlock ≠ some g := fun e => by have := hbo g e; omega
      clear hf hT hx0 hlo hTl hlk hxG hxf hw1 hxa hx hb hg hsu hus hdn hob
      go_wp2_with fail
      go_region_held3 (fun w' => w'.cell? ⟨g, 1, none⟩ = some (.int .i64 ((su : Nat) : Int))) (first | exact z1 | exact t1 | exact c1x | go_keep)
        ((first
          | (go_at_call 38; refine (hby _ (below_drewN (Below.refl _ _) 1)).mono ?_; rintro e w7 ⟨v7, rfl, hown7, hb7⟩; obtain ⟨A7, c7, rfl, hq1, hq2, hq3⟩ := own_form hown7; have hb8 : Below wr.heap.size wr w7 := bthen (below_drewN (Below.refl _ wr) 1) hb7; have t1 := (hb7.cell (p := ⟨g, 1, none⟩) hgl).trans c1x; have hown8 := own_below hown hb8)
          | (refine step_append_lies _ (by rfl) _ _ _ (by rfl) W1.heap.size 54 i0 _ 3 48 Try.underlying28 hi hz0 hz1 hz2 rfl (by omega) u3 k xs (by rfl) ((hown8.alloc _).drew) ⟨w7.heap.size, 0, none⟩ 1 1 [.string T, .slice A7 dn c7, .int .i64 ((su : Nat) : Int)] (by rfl) (by rfl) (World.news_of_block (cs := #[.string T, .slice A7 dn c7, .int .i64 ((su : Nat) : Int)]) (t := 54) (fr := (0, 0)) (heap_alloc_new w7 _)) (by simp [Value.oneCell']) (by omega) (by unfold maxLen; omega) (by omega) (by have := hb8.size; simp; omega) (w7.heap.size + 1) (by simp) ?_; intro gg cap w4 hown4 hgrow hat hlt4; have z1 : w4.cell? ⟨g, 1, none⟩ = some (.int .i64 ((su : Nat) : Int)) := far_cell t1 hgrow hneg; have hb4 : Below W1.heap.size W1 w4 := grow_below HX.out.2.1 hbs hb8 hgrow hbo)))
      have HR : Hid (w4.ownsRow W1.heap.size 54 3 (.slice (some ⟨gg, 0, none⟩) (k + 1) cap) (k + 1) (xs ++ [.string T, .slice A7 dn c7, .int .i64 ((su : Nat) : Int)]) ∧ Fx w4 (Old W (.slice (some ⟨gg, 0, none⟩) (k + 1) cap)) (xs ++ [.string T, .slice A7 dn c7, .int .i64 ((su : Nat) : Int)]) (m.files.take (k + 1)) ∧ Below W1.heap.size W1 w4) := Lib.hid (by
        obtain ⟨hx, hb, hg, hsu, hxf, hT⟩ := HX.out
        refine ⟨hown4, ?_, hb4⟩
        rw [HM.out]
        exact files_step hx hb8 hgrow hat (by have := HV.out.2.size; omega) HOB.out hown7 hq1 hq2 hq3 hT (by rw [hxf]) (by rw [← hsu, hxf]))
      clear hown4 hgrow hat hlt4 z1 hb4 hown hown7 hown8 hb7 hb8 t1 cq c1x hc0 hby hlk1
      go_wp2_with fail
      go_roundw
      case rel => exact ⟨k + 1, by omega, by go_num, _, HR.out⟩
      case measure => simp [intOf]; omega
    · obtain rfl : k = n := by omega
      have HR := Lib.hid (And.intro hown (And.intro hx hb))
      clear hown hx hb
      go_wp2_with fail
      go_ret
      obtain ⟨hown, hx, hb⟩ := HR.out
      refine ⟨u3, xs, rfl, own_mono hown HV.out.2.size, ?_, bthen HV.out.2 hb⟩
      rw [List.take_of_length_le (by have := HO.out.2; omega)] at hx
      exact hx.less fun k hk => .inl hk

end Go.Proofs.Ytikghnbhbehepaa

/-
  The program's work: what a call does; the function that catches what was thrown.
-/
namespace Go.Proofs.Ytikghnbhbehepaa
open Go.RowKit
set_option linter.unusedVariables false
set_option linter.unusedSimpArgs false

/-- What is done with a disk, a call by a call; nil, if it is none. -/
def callV (K : Int) (g : Nat) : Value :=
  if K = 1 then .func (.func 41) #[] #[.pointer (some ⟨g, 0, none⟩)]
  else if K = 2 then .func (.func 43) #[] #[.pointer (some ⟨g, 0, none⟩)]
  else if K = 3 then .func (.func 45) #[] #[.pointer (some ⟨g, 0, none⟩)]
  else if K = 4 then .func (.func 47) #[] #[.pointer (some ⟨g, 0, none⟩)]
  else .nilFunc

set_option maxHeartbeats 1000000 in
theorem pcall_any (o : Wk) (A : Option Addr) (n c : Nat) (W : World) :
    Calls Try.prog 28 #[wkV o A n c] W fun e W' => e = .returned (callV o.kind W.heap.size) ∧ W' = W.alloc (.cells #[.int .i64 o.kind, .string ⟨o.name.toArray⟩, .string ⟨o.dest.toArray⟩, .slice A n c] 49) := by
  obtain ⟨K, hK⟩ : ∃ K, o.kind = K := ⟨_, rfl⟩
  unfold wkV
  rw [hK]
  clear hK
  have hmf : ∀ (fn : Fn) (first cap : Array Value) (w : World), (Instr.makeFunc fn first cap).run Try.prog w = .ok (.func fn first cap) w := fun _ _ _ _ => rfl
  by_cases k1 : K = 1
  · subst k1
    go_enter Try.func28, Try.ntmps28
    go_wp2
    go_ret
    exact ⟨rfl, rfl⟩
  by_cases k2 : K = 2
  · subst k2
    go_enter Try.func28, Try.ntmps28
    go_wp2
    go_ret
    exact ⟨rfl, rfl⟩
  by_cases k3 : K = 3
  · subst k3
    go_enter Try.func28, Try.ntmps28
    go_wp2
    go_ret
    exact ⟨rfl, rfl⟩
  by_cases k4 : K = 4
  · subst k4
    go_enter Try.func28, Try.ntmps28
    go_wp2
    go_ret
    exact ⟨rfl, rfl⟩
  have hv : callV K W.heap.size = .nilFunc := by unfold callV; rw [if_neg k1, if_neg k2, if_neg k3, if_neg k4]
  rw [hv]
  have d1 : (K == 1) = false := by simpa using k1
  have d2 : (K == 2) = false := by simpa using k2
  have d3 : (K == 3) = false := by simpa using k3
  have d4 : (K == 4) = false := by simpa using k4
  clear k1 k2 k3 k4 hv
  go_enter Try.func28, Try.ntmps28
  go_wp2
  go_ret
  exact ⟨rfl, rfl⟩

/-- What the box of a call holds. -/
def OpAt (W : World) (g : Nat) (o : Wk) (A : Option Addr) (n c : Nat) : Prop :=
  W.cell? ⟨g, 0, none⟩ = some (.int .i64 o.kind) ∧ W.cell? ⟨g, 1, none⟩ = some (.string ⟨o.name.toArray⟩) ∧ W.cell? ⟨g, 2, none⟩ = some (.string ⟨o.dest.toArray⟩) ∧ W.cell? ⟨g, 3, none⟩ = some (.slice A n c)
/-- Small enough. -/
def SmallO (o : Wk) : Prop := o.data.length ≤ 200 ∧ o.name.length ≤ 100 ∧ o.dest.length ≤ 100
/-- A function that does the calls of one kind. -/
structure Does (F : FuncId) (K : Int) : Prop where
  enters : ∀ args w, (callFunc F args).run Try.prog w = .ok (.enter F args) w
  does : ∀ (W : World) (S : Nat → Prop) (q : Nat) (m : Dk) (o : Wk) (A : Option Addr) (n c g : Nat), o.kind = K → PD W S q m → OkD 200 m → SmallO o → OpAt W g o A n c → BytS W S A n o.data → (A = none → n = 0 ∧ c = 0) →
    Calls Try.prog F #[.pointer (some ⟨q, 0, none⟩), .pointer (some ⟨g, 0, none⟩)] W (StepPost PD S q (doD m o.sp) W)

set_option maxHeartbeats 1000000 in
theorem does_append : Does 41 1 := by
  refine ⟨enters_of Try.func41 (by kernel_rfl) rfl, ?_⟩
  intro W S q m o A n c g hK h hO hs hat hda hnil
  have hC := pappend_any W S q m o.name o.data A n c h hO hs.2.1 hs.1 hda hnil
  have e := doD_app m o.sp hK
  rw [show (⟨1, o.name, [], o.data, 0, 0⟩ : Sp) = ⟨1, o.sp.name, [], o.sp.data, 0, 0⟩ from rfl, ← e] at hC
  obtain ⟨r, hr⟩ : ∃ r, doD m o.sp = r := ⟨_, rfl⟩
  rw [hr] at hC ⊢
  obtain ⟨T, hT⟩ : ∃ T : ByteArray, ⟨o.name.toArray⟩ = T := ⟨_, rfl⟩
  obtain ⟨p0, p1, p2, p3⟩ := hat
  rw [hT] at hC p1
  clear e hr hT hK h hO hs hda hnil p0 p2
  go_enter Try.func41, Try.ntmps41
  go_wp2_with fail
  refine hC.mono ?_
  intro e W' hp
  obtain ⟨S', rfl, h2⟩ := hp
  have HP := Lib.hid h2
  clear hC h2
  go_wp2_with fail
  go_ret
  exact ⟨S', rfl, HP.out⟩

set_option maxHeartbeats 1000000 in
theorem does_sync : Does 43 2 := by
  refine ⟨enters_of Try.func43 (by kernel_rfl) rfl, ?_⟩
  intro W S q m o A n c g hK h hO hs hat hda hnil
  have hC := psync_any W S q m o.name h hO hs.2.1
  have e := doD_sync m o.sp hK
  rw [show (⟨2, o.name, [], [], 0, 0⟩ : Sp) = ⟨2, o.sp.name, [], [], 0, 0⟩ from rfl, ← e] at hC
  obtain ⟨r, hr⟩ : ∃ r, doD m o.sp = r := ⟨_, rfl⟩
  rw [hr] at hC ⊢
  obtain ⟨T, hT⟩ : ∃ T : ByteArray, ⟨o.name.toArray⟩ = T := ⟨_, rfl⟩
  obtain ⟨p0, p1, p2, p3⟩ := hat
  rw [hT] at hC p1
  clear e hr hT hK h hO hs hda hnil p0 p2 p3
  go_enter Try.func43, Try.ntmps43
  go_wp2_with fail
  refine hC.mono ?_
  intro e W' hp
  obtain ⟨S', rfl, h2⟩ := hp
  have HP := Lib.hid h2
  clear hC h2
  go_wp2_with fail
  go_ret
  exact ⟨S', rfl, HP.out⟩

set_option maxHeartbeats 1000000 in
theorem does_rename : Does 45 3 := by
  refine ⟨enters_of Try.func45 (by kernel_rfl) rfl, ?_⟩
  intro W S q m o A n c g hK h hO hs hat hda hnil
  have hC := prename_any W S q m o.name o.dest h hO hs.2.1 hs.2.2
  have e := doD_ren m o.sp hK
  rw [show (⟨3, o.name, o.dest, [], 0, 0⟩ : Sp) = ⟨3, o.sp.name, o.sp.to, [], 0, 0⟩ from rfl, ← e] at hC
  obtain ⟨r, hr⟩ : ∃ r, doD m o.sp = r := ⟨_, rfl⟩
  rw [hr] at hC ⊢
  obtain ⟨T, hT⟩ : ∃ T : ByteArray, ⟨o.name.toArray⟩ = T := ⟨_, rfl⟩
  obtain ⟨U, hU⟩ : ∃ U : ByteArray, ⟨o.dest.toArray⟩ = U := ⟨_, rfl⟩
  obtain ⟨p0, p1, p2, p3⟩ := hat
  rw [hT, hU] at hC
  rw [hT] at p1
  rw [hU] at p2
  clear e hr hT hU hK h hO hs hda hnil p0 p3
  go_enter Try.func45, Try.ntmps45
  go_wp2_with fail
  refine hC.mono ?_
  intro e W' hp
  obtain ⟨S', rfl, h2⟩ := hp
  have HP := Lib.hid h2
  clear hC h2
  go_wp2_with fail
  go_ret
  exact ⟨S', rfl, HP.out⟩

set_option maxHeartbeats 1000000 in
theorem does_remove : Does 47 4 := by
  refine ⟨enters_of Try.func47 (by kernel_rfl) rfl, ?_⟩
  intro W S q m o A n c g hK h hO hs hat hda hnil
  have hC := prem_any W S q m o.name h hO hs.2.1
  have e := doD_rem m o.sp hK
  rw [show (⟨4, o.name, [], [], 0, 0⟩ : Sp) = ⟨4, o.sp.name, [], [], 0, 0⟩ from rfl, ← e] at hC
  obtain ⟨r, hr⟩ : ∃ r, doD m o.sp = r := ⟨_, rfl⟩
  rw [hr] at hC ⊢
  obtain ⟨T, hT⟩ : ∃ T : ByteArray, ⟨o.name.toArray⟩ = T := ⟨_, rfl⟩
  obtain ⟨p0, p1, p2, p3⟩ := hat
  rw [hT] at hC p1
  clear e hr hT hK h hO hs hda hnil p0 p2 p3
  go_enter Try.func47, Try.ntmps47
  go_wp2_with fail
  refine hC.mono ?_
  intro e W' hp
  obtain ⟨S', rfl, h2⟩ := hp
  have HP := Lib.hid h2
  clear hC h2
  go_wp2_with fail
  go_ret
  exact ⟨S', rfl, HP.out⟩

/-- One of the work's calls is done by one of the four. -/
theorem call_does (o : Wk) (g : Nat) (h : isWk o = true) : ∃ F, callV o.kind g = .func (.func F) #[] #[.pointer (some ⟨g, 0, none⟩)] ∧ Does F o.kind := by
  have hk : 1 ≤ o.sp.kind ∧ o.sp.kind ≤ 4 := by
    unfold isWk isCall at h
    simpa using h
  change 1 ≤ o.kind ∧ o.kind ≤ 4 at hk
  unfold callV
  by_cases k1 : o.kind = 1
  · rw [if_pos k1, k1]; exact ⟨_, rfl, does_append⟩
  by_cases k2 : o.kind = 2
  · rw [if_neg k1, if_pos k2, k2]; exact ⟨_, rfl, does_sync⟩
  by_cases k3 : o.kind = 3
  · rw [if_neg k1, if_neg k2, if_pos k3, k3]; exact ⟨_, rfl, does_rename⟩
  have k4 : o.kind = 4 := by omega
  rw [if_neg k1, if_neg k2, if_neg k3, if_pos k4, k4]
  exact ⟨_, rfl, does_remove⟩
theorem call_none_of (o : Wk) (g : Nat) (h : isWk o = false) : callV o.kind g = .nilFunc := by
  have hk : ¬ (1 ≤ o.kind ∧ o.kind ≤ 4) := fun hk => by
    unfold isWk isCall at h
    have h2 : decide (1 ≤ o.kind) = true := decide_eq_true hk.1
    have h3 : decide (o.kind ≤ 4) = true := decide_eq_true hk.2
    have : (decide (1 ≤ o.sp.kind) && decide (o.sp.kind ≤ 4)) = true := by
      show (decide (1 ≤ o.kind) && decide (o.kind ≤ 4)) = true
      rw [h2, h3]; rfl
    rw [this] at h
    cases h
  unfold callV
  rw [if_neg (by omega), if_neg (by omega), if_neg (by omega), if_neg (by omega)]

theorem assert_errno (v : Value) (w : World) : (Instr.typeAssert (.iface 42 v) 20 42 true).run Try.prog w = .ok (.tuple #[v, .bool true]) w := by kernel_rfl

attribute [local go_sem] assert_errno in
set_option maxRecDepth 100000 in
set_option maxHeartbeats 1000000 in
/-- The deferred function, where the work panics of an answer: it is caught. -/
theorem catch_panic (g : Nat) (x e : Int) (older : List PanicEntry) (w : World) (hc : w.cell? ⟨g, 0, none⟩ = some (.int .i64 x)) (hz : w.frozen? ⟨g, 0, none⟩ = false) :
    CallsD Try.prog 40 #[.pointer (some ⟨g, 0, none⟩)] (.panicking ({ v := .iface 42 (.int .i64 e), recovered := false } :: older)) w fun r u' w' =>
      r = .returned (.tuple #[]) ∧ u' = .panicking ({ v := .iface 42 (.int .i64 e), recovered := true } :: older) ∧ w' = w.setCell ⟨g, 0, none⟩ (.int .i64 e) := by
  refine callsD_of_wpS Try.func40 rfl fun c₀ cs hu => ?_
  apply wpS_seq
  apply wpS_region
  simp [wpOpsS, go_sem, recoverD, hu, Try.ntmps40, Exit.thenS]
  refine wpS_of_wp ?_
  have et : (#[Value.pointer (some ⟨g, 0, none⟩)] ++ (Array.replicate 10 undef).setIfInBounds 3 (Value.iface 42 (.int .i64 e))) = #[Value.pointer (some ⟨g, 0, none⟩), undef, undef, undef, Value.iface 42 (.int .i64 e), undef, undef, undef, undef, undef, undef] := rfl
  rw [et]
  clear et
  go_wp2
  cases c₀
  simp_all [bodyPostS, results, Try.results40]

set_option maxRecDepth 100000 in
set_option maxHeartbeats 1000000 in
/-- The deferred function, where the work returns: nothing is done. -/
theorem catch_none (g : Nat) (w : World) :
    CallsD Try.prog 40 #[.pointer (some ⟨g, 0, none⟩)] .returning w fun r u' w' => r = .returned (.tuple #[]) ∧ u' = .returning ∧ w' = w := by
  refine callsD_of_wpS Try.func40 rfl fun c₀ cs hu => ?_
  apply wpS_seq
  apply wpS_region
  simp [wpOpsS, go_sem, recoverD, hu, Try.ntmps40, Exit.thenS]
  refine wpS_of_wp ?_
  have et : (#[Value.pointer (some ⟨g, 0, none⟩)] ++ (Array.replicate 10 undef).setIfInBounds 3 Value.nilIface) = #[Value.pointer (some ⟨g, 0, none⟩), undef, undef, undef, Value.nilIface, undef, undef, undef, undef, undef, undef] := rfl
  rw [et]
  clear et
  go_wp2
  cases c₀
  simp_all [bodyPostS, results, Try.results40]

end Go.Proofs.Ytikghnbhbehepaa
