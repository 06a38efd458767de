/-
  The reference's files behind a crash.
-/
import Derived.Test.YtnjkilmhphcocaaDkB
import Derived.Deep.RegionHeld3
import Derived.Deep.AppendLies
namespace Go.Proofs.Ytnjkilmhphcocaa
open Go.RowKit
set_option linter.unusedVariables false
set_option linter.unusedSimpArgs false

theorem map_take_snoc (g : Fl → Fl) (l : List Fl) (k : Nat) (f : Fl) (h : l[k]? = some f) : (l.take (k + 1)).map g = (l.take k).map g ++ [g f] := by
  rw [List.take_add_one, h]
  simp

set_option maxRecDepth 100000 in
set_option maxHeartbeats 4000000 in
theorem cut_any (A : Option Addr) (n c : Nat) (fs : List Fl) (keep : Int) (S : Nat → Prop) (W : World) (hfl : Fls W S A n fs) (hS : ∀ k, W.heap.size ≤ k → S k) (hn : n ≤ 100000) (hsu : ∀ f ∈ fs, f.sure ≤ f.data.length ∧ f.data.length ≤ 1000000) :
    Calls Try.prog 39 #[.slice A n c, .int .i64 keep] W (FlsOut S (fs.map (cutF keep)) W) := by
  obtain ⟨i0, hi, hz0, hz1, hz2⟩ := info_parts Try.infoFl
  have HF := Lib.hid hfl
  have HSU := Lib.hid hsu
  have HSS := Lib.hid hS
  clear hfl hsu hS
  go_enter Try.func39, Try.ntmps39
  go_wp2
  go_loopw [5, 6] (fun v i wr => ∃ k : Nat, k ≤ n ∧ i = .int .i64 k ∧ ∃ xs, wr.ownsRow W.heap.size 43 3 v k xs ∧ Fx wr S xs ((fs.take k).map (cutF keep)) ∧ Below W.heap.size W wr) (fun _ i _ => n - (intOf i).toNat)
  case atStart => exact ⟨0, Nat.zero_le _, rfl, [], World.ownsRow_nil _ _ _ _, rfl, Below.refl _ _⟩
  case round =>
    obtain ⟨k, hk, rfl, xs, hown, hx, hb⟩ := hrel
    by_cases hlt : k < n
    · obtain ⟨f, hf⟩ : ∃ f, fs[k]? = some f := ⟨_, List.getElem?_eq_getElem (by have := HF.out.1; omega)⟩
      obtain ⟨b, o, rfl, hbS, hfa⟩ := HF.out.2 (by omega)
      obtain ⟨y0, y1, y2, hq0, hq1, hq2, hv⟩ := hfa k f hf
      have hbB : b < W.heap.size := block_lt_of_cell hq0
      obtain ⟨A2, n2, c2, rfl, rfl, rfl, hby, hnil2, hnc2, hcm2⟩ := fl_parts hv
      obtain ⟨hs1, hs2⟩ := HSU.out f (List.mem_of_getElem? hf)
      obtain ⟨T, hT⟩ : ∃ T : ByteArray, ⟨f.name.toArray⟩ = T := ⟨_, rfl⟩
      rw [hT] at hq0
      obtain ⟨su, hsu⟩ : ∃ su, f.sure = su := ⟨_, rfl⟩
      rw [hsu] at hq2 hs1
      have hr0 : wr.cell? ⟨b, o + k * 3, none⟩ = some (.string T) := (hb.cell (p := ⟨b, o + k * 3, none⟩) hbB).trans hq0
      have hr1 : wr.cell? ⟨b, o + k * 3 + 1, none⟩ = some (.slice A2 n2 c2) := (hb.cell (p := ⟨b, o + k * 3 + 1, none⟩) hbB).trans hq1
      have hr2 : wr.cell? ⟨b, o + k * 3 + 2, none⟩ = some (.int .i64 ((su : Nat) : Int)) := (hb.cell (p := ⟨b, o + k * 3 + 2, none⟩) hbB).trans hq2
      have hln := hby.1
      have hsn : su ≤ n2 := by omega
      have hn2 : n2 ≤ 1000000 := by omega
      have HV : Hid (∀ m, m ≤ n2 → m = leftF keep f → FlV wr S (.agg #[.string T, .slice A2 m c2, .int .i64 ((m : Nat) : Int)]) (cutF keep f)) := Lib.hid (fun m hm he => by
        refine ⟨A2, m, c2, by rw [← hT, he]; rfl, ?_, fun h => ⟨by have := (hnil2 h).1; omega, (hnil2 h).2⟩, by omega, hcm2⟩
        have := (hby.turn (Turn.of_below hb)).take hm
        rw [he] at this ⊢
        exact this)
      have HL : Hid (∀ j : Nat, su + j ≤ n2 → ((j : Int) ≤ keep ∨ j = 0) → (¬ ((j : Int) < keep) ∨ ¬ (su + j < n2)) → su + j = leftF keep f) := Lib.hid (fun j h1 h2 h3 => by
        unfold leftF
        rw [hsu, hln]
        omega)
      have HM := Lib.hid (map_take_snoc (cutF keep) fs k f hf)
      have HX := Lib.hid (And.intro hx hb)
      have hbs := hb.size
      have HQ := Lib.hid (And.intro hq0 hq1)
      clear hfa hv hq0 hq1 hq2 hf hs1 hs2 hT hsu hby hnil2 hln hx hb
      go_wp2
      go_loop [7, 8] (fun nv kv => ∃ j : Nat, kv = .int .i64 (j : Int) ∧ nv = .int .i64 (((su + j : Nat) : Int)) ∧ su + j ≤ n2 ∧ ((j : Int) ≤ keep ∨ j = 0)) (fun nv _ => n2 - (intOf nv).toNat)
      case atStart => exact ⟨0, rfl, rfl, hsn, .inr rfl⟩
      case round =>
        obtain ⟨j, rfl, rfl, hj1, hj2⟩ := hrel
        obtain ⟨m, hm⟩ : ∃ m, su + j = m := ⟨_, rfl⟩
        have HMJ := Lib.hid hm
        rw [hm] at hj1 ⊢
        clear hm
        by_cases hjk : (j : Int) < keep
        · have d1 : decide ((j : Int) < keep) = true := decide_eq_true hjk
          by_cases hmn : m < n2
          · have hjn : j ≤ 1000000 := by have := HMJ.out; omega
            go_wp2
            go_round
            case rel => exact ⟨j + 1, by go_num, by have := HMJ.out; rw [← this]; go_num, by have := HMJ.out; omega, .inl (by omega)⟩
            case measure => simp [intOf]; omega
          · have hml : m = leftF keep f := by have h1 := HL.out j (by have := HMJ.out; omega) hj2 (.inr (by have := HMJ.out; omega)); have h2 := HMJ.out; omega
            have HML := Lib.hid hml
            clear hml
            have g1 : (0 : Int) ≤ (m : Int) := by omega
            have g2 : ((m : Nat) : Int) ≤ ((c2 : Nat) : Int) := by omega
            go_wp2_with fail
            go_region_held3 (fun w' => w'.cell? ⟨b, o + k * 3, none⟩ = some (.string T) ∧ w'.cell? ⟨b, o + k * 3 + 1, none⟩ = some (.slice A2 n2 c2)) (first | exact ⟨z0, z1⟩ | go_keep)
              ((refine step_append_lies _ (by rfl) _ _ _ (by rfl) W.heap.size 43 i0 _ 3 48 Try.underlying28 hi hz0 hz1 hz2 rfl (by omega) u5 k xs (by rfl) ((hown.alloc _).drew) ⟨wr.heap.size, 0, none⟩ 1 1 [.string T, .slice A2 m c2, .int .i64 ((m : Nat) : Int)] (by rfl) (by rfl) (World.news_of_block (cs := #[.string T, .slice A2 m c2, .int .i64 ((m : Nat) : Int)]) (t := 43) (fr := (0, 0)) (heap_alloc_new wr _)) (by simp [Value.oneCell']) (by omega) (by unfold maxLen; omega) (by omega) (by simp; omega) (wr.heap.size + 1) (by simp) ?_; intro gg cap w4 hown4 hgrow hat hlt4; have hb4 : Below W.heap.size W w4 := (below_drew (HX.out.2.alloc hbs (.cells #[.string T, .slice A2 m c2, .int .i64 ((m : Nat) : Int)] 43))).grown hgrow (by simp; omega) (fun q hq => (hown.lt q hq).1); have z0 := (hb4.cell (p := ⟨b, o + k * 3, none⟩) hbB).trans HQ.out.1; have z1 := (hb4.cell (p := ⟨b, o + k * 3 + 1, none⟩) hbB).trans HQ.out.2))
            have HR : Hid (w4.ownsRow W.heap.size 43 3 (.slice (some ⟨gg, 0, none⟩) (k + 1) cap) (k + 1) (xs ++ [.string T, .slice A2 m c2, .int .i64 ((m : Nat) : Int)]) ∧ Fx w4 S (xs ++ [.string T, .slice A2 m c2, .int .i64 ((m : Nat) : Int)]) ((fs.take (k + 1)).map (cutF keep)) ∧ Below W.heap.size W w4) := Lib.hid (by
              refine ⟨hown4, ?_, hb4⟩
              rw [HM.out]
              exact Fx.snoc ((HV.out m hj1 HML.out).side HSS.out HX.out.2 hb4) _ _ (HX.out.1.side HSS.out HX.out.2 hb4))
            clear hown4 hgrow hat hlt4 hb4 z0 z1 hown hr0 hr1 hr2
            go_wp2
            go_roundw
            case rel => exact ⟨k + 1, by omega, by go_num, _, HR.out⟩
            case measure => simp [intOf]; omega
        · have hml : m = leftF keep f := by have h1 := HL.out j (by have := HMJ.out; omega) hj2 (.inl (by omega)); have h2 := HMJ.out; omega
          have HML := Lib.hid hml
          have d1 : decide ((j : Int) < keep) = false := decide_eq_false hjk
          clear hml
          have g1 : (0 : Int) ≤ (m : Int) := by omega
          have g2 : ((m : Nat) : Int) ≤ ((c2 : Nat) : Int) := by omega
          go_wp2_with fail
          go_region_held3 (fun w' => w'.cell? ⟨b, o + k * 3, none⟩ = some (.string T) ∧ w'.cell? ⟨b, o + k * 3 + 1, none⟩ = some (.slice A2 n2 c2)) (first | exact ⟨z0, z1⟩ | go_keep)
            ((refine step_append_lies _ (by rfl) _ _ _ (by rfl) W.heap.size 43 i0 _ 3 48 Try.underlying28 hi hz0 hz1 hz2 rfl (by omega) u5 k xs (by rfl) ((hown.alloc _).drew) ⟨wr.heap.size, 0, none⟩ 1 1 [.string T, .slice A2 m c2, .int .i64 ((m : Nat) : Int)] (by rfl) (by rfl) (World.news_of_block (cs := #[.string T, .slice A2 m c2, .int .i64 ((m : Nat) : Int)]) (t := 43) (fr := (0, 0)) (heap_alloc_new wr _)) (by simp [Value.oneCell']) (by omega) (by unfold maxLen; omega) (by omega) (by simp; omega) (wr.heap.size + 1) (by simp) ?_; intro gg cap w4 hown4 hgrow hat hlt4; have hb4 : Below W.heap.size W w4 := (below_drew (HX.out.2.alloc hbs (.cells #[.string T, .slice A2 m c2, .int .i64 ((m : Nat) : Int)] 43))).grown hgrow (by simp; omega) (fun q hq => (hown.lt q hq).1); have z0 := (hb4.cell (p := ⟨b, o + k * 3, none⟩) hbB).trans HQ.out.1; have z1 := (hb4.cell (p := ⟨b, o + k * 3 + 1, none⟩) hbB).trans HQ.out.2))
          have HR : Hid (w4.ownsRow W.heap.size 43 3 (.slice (some ⟨gg, 0, none⟩) (k + 1) cap) (k + 1) (xs ++ [.string T, .slice A2 m c2, .int .i64 ((m : Nat) : Int)]) ∧ Fx w4 S (xs ++ [.string T, .slice A2 m c2, .int .i64 ((m : Nat) : Int)]) ((fs.take (k + 1)).map (cutF keep)) ∧ Below W.heap.size W w4) := Lib.hid (by
            refine ⟨hown4, ?_, hb4⟩
            rw [HM.out]
            exact Fx.snoc ((HV.out m hj1 HML.out).side HSS.out HX.out.2 hb4) _ _ (HX.out.1.side HSS.out HX.out.2 hb4))
          clear hown4 hgrow hat hlt4 hb4 z0 z1 hown hr0 hr1 hr2
          go_wp2
          go_roundw
          case rel => exact ⟨k + 1, by omega, by go_num, _, HR.out⟩
          case measure => simp [intOf]; omega
    · have HR : Hid ((fs.take k).map (cutF keep) = fs.map (cutF keep) ∧ (fs.map (cutF keep)).length = k) := Lib.hid (by
        have h1 := HF.out.1
        rw [List.take_of_length_le (by omega), List.length_map]
        exact ⟨rfl, by omega⟩)
      have HX := Lib.hid (And.intro hown (And.intro hx hb))
      clear hown hx hb
      go_wp2
      go_ret
      obtain ⟨h1, h2, h3⟩ := HX.out
      rw [HR.out.1] at h2
      exact ⟨_, xs, rfl, by rw [HR.out.2]; exact h1, h2, h3⟩

end Go.Proofs.Ytnjkilmhphcocaa
