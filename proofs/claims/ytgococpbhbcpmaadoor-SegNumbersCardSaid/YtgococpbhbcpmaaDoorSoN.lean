/-
  The library's Compact at words in order: each once.
-/
import Derived.Test.YtgococpbhbcpmaaDoorSoL
import Derived.Test.YtgococpbhbcpmaaDoorMid
import Derived.Lib.SliceRun
namespace Go.Proofs.YtgococpbhbcpmaaDoor
open Go.RowKit
set_option linter.unusedVariables false
set_option linter.unusedSimpArgs false

/-- Rising strictly up to k. -/
def Sup (k : Nat) (ys : List Nat) : Prop := ∀ j, 0 < j → j < k → atN ys (j - 1) < atN ys j
/-- m places looked at, the first kk hold each of them once. -/
def CmpI (m kk : Nat) (xs ys : List Nat) : Prop := 0 < kk ∧ kk < m ∧ m ≤ xs.length ∧ ys.length = xs.length ∧ (∀ j, kk ≤ j → atN ys j = atN xs j) ∧ Sup kk ys ∧ (∀ j, j < m → ∃ i, i < kk ∧ atN ys i = atN xs j) ∧ (∀ i, i < kk → ∃ j, j < m ∧ atN xs j = atN ys i) ∧ atN ys (kk - 1) = atN xs (m - 1)
theorem cmp_start {k : Nat} {xs : List Nat} (h0 : 0 < k) (hk : k < xs.length) (hs : Sup k xs) (he : atN xs k = atN xs (k - 1)) : CmpI (k + 1) k xs xs :=
  ⟨h0, by omega, hk, rfl, fun _ _ => rfl, hs, fun j hj => by
    by_cases e : j = k
    · exact ⟨k - 1, by omega, by rw [e, he]⟩
    · exact ⟨j, by omega, rfl⟩, fun i hi => ⟨i, by omega, rfl⟩, by rw [← he, Nat.add_sub_cancel]⟩
theorem cmp_skip {m kk : Nat} {xs ys : List Nat} (h : CmpI m kk xs ys) (hm : m < xs.length) (he : atN xs m = atN xs (m - 1)) : CmpI (m + 1) kk xs ys := by
  obtain ⟨h1, h2, h3, h4, h5, h6, h7, h8, h9⟩ := h
  refine ⟨h1, by omega, hm, h4, h5, h6, fun j hj => ?_, fun i hi => ?_, by rw [h9, ← he, Nat.add_sub_cancel]⟩
  · by_cases e : j = m
    · subst e
      obtain ⟨i, hi, hv⟩ := h7 (j - 1) (by omega)
      exact ⟨i, hi, by rw [hv, he]⟩
    · exact h7 j (by omega)
  · obtain ⟨j, hj, hv⟩ := h8 i hi
    exact ⟨j, by omega, hv⟩
theorem at_set (ys : List Nat) (k x t : Nat) (hk : k < ys.length) : atN (ys.set k x) t = if t = k then x else atN ys t := by
  unfold atN
  simp only [List.getD_eq_getElem?_getD]
  rw [List.getElem?_set]
  by_cases h : t = k
  · subst h
    rw [if_pos rfl, if_pos hk, if_pos rfl]
    rfl
  · rw [if_neg (fun e => h e.symm), if_neg h]
theorem cmp_keep {m kk x : Nat} {xs ys : List Nat} (h : CmpI m kk xs ys) (hm : m < xs.length) (hx : atN xs m = x) (hlt : atN xs (m - 1) < x) : CmpI (m + 1) (kk + 1) xs (ys.set kk x) := by
  obtain ⟨h1, h2, h3, h4, h5, h6, h7, h8, h9⟩ := h
  have hkl : kk < ys.length := by omega
  refine ⟨by omega, by omega, hm, by rw [List.length_set]; exact h4, fun j hj => ?_, fun j h0 hj => ?_, fun j hj => ?_, fun i hi => ?_, ?_⟩
  · rw [at_set _ _ _ _ hkl, if_neg (by omega)]
    exact h5 j (by omega)
  · rw [at_set _ _ _ _ hkl, at_set _ _ _ _ hkl, if_neg (by omega)]
    by_cases e : j = kk
    · subst e; rw [if_pos rfl, h9]; exact hlt
    · rw [if_neg e]; exact h6 j h0 (by omega)
  · by_cases e : j = m
    · subst e; exact ⟨kk, by omega, by rw [at_set _ _ _ _ hkl, if_pos rfl, hx]⟩
    · obtain ⟨i, hi, hv⟩ := h7 j (by omega)
      exact ⟨i, by omega, by rw [at_set _ _ _ _ hkl, if_neg (by omega)]; exact hv⟩
  · rw [at_set _ _ _ _ hkl]
    by_cases e : i = kk
    · rw [if_pos e]; exact ⟨m, by omega, hx⟩
    · rw [if_neg e]
      obtain ⟨j, hj, hv⟩ := h8 i (by omega)
      exact ⟨j, by omega, hv⟩
  · rw [at_set _ _ _ _ hkl, if_pos (by omega), Nat.add_sub_cancel, hx]
theorem at_take (ys : List Nat) (k j : Nat) (hj : j < k) : atN (ys.take k) j = atN ys j := by
  unfold atN
  simp only [List.getD_eq_getElem?_getD]
  rw [List.getElem?_take, if_pos hj]
theorem mem_at (xs : List Nat) (x : Nat) : x ∈ xs ↔ ∃ j, j < xs.length ∧ atN xs j = x := by
  rw [List.mem_iff_getElem?]
  constructor
  · rintro ⟨j, hj⟩
    have hl : j < xs.length := by
      rcases Nat.lt_or_ge j xs.length with h | h
      · exact h
      · rw [List.getElem?_eq_none h] at hj; cases hj
    exact ⟨j, hl, by rw [atN_some hl] at hj; exact Option.some.inj hj⟩
  · rintro ⟨j, hl, rfl⟩
    exact ⟨j, atN_some hl⟩
/-- What Compact gives of words in order. -/
def CmpQ (xs R : List Nat) : Prop := (∀ x, x ∈ R ↔ x ∈ xs) ∧ (∀ i x y, R[i]? = some x → R[i + 1]? = some y → x < y) ∧ R.length ≤ xs.length
theorem sup_rise {R : List Nat} (h : Sup R.length R) (i x y : Nat) (h1 : R[i]? = some x) (h2 : R[i + 1]? = some y) : x < y := by
  have hl : i + 1 < R.length := by
    rcases Nat.lt_or_ge (i + 1) R.length with h | h
    · exact h
    · rw [List.getElem?_eq_none h] at h2; cases h2
  rw [atN_some (by omega)] at h1
  rw [atN_some hl] at h2
  have := h (i + 1) (by omega) hl
  rw [Nat.add_sub_cancel] at this
  rw [← Option.some.inj h1, ← Option.some.inj h2]
  exact this
theorem cmp_done {kk : Nat} {xs ys : List Nat} (h : CmpI xs.length kk xs ys) : CmpQ xs (ys.take kk) ∧ (ys.take kk).length = kk := by
  obtain ⟨h1, h2, h3, h4, h5, h6, h7, h8, h9⟩ := h
  have hl : (ys.take kk).length = kk := by rw [List.length_take]; omega
  refine ⟨⟨fun x => ?_, sup_rise (by
    rw [hl]
    intro j h0 hj
    rw [at_take _ _ _ (by omega), at_take _ _ _ hj]
    exact h6 j h0 hj), by omega⟩, hl⟩
  rw [mem_at, mem_at, hl]
  constructor
  · rintro ⟨i, hi, rfl⟩
    rw [at_take _ _ _ hi]
    exact h8 i hi
  · rintro ⟨j, hj, rfl⟩
    obtain ⟨i, hi, hv⟩ := h7 j hj
    exact ⟨i, hi, by rw [at_take _ _ _ hi]; exact hv⟩
theorem cmp_whole {xs : List Nat} (h : Sup xs.length xs) : CmpQ xs xs := ⟨fun _ => Iff.rfl, sup_rise h, Nat.le_refl _⟩

/-- What Compact leaves. -/
def CmpP (W : World) (g c : Nat) (xs : List Nat) (e : Ending) (W' : World) : Prop := ∃ R : List Nat, e = .returned (.slice (some ⟨g, 0, none⟩) R.length c) ∧ (∀ j x, R[j]? = some x → W'.cell? ⟨g, j, none⟩ = some (.int .u64 (x : Nat))) ∧ Turn (fun k => k = g) W W' ∧ CmpQ xs R
theorem cmp_same {W w : World} {B g n c : Nat} {xs : List Nat} (hr : RowN w B g n c xs) (ht : Turn (fun k => k = g) W w) (h : Sup n xs) : CmpP W g c xs (.returned (.slice (some ⟨g, 0, none⟩) n c)) w := by
  have hl := hr.len
  refine ⟨xs, by rw [hl], fun j x hj => ?_, ht, cmp_whole (by rw [hl]; exact h)⟩
  have hjl : j < xs.length := by
    rcases Nat.lt_or_ge j xs.length with h | h
    · exact h
    · rw [List.getElem?_eq_none h] at hj; cases hj
  exact hr.cell j (by omega) x (by rw [atN_some hjl] at hj; exact Option.some.inj hj)
theorem turn_cells {W : World} (g : Nat) : ∀ (vs : List Value) (o : Nat) (w : World), Turn (fun k => k = g) W w → Turn (fun k => k = g) W (w.setCells g o vs)
  | [], _, _, h => h
  | v :: r, o, w, h => by
    rw [World.setCells]
    exact turn_cells g r (o + 1) _ (h.setCell (p := ⟨g, o, none⟩) rfl v)

set_option maxRecDepth 100000 in
set_option maxHeartbeats 8000000 in
theorem compact_any (B g n c : Nat) (hn : n ≤ 1000000000) (hnc : n ≤ c) (hc : c ≤ maxLen) (xs : List Nat) (W : World) (h : RowN W B g n c xs) (hz : Srt 0 n xs) :
    Calls Tryd.prog 16 #[.slice (some ⟨g, 0, none⟩) n c] W (CmpP W g c xs) := by
  unfold maxLen at hc
  by_cases h2 : n < 2
  · have t2 : (n : Int) < 2 := by omega
    have HS := Lib.hid (cmp_same h (Turn.refl _ _) (fun j h0 hj => by omega))
    clear h hz h2
    go_enter Tryd.func16, Tryd.ntmps16
    go_wp2_with fail
    go_ret
    exact HS.out
  · have t2 : ¬ (n : Int) < 2 := by omega
    have HB := Lib.hid (show 2 ≤ n ∧ n ≤ c ∧ n ≤ 1000000000 from ⟨by omega, hnc, hn⟩)
    have HZ := Lib.hid hz
    have HLn := Lib.hid h.len
    have H0 := Lib.hid (show RowN W B g n c xs ∧ Turn (fun k => k = g) W W from ⟨h, Turn.refl _ _⟩)
    clear h hz h2
    go_enter Tryd.func16, Tryd.ntmps16
    go_wp2_with fail
    go_loopw [3] (fun s3 wr => ∃ k : Nat, s3 = .int .i64 k ∧ 1 ≤ k ∧ k ≤ n ∧ RowN wr B g n c xs ∧ Turn (fun k => k = g) W wr ∧ Sup k xs) (fun s3 _ => n - (intOf s3).toNat)
    case atStart => exact ⟨1, rfl, Nat.le_refl _, by have := HB.out; omega, H0.out.1, H0.out.2, fun j h0 hj => by omega⟩
    case round =>
      obtain ⟨k, rfl, hk1, hkn, hr, ht, hs⟩ := hrel
      have hb := HB.out
      have hk9 : k ≤ 1000000000 := by omega
      by_cases hlt : k < n
      · have t1 : (k : Int) < (n : Int) := by omega
        obtain ⟨k0, hk0⟩ : ∃ x, k - 1 = x := ⟨_, rfl⟩
        have g1 : (k : Int) - 1 = (k0 : Int) := by omega
        have k0n : (k0 : Int) < (n : Int) := by omega
        have k09 : k0 ≤ 1000000000 := by omega
        obtain ⟨x, hx⟩ : ∃ x, atN xs k = x := ⟨_, rfl⟩
        obtain ⟨y, hy⟩ : ∃ x, atN xs k0 = x := ⟨_, rfl⟩
        have c1 := hr.cell k (by omega) x hx
        have c2 := hr.cell k0 (by omega) y hy
        have hyx := HZ.out k0 k (Nat.zero_le _) (by omega) hlt
        rw [hx, hy] at hyx
        by_cases hc : x = y
        · have q1 : ((x : Int) == (y : Int)) = true := by rw [hc]; simp
          have HI := Lib.hid (show CmpI (k + 1) k xs xs from cmp_start (by omega) (by rw [HLn.out]; exact hlt) hs (by rw [hk0, hx, hy, hc]))
          have HR := Lib.hid (And.intro hr ht)
          clear hr ht hs hx hy hc hyx hk0
          go_wp2_with fail
          go_quiet (fail)
          have HR9 := Lib.hid (show RowN (wr.drewN nq) B g n c xs ∧ Turn (fun k => k = g) W (wr.drewN nq) from ⟨HR.out.1.drewN _, HR.out.2.drewN _⟩)
          obtain ⟨w9, hw9⟩ : ∃ x, wr.drewN nq = x := ⟨_, rfl⟩
          rw [hw9] at HR9 ⊢
          clear hw9 HR c1 c2 q1
          go_wp2_with fail
          obtain ⟨nk, hnk⟩ : ∃ x, n - k = x := ⟨_, rfl⟩
          obtain ⟨ck, hck⟩ : ∃ x, c - k = x := ⟨_, rfl⟩
          rw [hnk, hck]
          have HK := Lib.hid (show n - k = nk ∧ 1 ≤ k ∧ k < n from ⟨hnk, hk1, hlt⟩)
          have nk9 : nk ≤ 1000000000 := by omega
          clear hnk hck hkn hb hlt t1 g1 k0n k09
          go_loopw [3, 5] (fun s3 s5 wr => ∃ (kk k2 : Nat) (ys : List Nat), s3 = .int .i64 kk ∧ s5 = .int .i64 k2 ∧ 1 ≤ k2 ∧ k2 ≤ nk ∧ RowN wr B g n c ys ∧ Turn (fun k => k = g) W wr ∧ CmpI (k + k2) kk xs ys) (fun _ s5 _ => nk - (intOf s5).toNat)
          case atStart => exact ⟨k, 1, xs, rfl, rfl, Nat.le_refl _, by have := HK.out; omega, HR9.out.1, HR9.out.2, HI.out⟩
          case round =>
            obtain ⟨kk, k2, ys, rfl, rfl, h1, h2, hr, ht, hI⟩ := hrel
            have hb := HB.out
            have hkb := HK.out
            have hkk1 := hI.1
            have hkk2 := hI.2.1
            have hkk9 : kk ≤ 1000000000 := by omega
            have hk29 : k2 ≤ 1000000000 := by omega
            by_cases hlt : k2 < nk
            · have t1 : (k2 : Int) < (nk : Int) := by omega
              obtain ⟨j0, hj0⟩ : ∃ x, k2 - 1 = x := ⟨_, rfl⟩
              have g1 : (k2 : Int) - 1 = (j0 : Int) := by omega
              have j0n : (j0 : Int) < (nk : Int) := by omega
              have j09 : j0 ≤ 1000000000 := by omega
              obtain ⟨u, hu⟩ : ∃ x, atN xs (k + k2) = x := ⟨_, rfl⟩
              obtain ⟨v, hv⟩ : ∃ x, atN xs (k + j0) = x := ⟨_, rfl⟩
              obtain ⟨z, hz⟩ : ∃ x, atN ys kk = x := ⟨_, rfl⟩
              have c1 := hr.cell (k + k2) (by omega) u (by rw [hI.2.2.2.2.1 (k + k2) (by omega)]; exact hu)
              have c2 := hr.cell (k + j0) (by omega) v (by rw [hI.2.2.2.2.1 (k + j0) (by omega)]; exact hv)
              have c3 := hr.cell kk (by omega) z hz
              have f3 := hr.frozen kk
              have kkn : (kk : Int) < (n : Int) := by omega
              have hvu := HZ.out (k + j0) (k + k2) (Nat.zero_le _) (by omega) (by omega)
              rw [hu, hv] at hvu
              by_cases hc : u = v
              · have q1 : ((u : Int) != (v : Int)) = false := by rw [hc]; simp
                have HN := Lib.hid (show RowN wr B g n c ys ∧ Turn (fun k => k = g) W wr ∧ CmpI (k + k2 + 1) kk xs ys ∧ k2 < nk from ⟨hr, ht, cmp_skip hI (by rw [HLn.out]; omega) (by rw [show k + k2 - 1 = k + j0 by omega, hu, hv, hc]), hlt⟩)
                clear hr ht hI hu hv hz hvu hc hb hkb hkk1 hkk2 hj0 h1 h2 hlt
                go_wp2_with fail
                go_quiet (fail)
                go_wp2_with fail
                go_roundw
                case rel => exact ⟨kk, k2 + 1, ys, rfl, by go_num, by omega, by have := HN.out; omega, HN.out.1.drewN _, HN.out.2.1.drewN _, HN.out.2.2.1⟩
                case measure => have := HN.out.2.2.2; simp [intOf]; omega
              · have q1 : ((u : Int) != (v : Int)) = true := by simp; omega
                have HN := Lib.hid (show (∀ q, RowN ((wr.drewN q).setCell ⟨g, kk, none⟩ (.int .u64 (u : Nat))) B g n c (ys.set kk u)) ∧ (∀ q, Turn (fun k => k = g) W ((wr.drewN q).setCell ⟨g, kk, none⟩ (.int .u64 (u : Nat)))) ∧ CmpI (k + k2 + 1) (kk + 1) xs (ys.set kk u) ∧ k2 < nk from ⟨fun q => (hr.drewN q).set kk u, fun q => (ht.drewN q).setCell (p := ⟨g, kk, none⟩) rfl _, cmp_keep hI (by rw [HLn.out]; omega) hu (by rw [show k + k2 - 1 = k + j0 by omega, hv]; omega), hlt⟩)
                clear hr ht hI hu hv hz hvu hc hb hkb hkk1 hkk2 hj0 h1 h2 hlt
                go_wp2_with fail
                go_quiet (fail)
                go_wp2_with fail
                go_roundw
                case rel => exact ⟨kk + 1, k2 + 1, ys.set kk u, by go_num, by go_num, by omega, by have := HN.out; omega, HN.out.1 _, HN.out.2.1 _, HN.out.2.2.1⟩
                case measure => have := HN.out.2.2.2; simp [intOf]; omega
            · have t1 : ¬ (k2 : Int) < (nk : Int) := by omega
              obtain ⟨m, hm⟩ : ∃ x, n - kk = x := ⟨_, rfl⟩
              obtain ⟨cm, hcm⟩ : ∃ x, c - kk = x := ⟨_, rfl⟩
              have hcl : ∀ ty, (Builtin.clear_ #[32] ty #[.slice (some ⟨g, kk, none⟩) (n - kk) (c - kk)]).run Tryd.prog wr = .ok (.tuple #[]) (wr.setCells g kk (List.replicate (n - kk) (nu 0))) :=
                fun ty => Lib.run_clear_slice wr 32 22 ty (nu 0) Tryd.underlying32 Tryd.zeroValue22 rfl rfl g kk _ _ (by omega) (fun j hj => by rw [hr.cell (kk + j) (by omega) _ rfl]; rfl) (fun j hj => hr.frozen (kk + j))
              have hkn1 : (kk : Int) ≤ (n : Int) := by omega
              have hkc1 : (kk : Int) ≤ (c : Int) := by omega
              have hend : k + k2 = xs.length := by rw [HLn.out]; omega
              rw [hend] at hI
              have hd := cmp_done hI
              have HS := Lib.hid (show CmpP W g c xs (.returned (.slice (some ⟨g, 0, none⟩) kk c)) (wr.setCells g kk (List.replicate (n - kk) (nu 0))) from ⟨ys.take kk, by rw [hd.2], fun j x hj => by
                have hjl : j < (ys.take kk).length := by
                  rcases Nat.lt_or_ge j (ys.take kk).length with h | h
                  · exact h
                  · rw [List.getElem?_eq_none h] at hj; cases hj
                rw [World.cell?_setCells_out g _ _ _ _ (fun _ _ => .inl (by show j < kk; omega))]
                rw [atN_some hjl] at hj
                exact hr.cell j (by omega) x (by rw [← Option.some.inj hj]; exact (at_take ys kk j (by omega)).symm), turn_cells g _ _ _ ht, hd.1⟩)
              clear hr ht hI hd hend hm hcm
              go_wp2_with fail
              go_ret
              exact HS.out
        · have q1 : ((x : Int) == (y : Int)) = false := by simp; omega
          have HR := Lib.hid (show RowN wr B g n c xs ∧ Turn (fun k => k = g) W wr ∧ Sup (k + 1) xs ∧ k < n from ⟨hr, ht, fun j h0 hj => by
            by_cases e : j = k
            · subst e; rw [hk0, hx, hy]; omega
            · exact hs j h0 (by omega), hlt⟩)
          clear hr ht hs hx hy hc hyx hk0 hb hlt
          go_wp2_with fail
          go_quiet (fail)
          go_wp2_with fail
          go_roundw
          case rel => exact ⟨k + 1, by go_num, by omega, by have := HR.out; omega, HR.out.1.drewN _, HR.out.2.1.drewN _, HR.out.2.2.1⟩
          case measure => have := HR.out.2.2.2; simp [intOf]; omega
      · have t1 : ¬ (k : Int) < (n : Int) := by omega
        obtain rfl : k = n := by omega
        have HS := Lib.hid (cmp_same hr ht hs)
        clear hr ht hs hlt
        go_wp2_with fail
        go_ret
        exact HS.out

end Go.Proofs.YtgococpbhbcpmaaDoor
