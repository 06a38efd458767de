/-
  The law LineWrites.
-/
import Derived.Test.YtpjjmnkiepdllaaGreatDoorLiP
import Derived.Test.YtpjjmnkiepdllaaGreatDoorLiJ
namespace Go.Proofs.YtpjjmnkiepdllaaGreatDoor
open Go.RowKit
set_option linter.unusedVariables false
set_option linter.unusedSimpArgs false

theorem textF_len (c : UInt8) (f : Fd) (h : f.n < 18446744073709551616 ∧ f.text.length ≤ 100 ∧ f.data.length ≤ 100) : (textF c f).length ≤ 201 := by
  unfold textF
  split
  · omega
  · split
    · rw [Lib.decDigits_length]
      have := Lib.nDigits_le20 f.n h.1
      omega
    · have := hexS_len f.data
      omega
theorem tailW_len (ts : List (List UInt8)) (h : ∀ t ∈ ts, t.length ≤ 201) : (tailW ts).length ≤ 202 * ts.length := by
  induction ts with
  | nil => simp [tailW]
  | cons t ts ih =>
    rw [tailW_cons]
    have h1 := h t (by simp)
    have h2 := ih (fun u hu => h u (by simp [hu]))
    simp only [List.length_cons, List.length_append]
    omega
theorem textL_all (pat : List UInt8) : ∀ (fs : List Fd), (∀ f ∈ fs, f.n < 18446744073709551616 ∧ f.text.length ≤ 100 ∧ f.data.length ≤ 100) → (∀ t ∈ textL pat fs, t.length ≤ 201) ∧ (textL pat fs).length ≤ fs.length := by
  induction pat with
  | nil => intro fs _; exact ⟨fun t ht => (by cases ht), by simp [textL]⟩
  | cons c p ih =>
    intro fs h
    cases fs with
    | nil => exact ⟨fun t ht => (by cases ht), by simp [textL]⟩
    | cons f fs =>
      obtain ⟨h1, h2⟩ := ih fs (fun g hg => h g (by simp [hg]))
      refine ⟨fun t ht => ?_, ?_⟩
      · have ht2 : t ∈ textF c f :: textL p fs := ht
        rcases List.mem_cons.1 ht2 with rfl | ht3
        · exact textF_len c f (h f (by simp))
        · exact h1 t ht3
      · show (textF c f :: textL p fs).length ≤ _
        simp only [List.length_cons]
        omega
theorem lineF_bound (word pat : List UInt8) (fs : List Fd) (h : ∀ f ∈ fs, f.n < 18446744073709551616 ∧ f.text.length ≤ 100 ∧ f.data.length ≤ 100) (hw : word.length ≤ 100) (hn : fs.length ≤ 20) : (lineF word pat fs).length ≤ 10000 := by
  obtain ⟨h1, h2⟩ := textL_all pat fs h
  have h3 := tailW_len _ h1
  unfold lineF
  rw [List.length_append]
  omega
theorem bare_data (c : UInt8) (f : Fd) : (bareF c f).data.length ≤ f.data.length := by
  unfold bareF
  split
  · simp
  · split
    · simp
    · exact Nat.le_refl _

set_option maxRecDepth 100000 in
set_option maxHeartbeats 1000000 in
theorem lwrite_any (word pat : ByteArray) (A : Option Addr) (n c : Nat) (fs : List Fd) (W : World) (hfl : Flds W W.heap.size A n fs) (hnp : n = pat.size) (hp : pat.size ≤ 10000)
    (hlen : (lineF word.data.toList pat.data.toList fs).length ≤ 10000) (hd : ∀ f ∈ fs, f.n < 18446744073709551616 ∧ f.data.length ≤ 10000) (hM : MV W) (hN : NV W) :
    Calls Tryz.prog 6 #[.string word, .string pat, .slice A n c] W
      (WriteOut (lineF word.data.toList pat.data.toList fs) (checkE (lineF word.data.toList pat.data.toList fs) word.data.toList pat.data.toList) W) := by
  cases hq : isPat pat.data.toList
  · refine (lwrite_bad word pat A n c W (.inl hq)).mono fun e W' h => ?_
    have h2 : checkE (lineF word.data.toList pat.data.toList fs) word.data.toList pat.data.toList = 2 := checkE_no (by unfold lfitsB; rw [hq]; rfl)
    rw [h2]
    exact ⟨by rw [h.1]; rfl, h.2⟩
  · exact lwrite_good word pat A n c fs W hfl hnp hq hp hlen hd hM hN

set_option maxRecDepth 100000 in
set_option maxHeartbeats 4000000 in
theorem lineWrites_law (word pat : ByteArray) (A : Option Addr) (n c : Nat) (fs : List Fd) (W : World) (hw : word.size ≤ maxLen) (hp : pat.size ≤ maxLen) (hfl : Flds W W.heap.size A n fs) (hu : ∀ f ∈ fs, f.n < 18446744073709551616)
    (hnil : A = none → c = 0) (hlc : n ≤ c) (hmx : c ≤ maxLen) (hM : MV W) (hN : NV W) :
    Calls Tryz.prog 3 #[.string word, .string pat, .slice A n c] W fun e W' => e = .returned (.bool true) ∧ Below W.heap.size W W' := by
  have hLg := fun w h => refLarge_any A n c fs w h (Nat.le_trans hlc hmx)
  unfold maxLen at hw hp hmx
  by_cases h100 : 100 < word.size
  · have d2 : decide ((100 : Int) < (word.size : Int)) = true := decide_eq_true (by omega)
    clear hfl hu hnil hlc hmx hLg
    go_enter Tryz.func3, Tryz.ntmps3
    go_wp2_with fail
    refine (awake8_any _ hM hN).mono ?_
    rintro e W1 ⟨rfl, hb1⟩
    go_wp2_with fail
    go_ret
    exact ⟨rfl, hb1⟩
  have d2 : decide ((100 : Int) < (word.size : Int)) = false := decide_eq_false (by omega)
  by_cases h20 : 20 < pat.size
  · have d3 : decide ((20 : Int) < (pat.size : Int)) = true := decide_eq_true (by omega)
    clear hfl hu hnil hlc hmx hLg
    go_enter Tryz.func3, Tryz.ntmps3
    go_wp2_with fail
    refine (awake8_any _ hM hN).mono ?_
    rintro e W1 ⟨rfl, hb1⟩
    go_wp2_with fail
    go_ret
    exact ⟨rfl, hb1⟩
  have d3 : decide ((20 : Int) < (pat.size : Int)) = false := decide_eq_false (by omega)
  have hLg1 := hLg W hfl
  clear hLg
  cases hlg : largeB fs
  · rw [hlg] at hLg1
    obtain ⟨hn20, hsm⟩ := large_false fs hlg
    have hfn := hfl.1
    have hd : ∀ f ∈ fs, f.n < 18446744073709551616 ∧ f.text.length ≤ 100 ∧ f.data.length ≤ 100 := fun f hf => ⟨hu f hf, hsm f hf⟩
    have hd2 : ∀ f ∈ fs, f.n < 18446744073709551616 ∧ f.data.length ≤ 10000 := fun f hf => ⟨hu f hf, by have := hsm f hf; omega⟩
    have hwl : word.data.toList.length = word.size := by simp
    have hX := lineF_bound word.data.toList pat.data.toList fs hd (by omega) hn20
    by_cases hne : n = pat.size
    · subst hne
      have HF := Lib.hid hfl
      have HD := Lib.hid hd
      have HD2 := Lib.hid hd2
      have HXL := Lib.hid hX
      have HM := Lib.hid hM
      have HN := Lib.hid hN
      have HP : Hid (pat.size ≤ 20 ∧ fs.length = pat.size) := Lib.hid ⟨by omega, hfn⟩
      have hWr := lwrite_any word pat A pat.size c fs W hfl rfl (by omega) hX hd2 hM hN
      obtain ⟨x0, hx0⟩ : ∃ x0, checkE (lineF word.data.toList pat.data.toList fs) word.data.toList pat.data.toList = x0 := ⟨_, rfl⟩
      rw [hx0] at hWr
      have HX0 := Lib.hid hx0
      obtain ⟨X, hXe⟩ : ∃ X : ByteArray, ⟨(lineF word.data.toList pat.data.toList fs).toArray⟩ = X := ⟨_, rfl⟩
      have hXl : X.data.toList = lineF word.data.toList pat.data.toList fs := by rw [← hXe]
      have hXs : X.size ≤ 10000 := by
        have h1 : X.data.toList.length = X.size := by simp
        rw [← h1, hXl]
        exact hX
      have HXE := Lib.hid (And.intro hXe hXl)
      have HXS := Lib.hid hXs
      clear hfl hu hnil hlc hmx hlg hsm hn20 hfn hd hd2 hwl hX hx0 hXe hXl hXs hM hN h100 h20
      by_cases h0 : x0 = 0
      · subst h0
        go_enter Tryz.func3, Tryz.ntmps3
        go_wp2_with fail
        refine hLg1.mono ?_
        rintro e W0 ⟨rfl, rfl⟩
        clear hLg1
        go_wp2_with fail
        refine hWr.mono ?_
        rintro e W1 ⟨he, hb1⟩
        rw [if_pos rfl, HXE.out.1] at he
        subst he
        clear hWr
        have hLn := refLine_any word pat A pat.size c fs W1 ((HF.out.below hb1).more hb1.size) rfl (by have := HP.out.1; omega) HXL.out HD2.out
        rw [HXE.out.1] at hLn
        go_wp2_with fail
        refine hLn.mono ?_
        rintro e W2 ⟨rfl, hb2⟩
        have hb12 := bthen hb1 hb2
        have hCk := refCheck_any X word pat HXS.out (by have := HP.out.1; omega) W2
        rw [HXE.out.2, HX0.out] at hCk
        clear hLn hb1 hb2
        go_wp2_with fail
        refine hCk.mono ?_
        rintro e W3 ⟨rfl, hb3⟩
        have hb13 := bthen hb12 hb3
        clear hCk hb12 hb3
        have hRd := lread_any X word pat HXS.out (by have := HP.out.1; omega) W3 (HM.out.below hb13) (HN.out.below hb13)
        have hXX : (X.toList == X.toList) = true := by simp
        go_wp2_with fail
        refine hRd.mono ?_
        rintro e W4 ⟨A4, n4, c4, he, _, hok, hb4⟩
        rw [HXE.out.2, HX0.out] at he
        subst he
        obtain ⟨hf4, hn4, _, _⟩ := hok (by rw [HXE.out.2]; exact HX0.out)
        rw [HXE.out.2, read_line _ _ _ (fun f hf => by have := (HD.out f hf).1; omega) (by rw [HP.out.2]; simp) HX0.out] at hf4
        have hpl : pat.data.toList.length = pat.size := by simp
        rw [hpl] at hn4
        subst hn4
        have hb14 := bthen hb13 hb4
        have HF4 := Lib.hid hf4
        have HB := Lib.hid hb14
        clear hRd hok hf4 hb13 hb4 hb14 hpl
        go_wp2_with fail
        go_loopw [13] (fun iv wr => ∃ k : Nat, k ≤ pat.size ∧ iv = .int .i64 (k : Int) ∧ Below W4.heap.size W4 wr) (fun iv _ => pat.size - (intOf iv).toNat)
        case atStart => exact ⟨0, Nat.zero_le _, rfl, Below.refl _ _⟩
        case round =>
          obtain ⟨k, hk, rfl, hbw⟩ := hrel
          by_cases hlt : k < pat.size
          · have hby := byte_at pat k hlt
            obtain ⟨x, hx⟩ : ∃ x, pat[k]'hlt = x := ⟨_, rfl⟩
            rw [hx] at hby
            obtain ⟨f, hf⟩ : ∃ f, fs[k]? = some f := ⟨_, List.getElem?_eq_getElem (by have := HP.out.2; omega)⟩
            have hbf := bareL_at _ _ _ _ _ hby hf
            have hsm := HD.out f (List.mem_of_getElem? hf)
            have hbwr : Below W0.heap.size W0 wr := bthen HB.out hbw
            obtain ⟨b, o, rfl, hbB, hfa⟩ := HF.out.2 (by omega)
            obtain ⟨cs, hcl, hra, hfv⟩ := hfa k f hf
            obtain ⟨y0, y1, y2, rfl⟩ := one_agg3 hcl
            have hr := rangeAt_below hra hbwr hbB
            have hq0 : wr.cell? ⟨b, o + k * 3, none⟩ = some y0 := hr 0 y0 rfl
            have hq1 : wr.cell? ⟨b, o + k * 3 + 1, none⟩ = some y1 := hr 1 y1 rfl
            have hq2 : wr.cell? ⟨b, o + k * 3 + 2, none⟩ = some y2 := hr 2 y2 rfl
            obtain ⟨b4, o4, rfl, hbB4, hfa4⟩ := HF4.out.2 (by omega)
            obtain ⟨ds, hdl, hra4, hfv4⟩ := hfa4 k _ hbf
            obtain ⟨u0, u1, u2, rfl⟩ := one_agg3 hdl
            have hr4 := rangeAt_below hra4 hbw hbB4
            have hq3 : wr.cell? ⟨b4, o4 + k * 3, none⟩ = some u0 := hr4 0 u0 rfl
            have hq4 : wr.cell? ⟨b4, o4 + k * 3 + 1, none⟩ = some u1 := hr4 1 u1 rfl
            have hq5 : wr.cell? ⟨b4, o4 + k * 3 + 2, none⟩ = some u2 := hr4 2 u2 rfl
            have HV : Hid (FdV wr wr.heap.size (.agg #[y0, y1, y2]) f) := Lib.hid ((hfv.below hbwr).more hbwr.size)
            have HV4 : Hid (FdV wr wr.heap.size (.agg #[u0, u1, u2]) (bareF x f)) := Lib.hid ((hfv4.below hbw).more hbw.size)
            have hBr := fun w (h : FdV w w.heap.size (.agg #[y0, y1, y2]) f) => refBare_any x f (.agg #[y0, y1, y2]) w h
            have hSm := fun v w (h1 : FdV w w.heap.size (.agg #[u0, u1, u2]) (bareF x f)) (h2 : FdV w w.heap.size v (bareF x f)) => refSame_any (bareF x f) (.agg #[u0, u1, u2]) v w h1 h2 (by have := bare_data x f; have := hsm.2.2; omega)
            have HBW := Lib.hid hbw
            clear hby hf hbf hbwr hfa hra hfv hcl hr hfa4 hra4 hfv4 hdl hr4 hbw
            go_wp2_with fail
            go_region_held3 (fun w' => w'.cell? ⟨b, o + k * 3, none⟩ = some y0 ∧ w'.cell? ⟨b, o + k * 3 + 1, none⟩ = some y1 ∧ w'.cell? ⟨b, o + k * 3 + 2, none⟩ = some y2 ∧ w'.cell? ⟨b4, o4 + k * 3, none⟩ = some u0 ∧ w'.cell? ⟨b4, o4 + k * 3 + 1, none⟩ = some u1 ∧ w'.cell? ⟨b4, o4 + k * 3 + 2, none⟩ = some u2)
              (first | exact ⟨t0, t1, t2, t3, t4, t5⟩ | exact ⟨z0, z1, z2, z3, z4, z5⟩ | go_keep)
              (first
                | (go_at_call 11; refine (hBr _ ?_).mono ?_; (exact HV.out); rintro e W5 ⟨v, rfl, hfv5, hb5⟩; have z0 := (keeps_below hb5).2 _ _ hq0; have z1 := (keeps_below hb5).2 _ _ hq1; have z2 := (keeps_below hb5).2 _ _ hq2; have z3 := (keeps_below hb5).2 _ _ hq3; have z4 := (keeps_below hb5).2 _ _ hq4; have z5 := (keeps_below hb5).2 _ _ hq5)
                | (go_at_call 10; refine (hSm _ _ ?_ ?_).mono ?_; (exact FdV.keeps (w := wr.drew) HV4.out (keeps_below hb5)); (exact hfv5); rintro e W6 ⟨rfl, hb6⟩; have t0 := (keeps_below hb6).2 _ _ z0; have t1 := (keeps_below hb6).2 _ _ z1; have t2 := (keeps_below hb6).2 _ _ z2; have t3 := (keeps_below hb6).2 _ _ z3; have t4 := (keeps_below hb6).2 _ _ z4; have t5 := (keeps_below hb6).2 _ _ z5))
            have hb7 : Below W4.heap.size W4 W6 := bthen (bthen (below_drew HBW.out) hb5) hb6
            clear z0 z1 z2 z3 z4 z5 t0 t1 t2 t3 t4 t5 hb5 hb6 hfv5 hq0 hq1 hq2 hq3 hq4 hq5 hBr hSm
            go_wp2
            go_roundw
            case rel => exact ⟨k + 1, by omega, by go_num, hb7⟩
            case measure => simp [intOf]; omega
          · have hbf := bthen HB.out hbw
            have HBF := Lib.hid hbf
            clear hbw hbf
            go_wp2_with fail
            refine (awake8_any _ (HM.out.below HBF.out) (HN.out.below HBF.out)).mono ?_
            rintro e W7 ⟨rfl, hb7⟩
            go_wp2_with fail
            go_ret
            exact ⟨rfl, bthen HBF.out hb7⟩
      · have d4 : (x0 != 0) = true := by simpa using h0
        have d5 : (x0 == x0) = true := by simp
        have H0 := Lib.hid h0
        clear h0
        go_enter Tryz.func3, Tryz.ntmps3
        go_wp2_with fail
        refine hLg1.mono ?_
        rintro e W0 ⟨rfl, rfl⟩
        clear hLg1
        go_wp2_with fail
        refine hWr.mono ?_
        rintro e W1 ⟨he, hb1⟩
        rw [if_neg H0.out] at he
        subst he
        clear hWr
        have hLn := refLine_any word pat A pat.size c fs W1 ((HF.out.below hb1).more hb1.size) rfl (by have := HP.out.1; omega) HXL.out HD2.out
        rw [HXE.out.1] at hLn
        go_wp2_with fail
        refine hLn.mono ?_
        rintro e W2 ⟨rfl, hb2⟩
        have hb12 := bthen hb1 hb2
        have hCk := refCheck_any X word pat HXS.out (by have := HP.out.1; omega) W2
        rw [HXE.out.2, HX0.out] at hCk
        clear hLn hb1 hb2
        go_wp2_with fail
        refine hCk.mono ?_
        rintro e W3 ⟨rfl, hb3⟩
        have hb13 := bthen hb12 hb3
        clear hCk hb12 hb3
        go_wp2_with fail
        refine (awake8_any _ (HM.out.below hb13) (HN.out.below hb13)).mono ?_
        rintro e W4 ⟨rfl, hb4⟩
        go_wp2_with fail
        go_ret
        exact ⟨rfl, bthen hb13 hb4⟩
    · have d6 : (((n : Nat) : Int) != ((pat.size : Nat) : Int)) = true := by simp; omega
      have hWr := lwrite_bad word pat A n c W (.inr hne)
      have HM := Lib.hid hM
      have HN := Lib.hid hN
      clear hfl hu hnil hlc hmx hlg hsm hn20 hfn hd hd2 hwl hX hM hN h100 h20 hne
      go_enter Tryz.func3, Tryz.ntmps3
      go_wp2_with fail
      refine hLg1.mono ?_
      rintro e W0 ⟨rfl, rfl⟩
      clear hLg1
      go_wp2_with fail
      refine hWr.mono ?_
      rintro e W1 ⟨rfl, hb1⟩
      clear hWr
      go_wp2_with fail
      refine (awake8_any _ (HM.out.below hb1) (HN.out.below hb1)).mono ?_
      rintro e W4 ⟨rfl, hb4⟩
      go_wp2_with fail
      go_ret
      exact ⟨rfl, bthen hb1 hb4⟩
  · rw [hlg] at hLg1
    clear hfl hu hnil hlc hmx hlg
    go_enter Tryz.func3, Tryz.ntmps3
    go_wp2_with fail
    refine hLg1.mono ?_
    rintro e W0 ⟨rfl, rfl⟩
    clear hLg1
    go_wp2_with fail
    refine (awake8_any _ hM hN).mono ?_
    rintro e W1 ⟨rfl, hb1⟩
    go_wp2_with fail
    go_ret
    exact ⟨rfl, hb1⟩

end Go.Proofs.YtpjjmnkiepdllaaGreatDoor
