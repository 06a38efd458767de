/-
  The program's disk: Read, List.
-/
import Derived.Test.YtnjkilmhphcocaaDpK
import Derived.Test.YtnjkilmhphcocaaIter
namespace Go.Proofs.Ytnjkilmhphcocaa
open Go.RowKit
set_option linter.unusedVariables false
set_option linter.unusedSimpArgs false

theorem bl_le (x : List UInt8) : ∀ y, Op.bytesLess x y = true → x ≤ y := by
  intro y h
  have h2 : x < y := by
    induction x generalizing y with
    | nil =>
      cases y with
      | nil => simp [Op.bytesLess] at h
      | cons b y => exact List.nil_lt_cons b y
    | cons a x ih =>
      cases y with
      | nil => simp [Op.bytesLess] at h
      | cons b y =>
        rw [bl_cons] at h
        rw [List.cons_lt_cons_iff]
        rcases h with h | ⟨rfl, h⟩
        · exact .inl (UInt8.lt_iff_toNat_lt.2 h)
        · exact .inr ⟨rfl, ih y h⟩
  exact List.le_of_lt h2
theorem srt_sort (fs : List Fl) (h : SrtF fs) (ss : List (List UInt8)) (hp : ss.Perm (fs.map Fl.name)) : ss.mergeSort leB = fs.map Fl.name := by
  rw [mergeSort_of_perm hp]
  refine List.mergeSort_of_pairwise ?_
  rw [List.pairwise_map]
  exact List.Pairwise.imp (fun {a b} hab => decide_eq_true (bl_le _ _ hab)) h
theorem strKeys_mapD (L : List (List UInt8 × Value)) : strKeys (mapD L) = L.map (·.1) := by
  show (mapE L).map (fun p => strOf p.1) = _
  unfold mapE
  rw [List.map_map]
  rfl

set_option maxRecDepth 100000 in
set_option maxHeartbeats 2000000 in
theorem pread_any (W : World) (S : Nat → Prop) (q : Nat) (m : Dk) (name : List UInt8) (h : PD W S q m) (hO : OkD 200 m) (hl : name.length ≤ 100) :
    Calls Try.prog 11 #[.pointer (some ⟨q, 0, none⟩), .string ⟨name.toArray⟩] W fun e W' => ∃ v, e = .returned (.tuple #[v, .int .i64 (readD m name).1]) ∧ W'.ownsRow W.heap.size 5 1 v (readD m name).2.length ((readD m name).2.map bv) ∧ Below W.heap.size W W' := by
  obtain ⟨mb, l, kp, L, G, h⟩ := h
  have hdn := pdown_any W h
  have c1 : W.cell? ⟨q, 1, none⟩ = some (.map (some mb)) := h.blk.cell 1
  have HH := Lib.hid h
  have HO := Lib.hid (hO.good (by omega))
  obtain ⟨T, hT⟩ : ∃ T : ByteArray, ⟨name.toArray⟩ = T := ⟨_, rfl⟩
  have hTl : T.data.toList = name := by rw [← hT]
  have hTs : T.size ≤ 10000 := by rw [← hT]; show name.toArray.size ≤ _; simp; omega
  rw [hT]
  have HT := Lib.hid (And.intro hTl hTs)
  clear hT hTl hTs h hO
  cases hd : m.down
  · rw [hd] at hdn
    cases hlo : lookF name m.files with
    | none =>
      have hR : readD m name = (8, []) := by unfold readD; rw [hd, hlo]; rfl
      have hlk1 := look_no HH.out T HT.out.2 (by rw [HT.out.1]; exact hlo) W HH.out.map
      rw [hR]
      clear hR hd hlo
      go_enter Try.func11, Try.ntmps11
      go_wp2_with fail
      refine hdn.mono ?_
      rintro e W1 ⟨rfl, rfl⟩
      clear hdn
      go_wp2_with fail
      go_ret2
      exact ⟨_, rfl, World.ownsRow_nil _ _ _ _, Below.refl _ _⟩
    | some f =>
      have hR : readD m name = (0, f.data) := by unfold readD; rw [hd, hlo]; rfl
      obtain ⟨x, hx, hxf, hfn, hlk⟩ := look_yes HH.out T HT.out.2 (by rw [HT.out.1]; exact hlo)
      have hlk1 := hlk W HH.out.map
      rw [HT.out.1] at hx
      have hsm := HH.out.small (k := 0) HO.out hx
      have hby := pbytes_any x W (HH.out.at_ name x hx) hsm.1
      rw [hR]
      have HX := Lib.hid hxf
      clear hR hd hlo hx hxf hfn hlk hsm
      go_enter Try.func11, Try.ntmps11
      go_wp2_with fail
      refine hdn.mono ?_
      rintro e W1 ⟨rfl, rfl⟩
      clear hdn
      go_wp2_with fail
      refine hby.mono ?_
      rintro e W2 ⟨v, rfl, hown, hb⟩
      have HW := Lib.hid (And.intro hown hb)
      clear hby hown hb
      go_wp2_with fail
      go_ret2
      exact ⟨v, rfl, by rw [← HX.out]; exact HW.out.1, HW.out.2⟩
  · rw [hd] at hdn
    have hR : readD m name = (19, []) := by unfold readD; rw [hd]; rfl
    rw [hR]
    clear hR hd
    go_enter Try.func11, Try.ntmps11
    go_wp2_with fail
    refine hdn.mono ?_
    rintro e W1 ⟨rfl, rfl⟩
    clear hdn
    go_wp2_with fail
    go_ret2
    exact ⟨_, rfl, World.ownsRow_nil _ _ _ _, Below.refl _ _⟩

theorem pkeys_any (mb : Option Nat) (W : World) : Calls Try.prog 36 #[.map mb] W fun e w' => e = .returned (.func (.func 43) #[] #[.pointer (some ⟨W.heap.size, 0, none⟩)]) ∧ w' = W.alloc (.cells #[.map mb] 57) :=
  callsIn_wide.1 (Try.maps_Keys_36 mb W)

set_option maxRecDepth 100000 in
set_option maxHeartbeats 2000000 in
theorem plist_any (W : World) (S : Nat → Prop) (q : Nat) (m : Dk) (h : PD W S q m) (hO : OkD 200 m) :
    Calls Try.prog 21 #[.pointer (some ⟨q, 0, none⟩)] W fun e W' => ∃ v, e = .returned v ∧ W'.ownsRow W.heap.size 9 1 v m.files.length (wsV (m.files.map Fl.name)) ∧ Below W.heap.size W W' := by
  obtain ⟨mb, l, kp, L, G, h⟩ := h
  have c1 : W.cell? ⟨q, 1, none⟩ = some (.map (some mb)) := h.blk.cell 1
  have hk := pkeys_any (some mb) W
  have hlen : Maps.size (mapD L) = m.files.length := by rw [mapD_size, h.len]
  have hl2 := hO.len
  have hs := callsIn_wide.1 (Try.slices_Sorted_keys_35_36 mb L.length (mapD L) rawR W h.map (by rw [hlen]; unfold maxLen; omega) (by rw [hlen]; omega))
  have HH := Lib.hid h
  clear h hO hlen hl2
  go_enter Try.func21, Try.ntmps21
  go_wp2_with fail
  refine hk.mono ?_
  rintro e W1 ⟨rfl, rfl⟩
  clear hk
  go_wp2_with fail
  refine hs.mono ?_
  rintro e W2 ⟨v, ss, rfl, hS, hrow, hnil, hb⟩
  have hp : ss.Perm (m.files.map Fl.name) := by
    rw [strKeys_mapD] at hS
    exact hS.trans (tied_perm HH.out.map (Maps.string_keyed Try.underlying9) HH.out.tied HH.out.srt)
  have hlen : ss.length = m.files.length := by rw [hp.length_eq, List.length_map]
  have hsort : ss.mergeSort (fun x y => decide (x ≤ y)) = m.files.map Fl.name := srt_sort m.files HH.out.srt ss hp
  rw [hsort, hlen] at hrow
  have HW := Lib.hid (And.intro hrow hb)
  clear hs hS hrow hnil hb hp hlen hsort
  go_wp2_with fail
  go_ret
  exact ⟨v, rfl, own_mono HW.out.1 (by simp), bthen ((Below.refl _ W).alloc (Nat.le_refl _) _) HW.out.2⟩

end Go.Proofs.Ytnjkilmhphcocaa
