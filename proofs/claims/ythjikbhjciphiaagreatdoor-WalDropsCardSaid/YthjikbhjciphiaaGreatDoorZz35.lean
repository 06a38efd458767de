/-
  The keys of a map, sorted: contracts of the library's functions, laid at this seat.
-/
import Derived.Shelf.SlIter.Nil
import Derived.Shelf.SortM.Plain
import Derived.Shelf.SortM.SortNone
import Derived.Ground.GgzProg
import Derived.Ground.SlgmProg
import Derived.Test.YthjikbhjciphiaaGreatDoorProg
import Derived.Test.YthjikbhjciphiaaGreatDoorZz27
namespace Go.Proofs
open Go.Shelf
def Tryz.keys46_ren : Go.Shelf.Ren := ⟨fun | 7 => 46 | 10 => 72 | n => n, fun | 23 => 53 | 26 => 9 | 3 => 76 | 28 => 86 | 0 => 0 | 27 => 85 | 33 => 96 | 4 => 4 | n => n, fun | n => n⟩
theorem Tryz.keys46 : Go.Proofs.SlLaysZ.n7 Tryz.prog Tryz.keys46_ren := {
  mixed := by kernel_rfl
  f7 := ⟨Tryz.f46.name, by decide, Tryz.func46.trans (congrArg some (by kernel_rfl))⟩
  f10 := ⟨Tryz.f72.name, by decide, Tryz.func72.trans (congrArg some (by kernel_rfl))⟩
  t0 := Tryz.underlying0
  a0 := Tryz.isAgg0
  z0 := Tryz.sizeOf0
  v0 := Tryz.zeroValue0
  t4 := Tryz.underlying4
  a4 := Tryz.isAgg4
  z4 := Tryz.sizeOf4
  v4 := Tryz.zeroValue4
  t23 := Tryz.underlying53
  a23 := Tryz.isAgg53
  z23 := Tryz.sizeOf53
  v23 := Tryz.zeroValue53
  t26 := Tryz.underlying9
  a26 := Tryz.isAgg9
  z26 := Tryz.sizeOf9
  v26 := Tryz.zeroValue9
  t27 := Tryz.underlying85
  a27 := Tryz.isAgg85
  z27 := Tryz.sizeOf85
  v27 := Tryz.zeroValue85
  t28 := Tryz.underlying86
  a28 := Tryz.isAgg86
  z28 := Tryz.sizeOf86
  v28 := Tryz.zeroValue86
  t33 := Tryz.underlying96
  a33 := Tryz.isAgg96
  z33 := Tryz.sizeOf96
  v33 := Tryz.zeroValue96 }
def Tryz.sorted45_ren : Go.Shelf.Ren := ⟨fun | 6 => 45 | 8 => 70 | 9 => 71 | 11 => 113 | 13 => 69 | 12 => 114 | 23 => 111 | 24 => 112 | 14 => 157 | 15 => 158 | 16 => 159 | 17 => 160 | 18 => 161 | 19 => 162 | 20 => 163 | 21 => 164 | 22 => 165 | 25 => 190 | 26 => 152 | 27 => 153 | 28 => 191 | 29 => 192 | 30 => 193 | 31 => 202 | n => n, fun | 26 => 9 | 28 => 86 | 24 => 60 | 0 => 0 | 3 => 3 | 37 => 113 | 48 => 158 | 50 => 23 | 4 => 4 | 40 => 150 | 39 => 149 | 45 => 155 | 5 => 5 | 9 => 9 | 51 => 191 | 55 => 194 | 57 => 226 | 58 => 227 | 33 => 96 | n => n, fun | n => n⟩
theorem Tryz.sorted45 : Go.Proofs.SlLaysZ.n6 Tryz.prog Tryz.sorted45_ren := {
  mixed := by kernel_rfl
  f6 := ⟨Tryz.f45.name, by decide, Tryz.func45.trans (congrArg some (by kernel_rfl))⟩
  f8 := ⟨Tryz.f70.name, by decide, Tryz.func70.trans (congrArg some (by kernel_rfl))⟩
  f11 := ⟨Tryz.f113.name, by decide, Tryz.func113.trans (congrArg some (by kernel_rfl))⟩
  t0 := Tryz.underlying0
  a0 := Tryz.isAgg0
  z0 := Tryz.sizeOf0
  v0 := Tryz.zeroValue0
  t24 := Tryz.underlying60
  a24 := Tryz.isAgg60
  z24 := Tryz.sizeOf60
  v24 := Tryz.zeroValue60
  t26 := Tryz.underlying9
  a26 := Tryz.isAgg9
  z26 := Tryz.sizeOf9
  v26 := Tryz.zeroValue9
  t28 := Tryz.underlying86
  a28 := Tryz.isAgg86
  z28 := Tryz.sizeOf86
  v28 := Tryz.zeroValue86
  i26 := by kernel_rfl }
def Tryz.sort71_ren : Go.Shelf.Ren := ⟨fun | 6 => 71 | 8 => 69 | 9 => 114 | 19 => 111 | 20 => 112 | 21 => 157 | 22 => 158 | 23 => 159 | 24 => 160 | 25 => 161 | 26 => 162 | 27 => 163 | 28 => 164 | 29 => 165 | 36 => 190 | 31 => 152 | 32 => 153 | 37 => 191 | 38 => 192 | 39 => 193 | 41 => 202 | n => n, fun | 27 => 60 | 29 => 9 | 3 => 3 | 32 => 113 | 26 => 60 | 0 => 0 | 44 => 158 | 46 => 23 | 4 => 4 | 36 => 150 | 35 => 149 | 41 => 155 | 5 => 5 | 9 => 9 | 53 => 191 | 57 => 194 | 63 => 226 | 64 => 227 | n => n, fun | n => n⟩
theorem Tryz.sort71 : Go.Proofs.SlLaysM.n6 Tryz.prog Tryz.sort71_ren := {
  mixed := by kernel_rfl
  f6 := ⟨Tryz.f71.name, by decide, Tryz.func71.trans (congrArg some (by kernel_rfl))⟩
  f8 := Tryz.func69.trans (congrArg some (by kernel_rfl))
  f9 := ⟨Tryz.f114.name, by decide, Tryz.func114.trans (congrArg some (by kernel_rfl))⟩
  f19 := Tryz.func111.trans (congrArg some (by kernel_rfl))
  f20 := Tryz.func112.trans (congrArg some (by kernel_rfl))
  f21 := ⟨Tryz.f157.name, by decide, Tryz.func157.trans (congrArg some (by kernel_rfl))⟩
  f22 := ⟨Tryz.f158.name, by decide, Tryz.func158.trans (congrArg some (by kernel_rfl))⟩
  f23 := ⟨Tryz.f159.name, by decide, Tryz.func159.trans (congrArg some (by kernel_rfl))⟩
  f24 := ⟨Tryz.f160.name, by decide, Tryz.func160.trans (congrArg some (by kernel_rfl))⟩
  f25 := ⟨Tryz.f161.name, by decide, Tryz.func161.trans (congrArg some (by kernel_rfl))⟩
  f26 := ⟨Tryz.f162.name, by decide, Tryz.func162.trans (congrArg some (by kernel_rfl))⟩
  f27 := ⟨Tryz.f163.name, by decide, Tryz.func163.trans (congrArg some (by kernel_rfl))⟩
  f28 := ⟨Tryz.f164.name, by decide, Tryz.func164.trans (congrArg some (by kernel_rfl))⟩
  f29 := ⟨Tryz.f165.name, by decide, Tryz.func165.trans (congrArg some (by kernel_rfl))⟩
  f31 := Tryz.func152.trans (congrArg some (by kernel_rfl))
  f32 := Tryz.func153.trans (congrArg some (by kernel_rfl))
  f36 := ⟨Tryz.f190.name, by decide, Tryz.func190.trans (congrArg some (by kernel_rfl))⟩
  f37 := ⟨Tryz.f191.name, by decide, Tryz.func191.trans (congrArg some (by kernel_rfl))⟩
  f38 := ⟨Tryz.f192.name, by decide, Tryz.func192.trans (congrArg some (by kernel_rfl))⟩
  f39 := ⟨Tryz.f193.name, by decide, Tryz.func193.trans (congrArg some (by kernel_rfl))⟩
  f41 := ⟨Tryz.f202.name, by decide, Tryz.func202.trans (congrArg some (by kernel_rfl))⟩
  t0 := Tryz.underlying0
  a0 := Tryz.isAgg0
  z0 := Tryz.sizeOf0
  v0 := Tryz.zeroValue0
  t3 := Tryz.underlying3
  a3 := Tryz.isAgg3
  z3 := Tryz.sizeOf3
  v3 := Tryz.zeroValue3
  t4 := Tryz.underlying4
  a4 := Tryz.isAgg4
  z4 := Tryz.sizeOf4
  v4 := Tryz.zeroValue4
  t5 := Tryz.underlying5
  a5 := Tryz.isAgg5
  z5 := Tryz.sizeOf5
  v5 := Tryz.zeroValue5
  t9 := Tryz.underlying9
  a9 := Tryz.isAgg9
  z9 := Tryz.sizeOf9
  v9 := Tryz.zeroValue9
  t26 := Tryz.underlying60
  a26 := Tryz.isAgg60
  z26 := Tryz.sizeOf60
  v26 := Tryz.zeroValue60
  t27 := Tryz.underlying60
  a27 := Tryz.isAgg60
  z27 := Tryz.sizeOf60
  v27 := Tryz.zeroValue60
  t29 := Tryz.underlying9
  a29 := Tryz.isAgg9
  z29 := Tryz.sizeOf9
  v29 := Tryz.zeroValue9
  t32 := Tryz.underlying113
  a32 := Tryz.isAgg113
  z32 := Tryz.sizeOf113
  v32 := Tryz.zeroValue113
  t35 := Tryz.underlying149
  a35 := Tryz.isAgg149
  z35 := Tryz.sizeOf149
  v35 := Tryz.zeroValue149
  t36 := Tryz.underlying150
  a36 := Tryz.isAgg150
  z36 := Tryz.sizeOf150
  v36 := Tryz.zeroValue150
  t41 := Tryz.underlying155
  a41 := Tryz.isAgg155
  z41 := Tryz.sizeOf155
  v41 := Tryz.zeroValue155
  t44 := Tryz.underlying158
  a44 := Tryz.isAgg158
  z44 := Tryz.sizeOf158
  v44 := Tryz.zeroValue158
  t46 := Tryz.underlying23
  a46 := Tryz.isAgg23
  z46 := Tryz.sizeOf23
  v46 := Tryz.zeroValue23
  t53 := Tryz.underlying191
  a53 := Tryz.isAgg191
  z53 := Tryz.sizeOf191
  v53 := Tryz.zeroValue191
  t57 := Tryz.underlying194
  a57 := Tryz.isAgg194
  z57 := Tryz.sizeOf194
  v57 := Tryz.zeroValue194
  t63 := Tryz.underlying226
  a63 := Tryz.isAgg226
  z63 := Tryz.sizeOf226
  v63 := Tryz.zeroValue226
  t64 := Tryz.underlying227
  a64 := Tryz.isAgg227
  z64 := Tryz.sizeOf227
  v64 := Tryz.zeroValue227 }
open Go.RowKit Go.Maps Go.Sort in
theorem Tryz.sorts45 (m : Nat) : AnyZ.SortsIn Tryz.prog Tryz.sorted45_ren Fence.wide m :=
  ⟨fun blk off cap ss W hH hblk hsz => callsIn_wide.2 (AnyM.slices_Sort_string Tryz.sort71 blk off cap ss W hH hblk hsz),
   fun p cap W => callsIn_wide.2 (AnyM.slices_Sort_string_none Tryz.sort71 p cap W)⟩
open Go.RowKit Go.Maps Go.Sort in
theorem Tryz.maps_Keys_46 (mb : Option Nat) (W : World) : CallsIn Fence.wide 5 Tryz.prog 46 #[.map mb] W fun e w' => e = .returned (.func (.func 72) #[] #[.pointer (some ⟨W.heap.size, 0, none⟩)]) ∧ w' = W.alloc (.cells #[.map mb] 53) :=
  AnyZ.keys_in Tryz.keys46 Fence.wide 5 trivial rfl mb W
open Go.RowKit Go.Maps Go.Sort in
theorem Tryz.slices_Sorted_keys_45_46 {H : Type} (b nn : Nat) (D0 : DataW H) (R : Value → Option (DataW H × List MemPlace)) (w : World) (hown : w.ownsMap Tryz.prog 9 R b nn D0) (hmax : Maps.size D0 ≤ maxLen) (hbytes : Maps.size D0 * 16 ≤ 140737488355328) :
    CallsIn Fence.wide 5 Tryz.prog 45 #[.func (.func 72) #[] #[.pointer (some ⟨w.heap.size, 0, none⟩)]] (w.alloc (.cells #[.map (some b)] 53)) fun e w' => ∃ (v : Value) (ss : List (List UInt8)), e = .returned v ∧ ss.Perm (strKeys D0) ∧
      w'.ownsRow (w.alloc (.cells #[.map (some b)] 53)).heap.size 9 1 v ss.length ((ss.mergeSort (fun x y => decide (x ≤ y))).map encStr) ∧ (v = .slice none 0 0 ↔ ss = []) ∧ Below (w.alloc (.cells #[.map (some b)] 53)).heap.size (w.alloc (.cells #[.map (some b)] 53)) w' := by
  have hbl := hown.lt
  have hseq : SeqGives Fence.wide 2 Tryz.prog 72 #[.pointer (some ⟨w.heap.size, 0, none⟩)] encStr (fun ss => ss.Perm (strKeys D0)) (Maps.size D0) (w.alloc (.cells #[.map (some b)] 53)) :=
    AnyZ.keys_gives (ρ := Tryz.keys46_ren) { Tryz.keys46 with } Fence.wide _ trivial rfl (by omega) w.heap.size b nn D0 _ (by simp) (by simp) (by
      obtain ⟨es, clock, hb, Ft, hs, hD⟩ := hown
      exact ⟨es, clock, (Below.heap_alloc _ _ b hbl).trans hb, Ft, hs, hD⟩)
  exact AnyZ.sorted_in Tryz.sorted45 Fence.wide 5 trivial trivial trivial trivial rfl (by omega) (Tryz.sorts45 _) (enters_of Tryz.func71 (by kernel_rfl) rfl) 72 #[.pointer (some ⟨w.heap.size, 0, none⟩)] trivial (enters_of Tryz.func72 (by kernel_rfl) rfl) _ _ hmax hbytes _ hseq
open Go.RowKit Go.Maps Go.Sort in
theorem Tryz.slices_Sorted_keys_nil_45_46 (w : World) :
    CallsIn Fence.wide 5 Tryz.prog 45 #[.func (.func 72) #[] #[.pointer (some ⟨w.heap.size, 0, none⟩)]] (w.alloc (.cells #[.map none] 53)) fun e w' => ∃ (v : Value) (ss : List (List UInt8)), e = .returned v ∧ ss = [] ∧
      w'.ownsRow (w.alloc (.cells #[.map none] 53)).heap.size 9 1 v ss.length ((ss.mergeSort (fun x y => decide (x ≤ y))).map encStr) ∧ (v = .slice none 0 0 ↔ ss = []) ∧ Below (w.alloc (.cells #[.map none] 53)).heap.size (w.alloc (.cells #[.map none] 53)) w' := by
  have hseq : SeqGives Fence.wide 2 Tryz.prog 72 #[.pointer (some ⟨w.heap.size, 0, none⟩)] encStr (fun ss : List (List UInt8) => ss = []) 0 (w.alloc (.cells #[.map none] 53)) :=
    AnyZ.keys_gives_nil (ρ := Tryz.keys46_ren) { Tryz.keys46 with } Fence.wide _ trivial rfl w.heap.size _ (by simp) (by simp)
  exact AnyZ.sorted_in Tryz.sorted45 Fence.wide 5 trivial trivial trivial trivial rfl (by omega) (Tryz.sorts45 _) (enters_of Tryz.func71 (by kernel_rfl) rfl) 72 #[.pointer (some ⟨w.heap.size, 0, none⟩)] trivial (enters_of Tryz.func72 (by kernel_rfl) rfl) _ 0 (Nat.zero_le _) (by omega) _ hseq
end Go.Proofs

/-
  The program's disk: Read, List.
-/
namespace Go.Proofs.YthjikbhjciphiaaGreatDoor
open Go.RowKit
set_option linter.unusedVariables false
set_option linter.unusedSimpArgs false

theorem bl_le (x : List UInt8) : ∀ y, Op.bytesLess x y = true → x ≤ y := by
  intro y h
  have h2 : x < y := by
    induction x generalizing y with
    | nil =>
      cases y with
      | nil => simp [Op.bytesLess] at h
      | cons b y => exact List.nil_lt_cons b y
    | cons a x ih =>
      cases y with
      | nil => simp [Op.bytesLess] at h
      | cons b y =>
        rw [bl_cons] at h
        rw [List.cons_lt_cons_iff]
        rcases h with h | ⟨rfl, h⟩
        · exact .inl (UInt8.lt_iff_toNat_lt.2 h)
        · exact .inr ⟨rfl, ih y h⟩
  exact List.le_of_lt h2
theorem srt_sort (fs : List Fl) (h : SrtF fs) (ss : List (List UInt8)) (hp : ss.Perm (fs.map Fl.name)) : ss.mergeSort leB = fs.map Fl.name := by
  rw [mergeSort_of_perm hp]
  refine List.mergeSort_of_pairwise ?_
  rw [List.pairwise_map]
  exact List.Pairwise.imp (fun {a b} hab => decide_eq_true (bl_le _ _ hab)) h
theorem strKeys_mapD (L : List (List UInt8 × Value)) : strKeys (mapD L) = L.map (·.1) := by
  show (mapE L).map (fun p => strOf p.1) = _
  unfold mapE
  rw [List.map_map]
  rfl

set_option maxRecDepth 100000 in
set_option maxHeartbeats 2000000 in
theorem pread_any (W : World) (S : Nat → Prop) (q : Nat) (m : Dk) (name : List UInt8) (h : PD W S q m) (hO : OkD 200 m) (hl : name.length ≤ 100) :
    Calls Tryz.prog 49 #[.pointer (some ⟨q, 0, none⟩), .string ⟨name.toArray⟩] W fun e W' => ∃ v, e = .returned (.tuple #[v, .int .i64 (readD m name).1]) ∧ W'.ownsRow W.heap.size 5 1 v (readD m name).2.length ((readD m name).2.map bv) ∧ Below W.heap.size W W' := by
  obtain ⟨mb, l, kp, L, G, h⟩ := h
  have hdn := pdown_any W h
  have c1 : W.cell? ⟨q, 1, none⟩ = some (.map (some mb)) := h.blk.cell 1
  have HH := Lib.hid h
  have HO := Lib.hid (hO.good (by omega))
  obtain ⟨T, hT⟩ : ∃ T : ByteArray, ⟨name.toArray⟩ = T := ⟨_, rfl⟩
  have hTl : T.data.toList = name := by rw [← hT]
  have hTs : T.size ≤ 10000 := by rw [← hT]; show name.toArray.size ≤ _; simp; omega
  rw [hT]
  have HT := Lib.hid (And.intro hTl hTs)
  clear hT hTl hTs h hO
  cases hd : m.down
  · rw [hd] at hdn
    cases hlo : lookF name m.files with
    | none =>
      have hR : readD m name = (8, []) := by unfold readD; rw [hd, hlo]; rfl
      have hlk1 := look_no HH.out T HT.out.2 (by rw [HT.out.1]; exact hlo) W HH.out.map
      rw [hR]
      clear hR hd hlo
      go_enter Tryz.func49, Tryz.ntmps49
      go_wp2_with fail
      refine hdn.mono ?_
      rintro e W1 ⟨rfl, rfl⟩
      clear hdn
      go_wp2_with fail
      go_ret2
      exact ⟨_, rfl, World.ownsRow_nil _ _ _ _, Below.refl _ _⟩
    | some f =>
      have hR : readD m name = (0, f.data) := by unfold readD; rw [hd, hlo]; rfl
      obtain ⟨x, hx, hxf, hfn, hlk⟩ := look_yes HH.out T HT.out.2 (by rw [HT.out.1]; exact hlo)
      have hlk1 := hlk W HH.out.map
      rw [HT.out.1] at hx
      have hsm := HH.out.small (k := 0) HO.out hx
      have hby := pbytes_any x W (HH.out.at_ name x hx) hsm.1
      rw [hR]
      have HX := Lib.hid hxf
      clear hR hd hlo hx hxf hfn hlk hsm
      go_enter Tryz.func49, Tryz.ntmps49
      go_wp2_with fail
      refine hdn.mono ?_
      rintro e W1 ⟨rfl, rfl⟩
      clear hdn
      go_wp2_with fail
      refine hby.mono ?_
      rintro e W2 ⟨v, rfl, hown, hb⟩
      have HW := Lib.hid (And.intro hown hb)
      clear hby hown hb
      go_wp2_with fail
      go_ret2
      exact ⟨v, rfl, by rw [← HX.out]; exact HW.out.1, HW.out.2⟩
  · rw [hd] at hdn
    have hR : readD m name = (19, []) := by unfold readD; rw [hd]; rfl
    rw [hR]
    clear hR hd
    go_enter Tryz.func49, Tryz.ntmps49
    go_wp2_with fail
    refine hdn.mono ?_
    rintro e W1 ⟨rfl, rfl⟩
    clear hdn
    go_wp2_with fail
    go_ret2
    exact ⟨_, rfl, World.ownsRow_nil _ _ _ _, Below.refl _ _⟩

theorem pkeys_any (mb : Option Nat) (W : World) : Calls Tryz.prog 46 #[.map mb] W fun e w' => e = .returned (.func (.func 72) #[] #[.pointer (some ⟨W.heap.size, 0, none⟩)]) ∧ w' = W.alloc (.cells #[.map mb] 53) :=
  callsIn_wide.1 (Tryz.maps_Keys_46 mb W)

set_option maxRecDepth 100000 in
set_option maxHeartbeats 2000000 in
theorem plist_any (W : World) (S : Nat → Prop) (q : Nat) (m : Dk) (h : PD W S q m) (hO : OkD 200 m) :
    Calls Tryz.prog 29 #[.pointer (some ⟨q, 0, none⟩)] W fun e W' => ∃ v, e = .returned v ∧ W'.ownsRow W.heap.size 9 1 v m.files.length (wsV (m.files.map Fl.name)) ∧ Below W.heap.size W W' := by
  obtain ⟨mb, l, kp, L, G, h⟩ := h
  have c1 : W.cell? ⟨q, 1, none⟩ = some (.map (some mb)) := h.blk.cell 1
  have hk := pkeys_any (some mb) W
  have hlen : Maps.size (mapD L) = m.files.length := by rw [mapD_size, h.len]
  have hl2 := hO.len
  have hs := callsIn_wide.1 (Tryz.slices_Sorted_keys_45_46 mb L.length (mapD L) rawR W h.map (by rw [hlen]; unfold maxLen; omega) (by rw [hlen]; omega))
  have HH := Lib.hid h
  clear h hO hlen hl2
  go_enter Tryz.func29, Tryz.ntmps29
  go_wp2_with fail
  refine hk.mono ?_
  rintro e W1 ⟨rfl, rfl⟩
  clear hk
  go_wp2_with fail
  refine hs.mono ?_
  rintro e W2 ⟨v, ss, rfl, hS, hrow, hnil, hb⟩
  have hp : ss.Perm (m.files.map Fl.name) := by
    rw [strKeys_mapD] at hS
    exact hS.trans (tied_perm HH.out.map (Maps.string_keyed Tryz.underlying9) HH.out.tied HH.out.srt)
  have hlen : ss.length = m.files.length := by rw [hp.length_eq, List.length_map]
  have hsort : ss.mergeSort (fun x y => decide (x ≤ y)) = m.files.map Fl.name := srt_sort m.files HH.out.srt ss hp
  rw [hsort, hlen] at hrow
  have HW := Lib.hid (And.intro hrow hb)
  clear hs hS hrow hnil hb hp hlen hsort
  go_wp2_with fail
  go_ret
  exact ⟨v, rfl, own_mono HW.out.1 (by simp), bthen ((Below.refl _ W).alloc (Nat.le_refl _) _) HW.out.2⟩

end Go.Proofs.YthjikbhjciphiaaGreatDoor
