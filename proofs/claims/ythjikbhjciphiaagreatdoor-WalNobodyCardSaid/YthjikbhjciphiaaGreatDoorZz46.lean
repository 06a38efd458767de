/-
  The program's journal and disk: all the contracts that the statements ask for but Drop's.
-/
import Derived.Test.YthjikbhjciphiaaGreatDoorZz38
import Derived.Test.YthjikbhjciphiaaGreatDoorZz43
import Derived.Test.YthjikbhjciphiaaGreatDoorZz45
import Derived.Test.YthjikbhjciphiaaGreatDoorZz27
import Derived.Test.YthjikbhjciphiaaGreatDoorZz32
import Derived.Test.YthjikbhjciphiaaGreatDoorZz23
import Derived.Test.YthjikbhjciphiaaGreatDoorZz35
import Derived.Test.YthjikbhjciphiaaGreatDoorZz34
import Derived.Test.YthjikbhjciphiaaGreatDoorZz41
import Derived.Test.YthjikbhjciphiaaGreatDoorZz16
import Derived.LaidMore
import Derived.Stop.Joined
import Derived.Stop.LaidErr
import Derived.Lib.LaidTab
namespace Go.Proofs.YthjikbhjciphiaaGreatDoor
open Go.RowKit
set_option linter.unusedVariables false
set_option linter.unusedSimpArgs false

/-- The library's variables stand, whatever turns at N and behind. -/
def SVn (N : Nat) (w : World) : Prop := ∀ w', Turn (fun k => N ≤ k) w w' → SV w'
def PDn (N : Nat) (w : World) (S : Nat → Prop) (q : Nat) (m : Dk) : Prop := PD w S q m ∧ ∀ k, S k → N ≤ k
theorem SVn.sv {N : Nat} {w : World} (h : SVn N w) : SV w := h w (Turn.refl _ _)
theorem okj_okd {m : Dk} (h : OkJ m) : OkD 200 m := by
  obtain ⟨hx, hf, hs, own, pre, R0, cur, hH⟩ := h
  exact okd_of hH hx (by omega) (by omega) (by omega)
theorem OkJ.good {m : Dk} (h : OkJ m) : GoodD m := (okj_okd h).good (by omega)
section
variable {N : Nat} {w w' : World} {S S' T : Nat → Prop} {p q : Nat} {m : Dk} {j : Jn}
theorem PDn.lt (h : PDn N w S q m) : S q ∧ ∀ k, S k → N ≤ k ∧ k < w.heap.size := by
  obtain ⟨⟨_, _, _, _, _, hp⟩, hn⟩ := h
  exact ⟨hp.sq, fun k hk => ⟨hn k hk, hp.lt k hk⟩⟩
theorem PDn.big (h : PDn N w S q m) : N ≤ w.heap.size := by
  have := h.lt
  have h2 := this.2 q this.1
  omega
theorem LAn.lt (h : LAn N w T p q j) : T p ∧ ∀ k, T k → N ≤ k ∧ k < w.heap.size := by
  obtain ⟨hn, A, c, hL⟩ := h
  refine ⟨hL.here.1, fun k hk => ?_⟩
  have := hL.here.2 k hk
  omega
theorem LAn.big (h : LAn N w T p q j) : N ≤ w.heap.size := by
  have := h.lt
  have h2 := this.2 p this.1
  omega
end

theorem walC_all (N : Nat) : WalC N (SVn N) (PDn N) (LAn N) where
  iturn := fun {w w' S} h ht hS => fun w'' ht2 => h w'' ((ht.mono hS).trans ht2)
  dturn := fun {w w' S S' q m} h ht hS => ⟨h.1.turn ht fun k hk => (hS k hk).2, h.2⟩
  lturn := fun {w w' T S' p q j} h ht hS => by
    obtain ⟨hn, A, c, hL⟩ := h
    exact ⟨hn, A, c, hL.turn ht fun k hk => (hS k hk).2⟩
  dhere := fun h => h.lt
  lhere := fun h => h.lt
  new := fun W cap hI hN h1 h2 => (pnew_any W cap h2).mono fun e W' ⟨q, S, he, hP, hS, hb⟩ => ⟨q, S, he, ⟨hP, fun k hk => Nat.le_trans hN (hS k hk)⟩, hS, hb⟩
  arm := fun W S q m n keep h hO hn => by
    have hl := h.lt
    obtain ⟨⟨mb, l, kp, L, G, hp⟩, hN⟩ := h
    refine (parm_any W n keep hn hp).mono ?_
    rintro e W' ⟨he, hp2, ht⟩
    exact ⟨S, he, ⟨⟨mb, n, keep, L, G, hp2⟩, hN⟩, fun k hk => .inl hk, ht.mono fun k hk => by rw [hk]; exact hl.1⟩
  crash := fun W S q m keep h hO => by
    obtain ⟨⟨mb, l, kp, L, G, hp⟩, hN⟩ := h
    refine (pcrash_any W keep hp hO.good).mono ?_
    rintro e W' ⟨he, ⟨G', hp2⟩, ht⟩
    exact ⟨S, he, ⟨⟨mb, 0, 0, L, G', hp2⟩, hN⟩, fun k hk => .inl hk, ht⟩
  up := fun W S q m h hO => by
    have hl := h.lt
    obtain ⟨⟨mb, l, kp, L, G, hp⟩, hN⟩ := h
    refine (pup_any W hp).mono ?_
    rintro e W' ⟨he, hp2, ht⟩
    exact ⟨S, he, ⟨⟨mb, l, kp, L, G, hp2⟩, hN⟩, fun k hk => .inl hk, ht.mono fun k hk => by rw [hk]; exact hl.1⟩
  down := fun W S q m h hO => by
    obtain ⟨⟨mb, l, kp, L, G, hp⟩, hN⟩ := h
    exact pdown_any W hp
  size := fun W S q m h hO => by
    obtain ⟨⟨mb, l, kp, L, G, hp⟩, hN⟩ := h
    exact psize_any W hp (by have := hO.2.2.1; omega)
  calls := fun W S q m h hO => by
    obtain ⟨⟨mb, l, kp, L, G, hp⟩, hN⟩ := h
    exact pcalls_any W hp
  opens := fun W S q m next hI h hO hup hnx hs => by
    have hbig := h.big
    have hO2 := hO
    obtain ⟨_, _, _, own, pre, R0, cur, hH⟩ := hO2
    refine (lopen_any W S q m next own pre R0 cur hI.sv h.1 hO hH hup hnx hs).mono ?_
    rintro e W' ⟨p, A, n, c, he, hL, hp, hR, h1, h2, hb⟩
    exact ⟨p, fun k => k = p, A, n, c, he, ⟨by omega, none, 0, hL⟩, fun k hk => by rw [hk]; exact hp, hR, h1, h2, hb⟩
  downs := fun W S q m next hI h hO hd hnx => (lopen_down W S q m next h.1 hd).mono fun e W' ⟨he, hw⟩ => ⟨_, he, by rw [hw]; exact Below.refl _ _⟩
  nones := fun W next hI hnx => (lopen_nil W next).mono fun e W' ⟨he, hw⟩ => ⟨_, he, by rw [hw]; exact Below.refl _ _⟩
  put := fun W T p q j s k X l n b hI h hs hbl ho hX => by
    have hbig := h.big
    obtain ⟨hn, A, c, hL⟩ := h
    refine (lput_any W T p q c j A s k X l n b hL hI.sv.1 hs hbl ho hX).mono ?_
    rintro e W' ⟨T', A', c', he, hL2, hT, ht⟩
    exact ⟨T', he, ⟨hn, A', c', hL2⟩, hT, ht⟩
  commit := fun W S T p q m j hI hD h hd hO hbl hok hH hsz hup how => by
    have hb1 := hD.big
    have hT := h.lt
    have hS := hD.lt
    obtain ⟨hn, A, c, hL⟩ := h
    obtain ⟨pre, R0, cur, hH⟩ := hH
    refine (lcommit_any W S T p q c m j A pre R0 cur hI.sv (fun w hw => hI w (hw.mono fun k hk => by
      rcases hk with h1 | h1
      · exact (hS.2 k h1).1
      · exact (hT.2 k h1).1)) hD.1 hL hd hO hbl hok hH hsz hup how).mono ?_
    rintro e W' ⟨he, S', T', A', c', hP2, hL2, hd2, hS2, hT2, ht⟩
    refine ⟨S', T', he, ⟨hP2, fun k hk => ?_⟩, ⟨hn, A', c', hL2⟩, hd2, hS2, hT2, ht⟩
    rcases hS2 k hk with h1 | h1
    · exact (hS.2 k h1).1
    · omega
  next := fun W T p q j h => by
    obtain ⟨hn, A, c, hL⟩ := h
    exact lnext_any W hL
  sure := fun W T p q j h => by
    obtain ⟨hn, A, c, hL⟩ := h
    exact lsure_any W hL
  waits := fun W T p q j h => by
    obtain ⟨hn, A, c, hL⟩ := h
    exact lwaits_any W hL
  putNil := fun W s k X l n b => lput_nil W s k X l n b
  commitNil := fun W => lcommit_nil W
  nextNil := fun W => lnext_nil W
  sureNil := fun W => lsure_nil W
  waitsNil := fun W => lwaits_nil W
  dropNil := fun W s hs => (ldrop_nil W s).mono fun e W' ⟨he, hw⟩ => ⟨he, by rw [hw]; exact Below.refl _ _⟩

end Go.Proofs.YthjikbhjciphiaaGreatDoor

/-
  The rows of WalNobody, WalFull.
-/
namespace Go.Proofs.YthjikbhjciphiaaGreatDoor
open Go.RowKit
set_option linter.unusedVariables false
set_option linter.unusedSimpArgs false

theorem SV.to_n {W : World} (h : SV W) : SVn W.heap.size W := fun w' ht => h.below (ht.below (Nat.le_refl _) fun k hk => hk)

theorem walNobody_row (s : Nat) (k : Int) (X : ByteArray) (l n b : Nat) (a : Int) (W : World) (hok : (⟨s, k, X.data.toList, l, n, b⟩ : Rc).okay) (hX : X.size ≤ maxLen) (lo : 0 ≤ a) (hi : a ≤ 18446744073709551615) (hS : SV W) :
    Calls Tryz.prog 6 #[rcV s k X l n b, .int .u64 a] W fun e W' => e = .returned (.bool true) ∧ Below W.heap.size W W' := by
  obtain ⟨u, rfl⟩ := Int.eq_ofNat_of_zero_le lo
  exact walNobody_law (walC_all W.heap.size) s k X l n b u W hS.to_n (Nat.le_refl _) hX (by omega)

theorem walFull_row (cap : Int) (A : Option Addr) (n c : Nat) (l : List Rc) (W : World) (lo : -9223372036854775808 ≤ cap) (hi : cap ≤ 9223372036854775807) (hR : Rcs W (fun k => W.heap.size ≤ k) A n l) (hf : Fine l) (hnil : A = none → c = 0) (hnc : n ≤ c) (hcm : c ≤ maxLen) (hS : SV W) :
    Calls Tryz.prog 4 #[.int .i64 cap, .slice A n c] W fun e W' => e = .returned (.bool true) ∧ Below W.heap.size W W' :=
  walFull_law (walC_all W.heap.size) cap A n c l W hS.to_n (Nat.le_refl _) lo (by omega) hR hf hnc hcm

end Go.Proofs.YthjikbhjciphiaaGreatDoor

/-
  The row of WalKeeps.
-/
namespace Go.Proofs.YthjikbhjciphiaaGreatDoor
open Go.RowKit
set_option linter.unusedVariables false
set_option linter.unusedSimpArgs false

theorem walKeeps_row (A : Option Addr) (n c : Nat) (l : List Jst) (a : Int) (W : World) (hR : Jsts W (fun k => W.heap.size ≤ k) A n l) (hf : FineJ l) (hnil : A = none → c = 0) (hnc : n ≤ c) (hcm : c ≤ maxLen) (lo : 0 ≤ a) (hi : a ≤ 18446744073709551615) (hS : SV W) :
    Calls Tryz.prog 3 #[.slice A n c, .int .u64 a] W fun e W' => e = .returned (.bool true) ∧ Below W.heap.size W W' := by
  obtain ⟨u, rfl⟩ := Int.eq_ofNat_of_zero_le lo
  exact walKeeps_law (walC_all W.heap.size) A n c l u W hS.to_n (Nat.le_refl _) hR hf hnc hcm

end Go.Proofs.YthjikbhjciphiaaGreatDoor

/-
  What the conditions on the library's five listed variables give the walks of segments.
-/
namespace Go.Proofs.YthjikbhjciphiaaGreatDoor
open Go.ChangeShapes Go.WideShapes Go.ChangeAt Go.WideMaps Go.WideElems Go.RowKit
set_option linter.unusedVariables false
set_option linter.unusedSimpArgs false

theorem gSyn : Tryz.prog.globalNamed "strconv.ErrSyntax" = some 1 := by kernel_rfl
theorem tSyn : (Tryz.prog.globals[1]?).map (·.type) = some 107 := by kernel_rfl
theorem gRng13 : Tryz.prog.globalNamed "strconv.ErrRange" = some 2 := by kernel_rfl
theorem tRng13 : (Tryz.prog.globals[2]?).map (·.type) = some 107 := by kernel_rfl
theorem gBru : Tryz.prog.globalNamed "math/bits.deBruijn64tab" = some 4 := by kernel_rfl
theorem tBru : (Tryz.prog.globals[4]?).map (·.type) = some 233 := by kernel_rfl
theorem starE13 : "*" ++ "errors.errorString" = "*errors.errorString" := by decide
theorem rowE13 (u : TypeId) (h : Tryz.prog.typeName? 3 u = some "*errors.errorString") : u = 235 :=
  typeName_ptr_named (nm := "errors.errorString") (by rw [starE13]; kernel_rfl) (by kernel_rfl) (by decide) u (by rw [starE13]; exact h)
abbrev laidK : List (String × DataW Unit) := [("math/bits.deBruijn32tab", Rows.laid_math_bits_deBruijn32tab), ("math/bits.deBruijn64tab", Rows.laid_math_bits_deBruijn64tab), ("internal/strconv.uint64pow10", Rows.laid_internal_strconv_uint64pow10), ("strconv.ErrRange", Rows.laid_strconv_ErrRange), ("strconv.ErrSyntax", Rows.laid_strconv_ErrSyntax)]

/-- The door's own heap meets the condition. -/
theorem door_met (os : Os) (args : Array Value) : laidMetH Tryz.prog laidK ((World.doorLaid Tryz.prog 400 os).forCall (fun _ _ => 0) ⟨#[], args, []⟩).memory :=
  laidMetH_of_parts3 (fuel := 8) (laidMet_of_run' 8 (by kernel_rfl) (by kernel_rfl)) (by kernel_rfl) (by kernel_rfl)

/-- What the walks ask of the library's variables. -/
theorem of_laid {W : World} (h : laidMetH Tryz.prog laidK W) : SV W := by
  rw [MakeChecks.laidMetH_plain _ _ _ (by kernel_rfl)] at h
  have h3 := h.tail.tail.tail
  obtain ⟨a, s, hv, _⟩ := laid_sentinel h3 gRng13 tRng13 Tryz.underlying107 rowE13 Tryz.underlying235 Tryz.underlying237 rfl rfl Tryz.underlying9 (by kernel_rfl) (by kernel_rfl)
  obtain ⟨a2, s2, hv2, _⟩ := laid_sentinel h3.tail gSyn tSyn Tryz.underlying107 rowE13 Tryz.underlying235 Tryz.underlying237 rfl rfl Tryz.underlying9 (by kernel_rfl) (by kernel_rfl)
  have hT := Lib.tabIs_of_head (P := Tryz.prog) (k := .u8) (zs := Lib.deBruijn64tab.map fun (n : Nat) => (n : Int)) (n := 64) gBru tBru Tryz.underlying233 Tryz.underlying5 (by kernel_rfl) (by kernel_rfl) h.tail
  refine ⟨?_, ⟨_, by simpa using World.var?_cell gSyn hv2 0, .inr ⟨_, _, rfl⟩⟩, ⟨_, by simpa using World.var?_cell gRng13 hv 0, .inr ⟨_, _, rfl⟩⟩⟩
  intro k hk
  have hkl : k < (Lib.deBruijn64tab.map fun (n : Nat) => (n : Int)).length := by rw [List.length_map]; exact hk
  rw [hT.cell gBru k hkl, List.getD_eq_getElem?_getD, List.getD_eq_getElem?_getD, List.getElem?_map]
  rw [List.length_map] at hkl
  rw [List.getElem?_eq_getElem hkl]
  rfl

end Go.Proofs.YthjikbhjciphiaaGreatDoor
