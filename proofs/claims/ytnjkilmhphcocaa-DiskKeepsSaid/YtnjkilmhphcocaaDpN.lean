/-
  The program's disk keeps its contracts; the statements over it.
-/
import Derived.Test.YtnjkilmhphcocaaDpM
import Derived.Test.YtnjkilmhphcocaaDlC
namespace Go.Proofs.Ytnjkilmhphcocaa
open Go.RowKit
set_option linter.unusedVariables false
set_option linter.unusedSimpArgs false

theorem diskC : DiskC 0 (fun _ => True) PD := by
  refine ⟨fun _ _ _ => trivial, fun h ht hn => h.turn ht fun k hk => (hn k hk).2, fun h => ?_, ?_, ?_, ?_, ?_, ?_, ?_, ?_⟩
  · obtain ⟨mb, l, kp, L, G, h⟩ := h
    exact ⟨h.sq, fun k hk => ⟨Nat.zero_le _, h.lt k hk⟩⟩
  · intro W S q m name data A n c h hO hl hd hda hnil _ _
    exact pappend_any W S q m name data A n c h hO hl hd hda hnil
  · intro W S q m name h hO hl
    exact psync_any W S q m name h hO hl
  · intro W S q m name dest h hO hl hl2
    exact prename_any W S q m name dest h hO hl hl2
  · intro W S q m name h hO hl
    exact prem_any W S q m name h hO hl
  · intro W S q m n keep h hO hn
    obtain ⟨mb, l, kp, L, G, h⟩ := h
    refine (parm_any W n keep hn h).mono ?_
    rintro e W' ⟨rfl, h1, h2⟩
    exact ⟨S, rfl, ⟨_, _, _, _, _, h1⟩, fun k hk => .inl hk, h2.mono fun k e => by rw [e]; exact h.sq⟩
  · intro W S q m keep h hO
    obtain ⟨mb, l, kp, L, G, h⟩ := h
    refine (pcrash_any W keep h (hO.good (by omega))).mono ?_
    rintro e W' ⟨rfl, ⟨G', h1⟩, h2⟩
    exact ⟨S, rfl, ⟨_, _, _, _, _, h1⟩, fun k hk => .inl hk, h2⟩
  · intro W S q m h hO
    obtain ⟨mb, l, kp, L, G, h⟩ := h
    refine (pup_any W h).mono ?_
    rintro e W' ⟨rfl, h1, h2⟩
    exact ⟨S, rfl, ⟨_, _, _, _, _, h1⟩, fun k hk => .inl hk, h2.mono fun k e => by rw [e]; exact h.sq⟩
theorem diskA : DiskA 0 (fun _ => True) PD := by
  refine ⟨?_, ?_, ?_, ?_, ?_, ?_, ?_⟩
  · intro W cap _ _ hc
    exact pnew_any W cap hc
  · intro W S q m name h hO hl
    exact pread_any W S q m name h hO hl
  · intro W S q m h hO _
    exact plist_any W S q m h hO
  · intro W S q m h hO _
    exact pfiles_any W S q m h hO
  · intro W S q m h hO
    obtain ⟨mb, l, kp, L, G, h⟩ := h
    exact psize_any W h (by have := hO.size; omega)
  · intro W S q m h hO
    obtain ⟨mb, l, kp, L, G, h⟩ := h
    refine (pcalls_any W h).mono ?_
    rintro e W' ⟨rfl, rfl⟩
    exact ⟨rfl, Below.refl _ _⟩
  · intro W S q m h hO
    obtain ⟨mb, l, kp, L, G, h⟩ := h
    refine (pdown_any W h).mono ?_
    rintro e W' ⟨rfl, rfl⟩
    exact ⟨rfl, Below.refl _ _⟩

theorem awake9_law (W : World) : Calls Try.prog 7 #[] W fun e W' => e = .returned (.bool true) ∧ Below W.heap.size W W' := awake9_any diskC diskA W trivial (Nat.zero_le _)
theorem diskDoes_law (cap : Int) (A : Option Addr) (n c : Nat) (ss : List Sp) (W : World) (hlo : -9223372036854775808 ≤ cap) (hcap : cap ≤ 9223372036854775807) (hss : Sps W (fun j => W.heap.size ≤ j) A n ss) (hsn : ∀ s ∈ ss, s.n < 18446744073709551616) (_ : A = none → c = 0) (hnc : n ≤ c) (hcm : c ≤ maxLen) :
    Calls Try.prog 3 #[.int .i64 cap, .slice A n c] W fun e W' => e = .returned (.bool true) ∧ Below W.heap.size W W' := diskDoes_walk diskC diskA W trivial (Nat.zero_le _) cap (by omega) A n c ss hss hsn (Nat.le_trans hnc hcm)

end Go.Proofs.Ytnjkilmhphcocaa
