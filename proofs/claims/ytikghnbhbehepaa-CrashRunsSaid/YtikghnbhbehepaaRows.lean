/-
  No cell of these rows narrows 'for every input' (looked for: loops, veiled, ifaces, maps, wideKeys, modest, calm, conditions, laid).
  DERIVED. THE GIVEN ROWS OF THIS SEAT. 3 by the template 'for every input the law returns true; each argument reads behind the call as it read before'; 0 by the template 'total and deterministic' (their statements: YtikghnbhbehepaaTotals.lean).
  GIVEN WITH THE SEED: the statements are not yours to turn. If you find one false, say at which input.
  Laid BY PROGRAM, IN A SANDBOX (cutbox-rows.mjs): the forced cells as the released guide's own fill.sh prints them over the translation 23973a9c328ce5d6… (all of the seat's roots in one cut). By AI agents, Wed Nov 11 2026. No macro, syntax, notation, axiom, sorry.
-/
import Derived.Test.YtikghnbhbehepaaChecked
import GoSem.Claim
import GoSem.ClaimJoined
import GoSem.ClaimMapViews
import Derived.JoinedTies
import Derived.KernelRfl
namespace Go.Proofs.Ytikghnbhbehepaa
/- THE CELL 'sum', in the pinned program and in every row, IS THE sha256 OF THE DUMP (.gsa) THAT YtikghnbhbehepaaProg.lean LOADS. Nothing in Lean hashes anything: it is a label: what it is worth is what the hold of that sum in a sandbox is worth. -/
noncomputable def Try.pinned : Pinned := { name := "ytikghnbhbehepaa", sum := "23973a9c328ce5d6b6d1bd5b06a19b5276f3f1c4d1777f86daf664e41346299f", checked := Try.checked }
namespace Rows
def none {H : Type} : Left H := { results := [], args := [] }

/-- 'taximeterlaw10.CrashLeaves': WHATEVER THE INPUT: true; the input reads as it did. -/
def crashLeavesSpec : ChangeSpec := { name := "crashLeaves", fn := fun _ => fun
  | [d1, d2, d3] => { results := [.lit (.bool true)], args := [d1, d2, d3] }
  | _ => none }
def crashLeavesRow : OpenClaim := { program := "ytikghnbhbehepaa", sum := "23973a9c328ce5d6b6d1bd5b06a19b5276f3f1c4d1777f86daf664e41346299f", func := "taximeter/taximeterlaw10.CrashLeaves", spec := "crashLeaves", unfollowed := true, recurses := true, apart := false }
def CrashLeavesSaid : Prop := crashLeavesRow.holds Try.pinned (OpenSpec.ofChange crashLeavesSpec)

/-- ITS FALSE NEIGHBOUR: 'it returns false'. Refute it at one input. -/
def crashLeavesWrong : ChangeSpec := { name := "crashLeaves", fn := fun _ => fun
  | [d1, d2, d3] => { results := [.lit (.bool false)], args := [d1, d2, d3] }
  | _ => none }
def CrashLeavesWrongFalsely : Prop := crashLeavesRow.holds Try.pinned (OpenSpec.ofChange crashLeavesWrong)

/-- 'taximeterlaw10.CrashRuns': WHATEVER THE INPUT: true; the input reads as it did. -/
def crashRunsSpec : ChangeSpec := { name := "crashRuns", fn := fun _ => fun
  | [d1, d2, d3] => { results := [.lit (.bool true)], args := [d1, d2, d3] }
  | _ => none }
def crashRunsRow : OpenClaim := { program := "ytikghnbhbehepaa", sum := "23973a9c328ce5d6b6d1bd5b06a19b5276f3f1c4d1777f86daf664e41346299f", func := "taximeter/taximeterlaw10.CrashRuns", spec := "crashRuns", unfollowed := true, recurses := true, apart := false }
def CrashRunsSaid : Prop := crashRunsRow.holds Try.pinned (OpenSpec.ofChange crashRunsSpec)

/-- ITS FALSE NEIGHBOUR: 'it returns false'. Refute it at one input. -/
def crashRunsWrong : ChangeSpec := { name := "crashRuns", fn := fun _ => fun
  | [d1, d2, d3] => { results := [.lit (.bool false)], args := [d1, d2, d3] }
  | _ => none }
def CrashRunsWrongFalsely : Prop := crashRunsRow.holds Try.pinned (OpenSpec.ofChange crashRunsWrong)

/-- 'taximeterlaw10.CrashMusts': WHATEVER THE INPUT: true; the input reads as it did. -/
def crashMustsSpec : ChangeSpec := { name := "crashMusts", fn := fun _ => fun
  | [d1, d2, d3] => { results := [.lit (.bool true)], args := [d1, d2, d3] }
  | _ => none }
def crashMustsRow : OpenClaim := { program := "ytikghnbhbehepaa", sum := "23973a9c328ce5d6b6d1bd5b06a19b5276f3f1c4d1777f86daf664e41346299f", func := "taximeter/taximeterlaw10.CrashMusts", spec := "crashMusts", unfollowed := true, recurses := true, apart := false }
def CrashMustsSaid : Prop := crashMustsRow.holds Try.pinned (OpenSpec.ofChange crashMustsSpec)

/-- ITS FALSE NEIGHBOUR: 'it returns false'. Refute it at one input. -/
def crashMustsWrong : ChangeSpec := { name := "crashMusts", fn := fun _ => fun
  | [d1, d2, d3] => { results := [.lit (.bool false)], args := [d1, d2, d3] }
  | _ => none }
def CrashMustsWrongFalsely : Prop := crashMustsRow.holds Try.pinned (OpenSpec.ofChange crashMustsWrong)

/- THE SECOND FORM. 'bulk': how many values and letters a reading holds, each counted each time it is reached (what is shared counts as often as it is met; a slice's spare places count too). A statement '..UptoSaid' is the law's where the arguments, and the package variables that the reading takes, are together of bulk at most 1048576: NARROWER than '..Said'. Prove '..Said' where nothing that the law and all that it calls make is longer than what came in: it says more and counts as full. Else prove '..UptoSaid'. A law counts once. -/
mutual
def uptoBulk {H : Type} : DataW H → Nat
  | .lit (.string bytes) => bytes.length + 1
  | .lit _ => 1
  | .nil => 1
  | .ptr d => uptoBulk d + 1
  | .slice elems spare => uptoBulkAll elems + uptoBulkAll spare + 1
  | .agg parts => uptoBulkAll parts + 1
  | .iface _ d => uptoBulk d + 1
  | .map entries => uptoBulkEntries entries + 1
  | .held _ => 1
def uptoBulkAll {H : Type} : List (DataW H) → Nat
  | [] => 0
  | d :: r => uptoBulk d + uptoBulkAll r
def uptoBulkEntries {H : Type} : List (Lit × DataW H) → Nat
  | [] => 0
  | x :: r => uptoBulkEntry x + uptoBulkEntries r
def uptoBulkEntry {H : Type} : Lit × DataW H → Nat
  | (.string bytes, d) => bytes.length + uptoBulk d + 1
  | (_, d) => uptoBulk d + 1
 end
def uptoSmall : (H : Type) → List (DataW H) → Bool := fun _ ds => decide (uptoBulkAll ds ≤ 1048576)
def OpenSpec.upto (s : _root_.Go.ChangeSpec) : _root_.Go.OpenSpec := { _root_.Go.OpenSpec.ofChange s with cond := some uptoSmall }

/-- 'taximeterlaw10.CrashLeaves', WHERE WHAT IT READS IS OF BULK AT MOST 1048576: true; the input reads as it did. -/
def crashLeavesUptoRow : OpenClaim := { program := "ytikghnbhbehepaa", sum := "23973a9c328ce5d6b6d1bd5b06a19b5276f3f1c4d1777f86daf664e41346299f", func := "taximeter/taximeterlaw10.CrashLeaves", spec := "crashLeaves", unfollowed := true, recurses := true, apart := false, narrowed := true }
def CrashLeavesUptoSaid : Prop := crashLeavesUptoRow.holds Try.pinned (OpenSpec.upto crashLeavesSpec)

/-- 'taximeterlaw10.CrashRuns', WHERE WHAT IT READS IS OF BULK AT MOST 1048576: true; the input reads as it did. -/
def crashRunsUptoRow : OpenClaim := { program := "ytikghnbhbehepaa", sum := "23973a9c328ce5d6b6d1bd5b06a19b5276f3f1c4d1777f86daf664e41346299f", func := "taximeter/taximeterlaw10.CrashRuns", spec := "crashRuns", unfollowed := true, recurses := true, apart := false, narrowed := true }
def CrashRunsUptoSaid : Prop := crashRunsUptoRow.holds Try.pinned (OpenSpec.upto crashRunsSpec)

/-- 'taximeterlaw10.CrashMusts', WHERE WHAT IT READS IS OF BULK AT MOST 1048576: true; the input reads as it did. -/
def crashMustsUptoRow : OpenClaim := { program := "ytikghnbhbehepaa", sum := "23973a9c328ce5d6b6d1bd5b06a19b5276f3f1c4d1777f86daf664e41346299f", func := "taximeter/taximeterlaw10.CrashMusts", spec := "crashMusts", unfollowed := true, recurses := true, apart := false, narrowed := true }
def CrashMustsUptoSaid : Prop := crashMustsUptoRow.holds Try.pinned (OpenSpec.upto crashMustsSpec)

end Rows
end Go.Proofs.Ytikghnbhbehepaa
