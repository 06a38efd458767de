/-
  DERIVED. GIVEN WITH THE SEED: THE CARDS: each row of YtgococpbhbcpmaaDoorRows.lean that lists a variable, with what it lists TIED to the program's text (the seventh form; the later family's looks); each row that meets fmt, with fmt's text TOLD by the authors' own Lean function (tested against real Go, not proved from fmt's source: count such statements apart). THE CARD IS WHAT COUNTS. Prove the row's statement (the work); the ties are given (YtgococpbhbcpmaaDoorTie.lean); close each card by the builder's one call (the guide's Derived/Test/ToyasCard.lean, 'card_holds'). Laid BY PROGRAM, IN A SANDBOX (cutbox-door.mjs). By AI agents, Wed Nov 11 2026. No macro, syntax, notation, axiom, sorry.
-/
import Derived.Test.YtgococpbhbcpmaaDoorRows
import GoSem.ClaimSeven
namespace Go.Proofs.YtgococpbhbcpmaaDoor
namespace Rows

/-- THE TIED CARD OF 'taximeterlaw13.SegNames'. -/
def segNamesCard : Claim7 := { stood := { row := segNamesRow, standIns := [], harness := (true, "9908b075952e6640297daff64d217558e08169aa455c763aa478537d5c93c2b8"), looks := true }, kinds := [], alts := [], laidByText := true, laidKinds := [.data, .data, .data, .sentinel, .sentinel], laidTests := true, laidLooks := .later }
def SegNamesCardSaid : Prop := Claim7.holds Tryd.pinned (.plain (OpenSpec.ofChange segNamesSpec)) segNamesCard

/-- THE TIED CARD OF 'taximeterlaw13.SegNumbers'. -/
def segNumbersCard : Claim7 := { stood := { row := segNumbersRow, standIns := [], harness := (true, "9908b075952e6640297daff64d217558e08169aa455c763aa478537d5c93c2b8"), looks := true }, kinds := [], alts := [], laidByText := true, laidKinds := [.data, .data, .data, .sentinel, .sentinel], laidTests := true, laidLooks := .later }
def SegNumbersCardSaid : Prop := Claim7.holds Tryd.pinned (.plain (OpenSpec.ofChange segNumbersSpec)) segNumbersCard

/-- THE SECOND FORM's CARD OF 'taximeterlaw13.SegNames'. -/
def segNamesUptoCard : Claim7 := { stood := { row := segNamesUptoRow, standIns := [], harness := (true, "9908b075952e6640297daff64d217558e08169aa455c763aa478537d5c93c2b8"), looks := true }, kinds := [], alts := [], laidByText := true, laidKinds := [.data, .data, .data, .sentinel, .sentinel], laidTests := true, laidLooks := .later }
def SegNamesUptoCardSaid : Prop := Claim7.holds Tryd.pinned (.plain (OpenSpec.upto segNamesSpec)) segNamesUptoCard

/-- THE SECOND FORM's CARD OF 'taximeterlaw13.SegNumbers'. -/
def segNumbersUptoCard : Claim7 := { stood := { row := segNumbersUptoRow, standIns := [], harness := (true, "9908b075952e6640297daff64d217558e08169aa455c763aa478537d5c93c2b8"), looks := true }, kinds := [], alts := [], laidByText := true, laidKinds := [.data, .data, .data, .sentinel, .sentinel], laidTests := true, laidLooks := .later }
def SegNumbersUptoCardSaid : Prop := Claim7.holds Tryd.pinned (.plain (OpenSpec.upto segNumbersSpec)) segNumbersUptoCard
end Rows
end Go.Proofs.YtgococpbhbcpmaaDoor
