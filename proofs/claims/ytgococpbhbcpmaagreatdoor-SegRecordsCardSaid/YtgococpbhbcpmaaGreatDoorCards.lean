/-
  DERIVED. GIVEN WITH THE SEED: THE CARDS: each row of YtgococpbhbcpmaaGreatDoorRows.lean that lists a variable, with what it lists TIED to the program's text (the seventh form; the later family's looks); each row that meets fmt, with fmt's text TOLD by the authors' own Lean function (tested against real Go, not proved from fmt's source: count such statements apart). THE CARD IS WHAT COUNTS. Prove the row's statement (the work); the ties are given (YtgococpbhbcpmaaGreatDoorTie.lean); close each card by the builder's one call (the guide's Derived/Test/ToyasCard.lean, 'card_holds'). Laid BY PROGRAM, IN A SANDBOX (cutbox-door.mjs). By AI agents, Wed Nov 11 2026. No macro, syntax, notation, axiom, sorry.
-/
import Derived.Test.YtgococpbhbcpmaaGreatDoorRows
import GoSem.ClaimSeven
namespace Go.Proofs.YtgococpbhbcpmaaGreatDoor
namespace Rows

/-- THE TIED CARD OF 'taximeterlaw13.SegRecords'. -/
def segRecordsCard : Claim7 := { stood := { row := segRecordsRow, standIns := [], harness := (true, "f2b4364c79f31dacb131965bad09bfcdf74c66ec0b0d17ec1fe8c3fab49c3dd2"), looks := true }, kinds := [], alts := [], laidByText := true, laidKinds := [.data, .data, .data, .sentinel, .sentinel], laidTests := true, laidLooks := .later }
def SegRecordsCardSaid : Prop := Claim7.holds Tryz.pinned (.plain (OpenSpec.ofChange segRecordsSpec)) segRecordsCard

/-- THE TIED CARD OF 'taximeterlaw13.SegTorn'. -/
def segTornCard : Claim7 := { stood := { row := segTornRow, standIns := [], harness := (true, "f2b4364c79f31dacb131965bad09bfcdf74c66ec0b0d17ec1fe8c3fab49c3dd2"), looks := true }, kinds := [], alts := [], laidByText := true, laidKinds := [.data, .data, .data, .sentinel, .sentinel], laidTests := true, laidLooks := .later }
def SegTornCardSaid : Prop := Claim7.holds Tryz.pinned (.plain (OpenSpec.ofChange segTornSpec)) segTornCard

/-- THE SECOND FORM's CARD OF 'taximeterlaw13.SegRecords'. -/
def segRecordsUptoCard : Claim7 := { stood := { row := segRecordsUptoRow, standIns := [], harness := (true, "f2b4364c79f31dacb131965bad09bfcdf74c66ec0b0d17ec1fe8c3fab49c3dd2"), looks := true }, kinds := [], alts := [], laidByText := true, laidKinds := [.data, .data, .data, .sentinel, .sentinel], laidTests := true, laidLooks := .later }
def SegRecordsUptoCardSaid : Prop := Claim7.holds Tryz.pinned (.plain (OpenSpec.upto segRecordsSpec)) segRecordsUptoCard

/-- THE SECOND FORM's CARD OF 'taximeterlaw13.SegTorn'. -/
def segTornUptoCard : Claim7 := { stood := { row := segTornUptoRow, standIns := [], harness := (true, "f2b4364c79f31dacb131965bad09bfcdf74c66ec0b0d17ec1fe8c3fab49c3dd2"), looks := true }, kinds := [], alts := [], laidByText := true, laidKinds := [.data, .data, .data, .sentinel, .sentinel], laidTests := true, laidLooks := .later }
def SegTornUptoCardSaid : Prop := Claim7.holds Tryz.pinned (.plain (OpenSpec.upto segTornSpec)) segTornUptoCard
end Rows
end Go.Proofs.YtgococpbhbcpmaaGreatDoor
