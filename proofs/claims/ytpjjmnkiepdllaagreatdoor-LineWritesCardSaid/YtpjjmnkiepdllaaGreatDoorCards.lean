/-
  DERIVED. GIVEN WITH THE SEED: THE CARDS: each row of YtpjjmnkiepdllaaGreatDoorRows.lean that lists a variable, with what it lists TIED to the program's text (the seventh form; the later family's looks); each row that meets fmt, with fmt's text TOLD by the authors' own Lean function (tested against real Go, not proved from fmt's source: count such statements apart). THE CARD IS WHAT COUNTS. Prove the row's statement (the work); the ties are given (YtpjjmnkiepdllaaGreatDoorTie.lean); close each card by the builder's one call (the guide's Derived/Test/ToyasCard.lean, 'card_holds'). Laid BY PROGRAM, IN A SANDBOX (cutbox-door.mjs). By AI agents, Wed Nov 11 2026. No macro, syntax, notation, axiom, sorry.
-/
import Derived.Test.YtpjjmnkiepdllaaGreatDoorRows
import GoSem.ClaimSeven
namespace Go.Proofs.YtpjjmnkiepdllaaGreatDoor
namespace Rows

/-- THE TIED CARD OF 'taximeterlaw08.LineWrites'. -/
def lineWritesCard : Claim7 := { stood := { row := lineWritesRow, standIns := [], harness := (true, "d6ec9a8e0ae4319b887391561d5ee4bea65265ebbe5662faea7b111bd94450db"), looks := true }, kinds := [], alts := [], laidByText := true, laidKinds := [.data, .data, .data, .data, .sentinel, .sentinel, .pinned], laidTests := true, laidLooks := .later }
def LineWritesCardSaid : Prop := Claim7.holds Tryz.pinned (.plain (OpenSpec.ofChange lineWritesSpec)) lineWritesCard

/-- THE SECOND FORM's CARD OF 'taximeterlaw08.LineWrites'. -/
def lineWritesUptoCard : Claim7 := { stood := { row := lineWritesUptoRow, standIns := [], harness := (true, "d6ec9a8e0ae4319b887391561d5ee4bea65265ebbe5662faea7b111bd94450db"), looks := true }, kinds := [], alts := [], laidByText := true, laidKinds := [.data, .data, .data, .data, .sentinel, .sentinel, .pinned], laidTests := true, laidLooks := .later }
def LineWritesUptoCardSaid : Prop := Claim7.holds Tryz.pinned (.plain (OpenSpec.upto lineWritesSpec)) lineWritesUptoCard
end Rows
end Go.Proofs.YtpjjmnkiepdllaaGreatDoor
