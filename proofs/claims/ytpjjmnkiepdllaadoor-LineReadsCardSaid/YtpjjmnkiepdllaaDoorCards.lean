/-
  DERIVED. GIVEN WITH THE SEED: THE CARDS: each row of YtpjjmnkiepdllaaDoorRows.lean that lists a variable, with what it lists TIED to the program's text (the seventh form; the later family's looks); each row that meets fmt, with fmt's text TOLD by the authors' own Lean function (tested against real Go, not proved from fmt's source: count such statements apart). THE CARD IS WHAT COUNTS. Prove the row's statement (the work); the ties are given (YtpjjmnkiepdllaaDoorTie.lean); close each card by the builder's one call (the guide's Derived/Test/ToyasCard.lean, 'card_holds'). Laid BY PROGRAM, IN A SANDBOX (cutbox-door.mjs). By AI agents, Wed Nov 11 2026. No macro, syntax, notation, axiom, sorry.
-/
import Derived.Test.YtpjjmnkiepdllaaDoorRows
import GoSem.ClaimSeven
namespace Go.Proofs.YtpjjmnkiepdllaaDoor
namespace Rows

/-- THE TIED CARD OF 'taximeterlaw08.LineReads'. -/
def lineReadsCard : Claim7 := { stood := { row := lineReadsRow, standIns := [], harness := (true, "c709c5047036dacf66145cb558df1b4e3a8db1922a98aedea4a5429d38118815"), looks := true }, kinds := [], alts := [], laidByText := true, laidKinds := [.data, .data, .data, .data, .sentinel, .sentinel, .pinned], laidTests := true, laidLooks := .later }
def LineReadsCardSaid : Prop := Claim7.holds Tryd.pinned (.plain (OpenSpec.ofChange lineReadsSpec)) lineReadsCard

/-- THE TIED CARD OF 'taximeterlaw08.LineWord'. -/
def lineWordCard : Claim7 := { stood := { row := lineWordRow, standIns := [], harness := (true, "c709c5047036dacf66145cb558df1b4e3a8db1922a98aedea4a5429d38118815"), looks := true }, kinds := [], alts := [], laidByText := true, laidKinds := [.data, .data, .data, .data, .sentinel, .sentinel, .pinned], laidTests := true, laidLooks := .later }
def LineWordCardSaid : Prop := Claim7.holds Tryd.pinned (.plain (OpenSpec.ofChange lineWordSpec)) lineWordCard

/-- THE SECOND FORM's CARD OF 'taximeterlaw08.LineReads'. -/
def lineReadsUptoCard : Claim7 := { stood := { row := lineReadsUptoRow, standIns := [], harness := (true, "c709c5047036dacf66145cb558df1b4e3a8db1922a98aedea4a5429d38118815"), looks := true }, kinds := [], alts := [], laidByText := true, laidKinds := [.data, .data, .data, .data, .sentinel, .sentinel, .pinned], laidTests := true, laidLooks := .later }
def LineReadsUptoCardSaid : Prop := Claim7.holds Tryd.pinned (.plain (OpenSpec.upto lineReadsSpec)) lineReadsUptoCard

/-- THE SECOND FORM's CARD OF 'taximeterlaw08.LineWord'. -/
def lineWordUptoCard : Claim7 := { stood := { row := lineWordUptoRow, standIns := [], harness := (true, "c709c5047036dacf66145cb558df1b4e3a8db1922a98aedea4a5429d38118815"), looks := true }, kinds := [], alts := [], laidByText := true, laidKinds := [.data, .data, .data, .data, .sentinel, .sentinel, .pinned], laidTests := true, laidLooks := .later }
def LineWordUptoCardSaid : Prop := Claim7.holds Tryd.pinned (.plain (OpenSpec.upto lineWordSpec)) lineWordUptoCard
end Rows
end Go.Proofs.YtpjjmnkiepdllaaDoor
