/-
  DERIVED. GIVEN WITH THE SEED: THE CARDS: each row of YtnjkhhagefipiaaDoorRows.lean that lists a variable, with what it lists TIED to the program's text (the seventh form; the later family's looks); each row that meets fmt, with fmt's text TOLD by the authors' own Lean function (tested against real Go, not proved from fmt's source: count such statements apart). THE CARD IS WHAT COUNTS. Prove the row's statement (the work); the ties are given (YtnjkhhagefipiaaDoorTie.lean); close each card by the builder's one call (the guide's Derived/Test/ToyasCard.lean, 'card_holds'). Laid BY PROGRAM, IN A SANDBOX (cutbox-door.mjs). By AI agents, Wed Nov 11 2026. No macro, syntax, notation, axiom, sorry.
-/
import Derived.Test.YtnjkhhagefipiaaDoorRows
import GoSem.ClaimSeven
namespace Go.Proofs.YtnjkhhagefipiaaDoor
namespace Rows

/-- THE TIED CARD OF 'taximeterlaw11.RecChecks'. -/
def recChecksCard : Claim7 := { stood := { row := recChecksRow, standIns := [], harness := (true, "9c553839a82e3deaef2194471dfc5e355bce7e3acf740b8736da4d700f77b948"), looks := false }, kinds := [], alts := [], laidByText := true, laidKinds := [.data], laidTests := true, laidLooks := .later }
def RecChecksCardSaid : Prop := Claim7.holds Tryd.pinned (.plain (OpenSpec.ofChange recChecksSpec)) recChecksCard

/-- THE TIED CARD OF 'taximeterlaw11.RecEncodes'. -/
def recEncodesCard : Claim7 := { stood := { row := recEncodesRow, standIns := [], harness := (true, "9c553839a82e3deaef2194471dfc5e355bce7e3acf740b8736da4d700f77b948"), looks := false }, kinds := [], alts := [], laidByText := true, laidKinds := [.data], laidTests := true, laidLooks := .later }
def RecEncodesCardSaid : Prop := Claim7.holds Tryd.pinned (.plain (OpenSpec.ofChange recEncodesSpec)) recEncodesCard

/-- THE TIED CARD OF 'taximeterlaw11.RecDecodes'. -/
def recDecodesCard : Claim7 := { stood := { row := recDecodesRow, standIns := [], harness := (true, "9c553839a82e3deaef2194471dfc5e355bce7e3acf740b8736da4d700f77b948"), looks := false }, kinds := [], alts := [], laidByText := true, laidKinds := [.data], laidTests := true, laidLooks := .later }
def RecDecodesCardSaid : Prop := Claim7.holds Tryd.pinned (.plain (OpenSpec.ofChange recDecodesSpec)) recDecodesCard

/-- THE SECOND FORM's CARD OF 'taximeterlaw11.RecChecks'. -/
def recChecksUptoCard : Claim7 := { stood := { row := recChecksUptoRow, standIns := [], harness := (true, "9c553839a82e3deaef2194471dfc5e355bce7e3acf740b8736da4d700f77b948"), looks := false }, kinds := [], alts := [], laidByText := true, laidKinds := [.data], laidTests := true, laidLooks := .later }
def RecChecksUptoCardSaid : Prop := Claim7.holds Tryd.pinned (.plain (OpenSpec.upto recChecksSpec)) recChecksUptoCard

/-- THE SECOND FORM's CARD OF 'taximeterlaw11.RecEncodes'. -/
def recEncodesUptoCard : Claim7 := { stood := { row := recEncodesUptoRow, standIns := [], harness := (true, "9c553839a82e3deaef2194471dfc5e355bce7e3acf740b8736da4d700f77b948"), looks := false }, kinds := [], alts := [], laidByText := true, laidKinds := [.data], laidTests := true, laidLooks := .later }
def RecEncodesUptoCardSaid : Prop := Claim7.holds Tryd.pinned (.plain (OpenSpec.upto recEncodesSpec)) recEncodesUptoCard

/-- THE SECOND FORM's CARD OF 'taximeterlaw11.RecDecodes'. -/
def recDecodesUptoCard : Claim7 := { stood := { row := recDecodesUptoRow, standIns := [], harness := (true, "9c553839a82e3deaef2194471dfc5e355bce7e3acf740b8736da4d700f77b948"), looks := false }, kinds := [], alts := [], laidByText := true, laidKinds := [.data], laidTests := true, laidLooks := .later }
def RecDecodesUptoCardSaid : Prop := Claim7.holds Tryd.pinned (.plain (OpenSpec.upto recDecodesSpec)) recDecodesUptoCard
end Rows
end Go.Proofs.YtnjkhhagefipiaaDoor
