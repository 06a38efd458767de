/-
  Walks over package crc and its reference: Seal, Open; the reference's Seal; awake.
-/
import Derived.Test.YtgococpbhbcpmaaDoorCrcA
namespace Go.Proofs.YtgococpbhbcpmaaDoor
open Go.RowKit
set_option linter.unusedVariables false
set_option linter.unusedSimpArgs false

/-- Bytes, sealed. -/
def sealC (l : List UInt8) : List UInt8 := l ++ le 4 (crcSum l)

/-- Is it a seal? -/
def isSeal (l : List UInt8) : Bool := decide (4 ≤ l.length) && decide (num (l.drop (l.length - 4)) = crcSum (l.take (l.length - 4)))
/-- What it opens to. -/
def openB (l : List UInt8) : List UInt8 := if isSeal l then l.take (l.length - 4) else []

def d9 : List UInt8 := [49, 50, 51, 52, 53, 54, 55, 56, 57]
theorem d9_sum : crcSum d9 = 3808858755 := by decide +kernel

end Go.Proofs.YtgococpbhbcpmaaDoor
