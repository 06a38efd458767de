/-
  The tag of the document's example.
-/
import Derived.Test.YtbpjklafhohlnaaDoorHmA
namespace Go.Proofs.YtbpjklafhohlnaaDoor
open Go.RowKit
set_option linter.unusedVariables false
set_option linter.unusedSimpArgs false

def foxL : List UInt8 := [84, 104, 101, 32, 113, 117, 105, 99, 107, 32, 98, 114, 111, 119, 110, 32, 102, 111, 120, 32, 106, 117, 109, 112, 115, 32, 111, 118, 101, 114, 32, 116, 104, 101, 32, 108, 97, 122, 121, 32, 100, 111, 103]
def foxT : List UInt8 := [247, 188, 131, 244, 48, 83, 132, 36, 177, 50, 152, 230, 170, 111, 177, 67, 239, 77, 89, 161, 73, 70, 23, 89, 151, 71, 157, 188, 45, 26, 60, 216]
set_option maxRecDepth 100000 in
theorem hmac_fox : hmacD [107, 101, 121] foxL = foxT := by decide +kernel

end Go.Proofs.YtbpjklafhohlnaaDoor
