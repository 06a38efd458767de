/-
  The statements of boxes, as the rows ask them.
-/
import Derived.Test.YtnmibfncgoemfaaBxJ
import Derived.Test.YtnmibfncgoemfaaBxE
import Derived.Test.YtnmibfncgoemfaaBxF
import Derived.Test.YtnmibfncgoemfaaBxG
namespace Go.Proofs.Ytnmibfncgoemfaa
open Go.RowKit
set_option linter.unusedVariables false

theorem boxPuts_row (A : Option Addr) (n c : Nat) (b : List UInt8) (A2 : Option Addr) (n2 c2 : Nat) (x : List UInt8) (W : World) (h1 : Byt W W.heap.size A n b) (hn1 : A = none → c = 0) (hc1 : n ≤ c) (hm1 : c ≤ maxLen) (h2 : Byt W W.heap.size A2 n2 x) (hn2 : A2 = none → c2 = 0) (hc2 : n2 ≤ c2) (hm2 : c2 ≤ maxLen) :
    Calls Try.prog 3 #[.slice A n c, .slice A2 n2 c2] W fun e W' => e = .returned (.bool true) ∧ Below W.heap.size W W' :=
  boxPuts_law boxC_all A A2 n c n2 c2 b x W h1 hn1 h2 hn2 (Nat.le_trans hc1 hm1) (Nat.le_trans hc2 hm2)

theorem boxNexts_row (A : Option Addr) (n c : Nat) (l : List UInt8) (a : Int) (W : World) (hl : Byt W W.heap.size A n l) (hnil : A = none → c = 0) (hnc : n ≤ c) (hcm : c ≤ maxLen) (lo : -9223372036854775808 ≤ a) (hi : a ≤ 9223372036854775807) :
    Calls Try.prog 4 #[.slice A n c, .int .i64 a] W fun e W' => e = .returned (.bool true) ∧ Below W.heap.size W W' :=
  boxNexts_law boxC_all A n c l a W hl hnil hnc hcm

theorem boxCut_row (A : Option Addr) (m c : Nat) (L : List (List UInt8)) (n : Int) (W : World) (hL : Lst W (fun j => W.heap.size ≤ j) A m L) (hnil : A = none → c = 0) (hnc : m ≤ c) (hcm : c ≤ maxLen) (lo : -9223372036854775808 ≤ n) (hi : n ≤ 9223372036854775807) :
    Calls Try.prog 5 #[.slice A m c, .int .i64 n] W fun e W' => e = .returned (.bool true) ∧ Below W.heap.size W W' :=
  boxCut_law boxC_all A m c L n W hL (Nat.le_trans hnc hcm) hi

theorem boxSpoilt_row (A : Option Addr) (n c : Nat) (l : List UInt8) (at_ : Int) (x0 x1 x2 x3 : UInt8) (W : World) (hl : Byt W W.heap.size A n l) (hnil : A = none → c = 0) (hnc : n ≤ c) (hcm : c ≤ maxLen) (lo : -9223372036854775808 ≤ at_) (hi : at_ ≤ 9223372036854775807) :
    Calls Try.prog 6 #[.slice A n c, .int .i64 at_, arr4 x0 x1 x2 x3] W fun e W' => e = .returned (.bool true) ∧ Below W.heap.size W W' :=
  boxSpoilt_law boxC_all A n c l at_ x0 x1 x2 x3 W hl hnil hnc hcm lo hi

end Go.Proofs.Ytnmibfncgoemfaa
