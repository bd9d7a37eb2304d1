/-
  Least, Most, InArr: the landed code's, and InArr of the specification.
-/
import Derived.Test.YtjdpddcnogdekabFarM
namespace Go.Proofs.Ytjdpddcnogdekab
open Go.RowKit Go.Lib
set_option linter.unusedSimpArgs false
set_option linter.unusedVariables false

/-- Both ends are there, and within. -/
def inArr9 (c : Int) (ts : List AR) (rs : List RG) (size : Int) : Bool := if (affOk8 c ts && waysOk9 rs && ts.all fun t => hasR9 rs t.s) = true then (decide (IntKind.i64.wrap (c + sumT9 false rs ts) ≥ 0) && decide (IntKind.i64.wrap (c + sumT9 true rs ts) < size)) else false
end Go.Proofs.Ytjdpddcnogdekab
