/-
  Texts in one: AstTop, AstSame.
-/
import Derived.Test.YthecjaonbmefgaaP06ofBx
import Derived.Test.YthecjaonbmefgaaP05ofBx
/-
  The contracts of sameTop, partsOf.
-/
namespace Go.Proofs.Ythecjaonbmefgaa
open Go.RowKit Go.Lib
set_option linter.unusedSimpArgs false
set_option linter.unusedVariables false

end Go.Proofs.Ythecjaonbmefgaa
/-
  What it is that two expressions are the same; the contract of the specification's SameExp.
-/
namespace Go.Proofs.Ythecjaonbmefgaa
open Go.RowKit Go.Lib
set_option linter.unusedSimpArgs false
set_option linter.unusedVariables false

end Go.Proofs.Ythecjaonbmefgaa
