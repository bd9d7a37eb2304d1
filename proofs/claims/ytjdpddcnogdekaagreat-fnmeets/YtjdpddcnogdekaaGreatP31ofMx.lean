/-
  Texts in one: AstTop, AstSame.
-/
import Derived.Test.YtjdpddcnogdekaaGreatP06ofMx
import Derived.Test.YtjdpddcnogdekaaGreatP05ofMx
/-
  The contracts of sameTop, partsOf.
-/
namespace Go.Proofs.YtjdpddcnogdekaaGreat
open Go.RowKit Go.Lib
set_option linter.unusedSimpArgs false
set_option linter.unusedVariables false

end Go.Proofs.YtjdpddcnogdekaaGreat
/-
  What it is that two expressions are the same; the contract of the specification's SameExp.
-/
namespace Go.Proofs.YtjdpddcnogdekaaGreat
open Go.RowKit Go.Lib
set_option linter.unusedSimpArgs false
set_option linter.unusedVariables false

end Go.Proofs.YtjdpddcnogdekaaGreat
