/-
  Texts in one: AstTop, AstSame.
-/
import Derived.Test.YtjdpddcnogdekaaP06ofDx
import Derived.Test.YtjdpddcnogdekaaP05ofDx
/-
  The contracts of sameTop, partsOf.
-/
namespace Go.Proofs.Ytjdpddcnogdekaa
open Go.RowKit Go.Lib
set_option linter.unusedSimpArgs false
set_option linter.unusedVariables false

end Go.Proofs.Ytjdpddcnogdekaa
/-
  What it is that two expressions are the same; the contract of the specification's SameExp.
-/
namespace Go.Proofs.Ytjdpddcnogdekaa
open Go.RowKit Go.Lib
set_option linter.unusedSimpArgs false
set_option linter.unusedVariables false

end Go.Proofs.Ytjdpddcnogdekaa
