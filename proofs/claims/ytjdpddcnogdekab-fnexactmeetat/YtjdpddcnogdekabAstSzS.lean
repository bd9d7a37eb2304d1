/-
  The contract of szStmtS.
-/
import Derived.Test.YtjdpddcnogdekabAstSzH
namespace Go.Proofs.Ytjdpddcnogdekab
open Go.RowKit Go.Lib
set_option linter.unusedSimpArgs false
set_option linter.unusedVariables false

end Go.Proofs.Ytjdpddcnogdekab
