/-
  The contract of szStmtS.
-/
import Derived.Test.YtjdpddcnogdekaaAstSzH
namespace Go.Proofs.Ytjdpddcnogdekaa
open Go.RowKit Go.Lib
set_option linter.unusedSimpArgs false
set_option linter.unusedVariables false

end Go.Proofs.Ytjdpddcnogdekaa
