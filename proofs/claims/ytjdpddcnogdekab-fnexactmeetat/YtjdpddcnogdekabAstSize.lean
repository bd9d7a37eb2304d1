/-
  The contracts of Size, the specification's and the landed code's.
-/
import Derived.Test.YtjdpddcnogdekabAstUnder
namespace Go.Proofs.Ytjdpddcnogdekab
open Go.RowKit Go.Lib
set_option linter.unusedSimpArgs false
set_option linter.unusedVariables false

end Go.Proofs.Ytjdpddcnogdekab
