/-
  farthest of the landed code, by the greater end.
-/
import Derived.Test.YtjdpddcnogdekabFarI
namespace Go.Proofs.Ytjdpddcnogdekab
open Go.RowKit Go.Lib Go.Shelf
set_option linter.unusedSimpArgs false
set_option linter.unusedVariables false

attribute [local go_sem] Oper.semAt_some

end Go.Proofs.Ytjdpddcnogdekab
