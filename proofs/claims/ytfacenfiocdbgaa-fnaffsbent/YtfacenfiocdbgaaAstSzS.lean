/-
  The contract of szStmtS.
-/
import Derived.Test.YtfacenfiocdbgaaAstSzH
namespace Go.Proofs.Ytfacenfiocdbgaa
open Go.RowKit Go.Lib
set_option linter.unusedSimpArgs false
set_option linter.unusedVariables false

end Go.Proofs.Ytfacenfiocdbgaa
