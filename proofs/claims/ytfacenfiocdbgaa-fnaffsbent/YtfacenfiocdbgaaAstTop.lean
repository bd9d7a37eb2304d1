/-
  The contracts of sameTop, partsOf.
-/
import Derived.Test.YtfacenfiocdbgaaAstSameP
namespace Go.Proofs.Ytfacenfiocdbgaa
open Go.RowKit Go.Lib
set_option linter.unusedSimpArgs false
set_option linter.unusedVariables false

end Go.Proofs.Ytfacenfiocdbgaa
