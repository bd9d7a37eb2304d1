/-
  What it is that two expressions are the same; the contract of the specification's SameExp.
-/
import Derived.Test.YtfacenfiocdbgaaAstEqS
import Derived.Test.YtfacenfiocdbgaaAstSameP
namespace Go.Proofs.Ytfacenfiocdbgaa
open Go.RowKit Go.Lib
set_option linter.unusedSimpArgs false
set_option linter.unusedVariables false

end Go.Proofs.Ytfacenfiocdbgaa
