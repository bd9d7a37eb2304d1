/-
  The contract of szStmtS.
-/
import Derived.Test.YtphegbnnijehbaaAstSzH
namespace Go.Proofs.Ytphegbnnijehbaa
open Go.RowKit Go.Lib
set_option linter.unusedSimpArgs false
set_option linter.unusedVariables false

end Go.Proofs.Ytphegbnnijehbaa
