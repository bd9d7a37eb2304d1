/-
  Texts in one: CloneShelf, TermOf.
-/
import Derived.Shelf.LaysM
import Derived.Shelf.Strconv.Clone
import Derived.Test.YthecjaonbmefgaaProg
import Derived.Test.YthecjaonbmefgaaP14ofBx
import Derived.Test.YthecjaonbmefgaaP07ofBx
/-
  The library's contract on stringslite.Clone, laid at this dump.
-/
namespace Go.Proofs
open Go.RowKit Go.Shelf
end Go.Proofs
/-
  The contract of termOf.
-/
namespace Go.Proofs.Ythecjaonbmefgaa
open Go.RowKit Go.Lib
set_option linter.unusedSimpArgs false
set_option linter.unusedVariables false

end Go.Proofs.Ythecjaonbmefgaa
