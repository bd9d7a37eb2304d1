/-
  Texts in one: CloneShelf, TermOf.
-/
import Derived.Shelf.LaysM
import Derived.Shelf.Strconv.Clone
import Derived.Test.YtjdpddcnogdekaaGreatProg
import Derived.Test.YtjdpddcnogdekaaGreatP14ofMx
import Derived.Test.YtjdpddcnogdekaaGreatP07ofMx
/-
  The library's contract on stringslite.Clone, laid at this dump.
-/
namespace Go.Proofs
open Go.RowKit Go.Shelf
end Go.Proofs
/-
  The contract of termOf.
-/
namespace Go.Proofs.YtjdpddcnogdekaaGreat
open Go.RowKit Go.Lib
set_option linter.unusedSimpArgs false
set_option linter.unusedVariables false

end Go.Proofs.YtjdpddcnogdekaaGreat
