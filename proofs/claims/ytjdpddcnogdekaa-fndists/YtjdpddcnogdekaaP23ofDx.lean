/-
  Texts in one: CloneShelf, TermOf.
-/
import Derived.Shelf.LaysM
import Derived.Shelf.Strconv.Clone
import Derived.Test.YtjdpddcnogdekaaProg
import Derived.Test.YtjdpddcnogdekaaP14ofDx
import Derived.Test.YtjdpddcnogdekaaP07ofDx
/-
  The library's contract on stringslite.Clone, laid at this dump.
-/
namespace Go.Proofs
open Go.RowKit Go.Shelf
end Go.Proofs
/-
  The contract of termOf.
-/
namespace Go.Proofs.Ytjdpddcnogdekaa
open Go.RowKit Go.Lib
set_option linter.unusedSimpArgs false
set_option linter.unusedVariables false

end Go.Proofs.Ytjdpddcnogdekaa
