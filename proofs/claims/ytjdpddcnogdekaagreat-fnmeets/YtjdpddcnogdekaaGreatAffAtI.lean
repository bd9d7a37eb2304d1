/-
  The contract of the landed code's AffAt.
-/
import Derived.Test.YtjdpddcnogdekaaGreatP15ofMx
import Derived.Test.YtjdpddcnogdekaaGreatP20ofMx
import Derived.Test.YtjdpddcnogdekaaGreatP07ofMx
import Derived.Deep.RegionHeld
namespace Go.Proofs.YtjdpddcnogdekaaGreat
open Go.RowKit Go.Lib
set_option linter.unusedSimpArgs false
set_option linter.unusedVariables false

/-- What a sum is, name by name, numbers going round. -/
def affGo8 (nm : ByteArray → Int) : Int → List AR → Int
  | c, [] => c
  | c, t :: r => affGo8 nm (IntKind.i64.wrap (c + IntKind.i64.wrap (t.n * nm t.s))) r
def affAt8 (c : Int) (ts bs : List AR) : Int := affGo8 (withN bs fun _ => 0) c ts
end Go.Proofs.YtjdpddcnogdekaaGreat
