/-
  Rows of binds: their sizes, copies, and whether they are the same; rows that came in, opened.
-/
import Derived.Test.YtjdpddcnogdekabAstArr
import Derived.Test.YtjdpddcnogdekabAstPOpen
namespace Go.Proofs.Ytjdpddcnogdekab
open Go.RowKit Go.Lib
set_option linter.unusedSimpArgs false
set_option linter.unusedVariables false

theorem infoIB : (Try.prog.info? 70).map (fun i => (i.zero, i.size, i.bytes)) = some (some (.agg #[.string ⟨#[]⟩, .int .i64 0]), 2, 24) := by kernel_rfl
theorem sizeIB : (Try.prog.info? 70).map (·.size) = some 2 := by kernel_rfl
end Go.Proofs.Ytjdpddcnogdekab
namespace Go.Proofs.Ytjdpddcnogdekab
open Go.ChangeShapes Go.WideShapes Go.ChangeAt Go.RowKit
section
variable {H : Type} {enc : TypeId × Value → H} {W : World} {sp : Nat → Bool} {held : Bool}
end
end Go.Proofs.Ytjdpddcnogdekab
