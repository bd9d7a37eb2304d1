/-
  Texts in one: AstSzS, AstEq.
-/
import Derived.Test.YtjdpddcnogdekaaGreatP01ofMx
import Derived.Deep.RegionWith
import Derived.Deep.Cut
import Derived.Deep.CutRange
/-
  The contract of szStmtS.
-/
namespace Go.Proofs.YtjdpddcnogdekaaGreat
open Go.RowKit Go.Lib
set_option linter.unusedSimpArgs false
set_option linter.unusedVariables false

end Go.Proofs.YtjdpddcnogdekaaGreat
/-
  The contracts of eqExp, eqExpS where both are the same.
-/
namespace Go.Proofs.YtjdpddcnogdekaaGreat
open Go.RowKit Go.Lib
set_option linter.unusedSimpArgs false
set_option linter.unusedVariables false

theorem EV.drew {w : World} {lo : Nat} {F : EF} {v : Value} (h : EV w lo F v) : EV w.drew lo F v := h.same (Nat.le_refl _) (fun a v _ hc => hc)
theorem SV.drew {w : World} {lo : Nat} {F : SF} {v : Value} (h : SV w lo F v) : SV w.drew lo F v := h.same (Nat.le_refl _) (fun a v _ hc => hc)
end Go.Proofs.YtjdpddcnogdekaaGreat
