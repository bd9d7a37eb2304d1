/-
  The contracts of sameTop, partsOf.
-/
import Derived.Test.YtkilmefpaojkfaaGreatAstSameP
namespace Go.Proofs.YtkilmefpaojkfaaGreat
open Go.RowKit Go.Lib
set_option linter.unusedSimpArgs false
set_option linter.unusedVariables false

set_option maxHeartbeats 1000000 in
set_option maxRecDepth 100000 in
theorem sameTop_is (x y : X) (va vb : Value) (w : World) :
    Calls Tryz.prog 130 #[.agg (xcells x va).toArray, .agg (xcells y vb).toArray] w fun e w' => e = .returned (.bool (hsame x.h y.h)) ∧ Below w.heap.size w w' := by
  obtain ⟨⟨xk, xn, xs⟩, xl⟩ := x
  obtain ⟨⟨yk, yn, ys⟩, yl⟩ := y
  show Calls Tryz.prog 130 #[.agg #[.int .i64 xk, .int .i64 xn, .string xs, va], .agg #[.int .i64 yk, .int .i64 yn, .string ys, vb]] w _
  have hB : Hid (∀ a b, Below w.heap.size w ((w.alloc a).alloc b)) := fun a b => (alloc_below w a).alloc (by simp) b
  by_cases hk : xk = yk
  case neg =>
    have hf : Hid (hsame ⟨xk, xn, xs⟩ ⟨yk, yn, ys⟩ = false) := show hsame _ _ = false by simp [hsame, hk]
    have h1 := int_ne hk
    go_enter Tryz.func130, Tryz.ntmps130
    go_wp2
    go_ret
    exact retB hf.out (hB.out _ _)
  by_cases hn : xn = yn
  case neg =>
    have hf : Hid (hsame ⟨xk, xn, xs⟩ ⟨yk, yn, ys⟩ = false) := show hsame _ _ = false by simp [hsame, hn]
    have h1 := int_ne hn
    subst hk
    go_enter Tryz.func130, Tryz.ntmps130
    go_wp2
    go_ret
    exact retB hf.out (hB.out _ _)
  by_cases hs : xs = ys
  case neg =>
    have hf : Hid (hsame ⟨xk, xn, xs⟩ ⟨yk, yn, ys⟩ = false) := show hsame _ _ = false by simp [hsame, hs]
    have h1 := str_ne hs
    subst hk
    subst hn
    clear hs
    go_enter Tryz.func130, Tryz.ntmps130
    go_wp2
    go_ret
    exact retB hf.out (hB.out _ _)
  subst hk
  subst hn
  subst hs
  have hf : Hid (hsame ⟨xk, xn, xs⟩ ⟨xk, xn, xs⟩ = true) := show hsame _ _ = true by simp [hsame]
  go_enter Tryz.func130, Tryz.ntmps130
  go_wp2
  go_ret
  exact retB hf.out (hB.out _ _)
end Go.Proofs.YtkilmefpaojkfaaGreat
