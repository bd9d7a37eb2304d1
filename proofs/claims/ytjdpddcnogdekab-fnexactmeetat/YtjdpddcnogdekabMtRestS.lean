/-
  A sum without a name: of the specification. A range of a name; whether some times a number is within.
-/
import Derived.Test.YtjdpddcnogdekabMtRest
import Derived.Test.YtjdpddcnogdekabBoxOkS
namespace Go.Proofs.Ytjdpddcnogdekab
open Go.RowKit Go.Lib
set_option linter.unusedSimpArgs false
set_option linter.unusedVariables false

theorem arg_app11 {w wb w8 : World} {c : Int} {X : List AR} {v v' : Value} {x : Array Value} (h : Rs11 w wb c X v) (hp : wb.heap[w.heap.size]? = some (.cells x 30 (0, 0))) (hg : wb.grownBy w8 v.ownBlock) :
    (w8.setCell ⟨w.heap.size + 1 + 1, 1, Option.none⟩ v').heap[w.heap.size]? = some (.cells x 30 (0, 0)) :=
  (Below.heap_setCell _ _ _ _ (by show w.heap.size ≠ w.heap.size + 1 + 1; omega)).trans ((hg.block _ (lt_heap11 hp) (fun e => own_ne11 h.own hp e.symm)).trans hp)
/-- Whether some times n, from once up to m times, is from lo to hi, as the landed code has it. -/
def hasT11 (lo hi n m : Int) : Bool := decide ((if lo > n then (lo + n - 1) / n else 1) ≤ m) && decide (n * (if lo > n then (lo + n - 1) / n else 1) ≤ hi)
theorem l1In_is (n lo hi : Int) (v : Bool) (hv : (decide (lo ≤ n) && decide (n ≤ hi)) = v) (w : World) :
    Calls Try.prog 23 #[.int .i64 n, .int .i64 lo, .int .i64 hi] w fun e w' => e = .returned (.bool v) ∧ w = w' := by
  subst hv
  by_cases h : lo ≤ n
  · by_cases h2 : n ≤ hi
    all_goals
      go_enter Try.func23, Try.ntmps23
      go_wp2
      go_ret
      exact ⟨ret_bool (by simp [h, h2]), rfl⟩
  · go_enter Try.func23, Try.ntmps23
    go_wp2
    go_ret
    exact ⟨ret_bool (by rw [decide_eq_false (p := lo ≤ n) (by omega)]; rfl), rfl⟩
end Go.Proofs.Ytjdpddcnogdekab
