/-
  The contract of the landed code's countAll over statements, and of its Size.
-/
import Derived.Test.YthokildkedlkfaaAstVis
import Derived.Test.YthokildkedlkfaaAstSize
import Derived.OneCell
namespace Go.Proofs.Ythokildkedlkfaa
open Go.RowKit Go.Lib
set_option linter.unusedSimpArgs false
set_option linter.unusedVariables false

/-- A variable of its own that holds a number. -/
abbrev NumAt (w : World) (b : Nat) (c : Int) : Prop := w.heap[b]? = some (.cells #[.int .i64 c] 3 (0, 0))
theorem below_boxset {w : World} {cb : Nat} {o : Obj} {c d : Int} (hc : NumAt w cb c) : NumAt ((w.setCell ⟨cb, 0, Option.none⟩ (.int .i64 d)).alloc o) cb d ∧ Gap cb (cb + 1) w ((w.setCell ⟨cb, 0, Option.none⟩ (.int .i64 d)).alloc o) := by
  have hlt := lt_of_block hc
  refine ⟨(Below.heap_alloc _ _ cb (by simpa using hlt)).trans (one_setCell hc), rfl, rfl, rfl, by simp, fun k hk hk2 => ?_⟩
  rw [Below.heap_alloc _ _ _ (by simpa using hk), Below.heap_setCell _ _ _ _ (show k ≠ cb by omega)]
theorem new_num (w : World) (c : Int) : NumAt (w.alloc (.cells #[.int .i64 c] 3)) w.heap.size c ∧ Below w.heap.size w (w.alloc (.cells #[.int .i64 c] 3)) := ⟨by show (w.heap.push _)[w.heap.size]? = _; simp, alloc_below _ _⟩
theorem gap_own {w W w' : World} (hb : Below w.heap.size w W) (hg : Gap w.heap.size W.heap.size W w') : Below w.heap.size w w' := hb.trans (hg.below (Nat.le_refl _) hb.size)
end Go.Proofs.Ythokildkedlkfaa
