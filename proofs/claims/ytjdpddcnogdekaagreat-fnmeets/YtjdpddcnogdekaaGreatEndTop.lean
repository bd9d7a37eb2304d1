/-
  Least, Most, InArr: the landed code's, and InArr of the specification.
-/
import Derived.Test.YtjdpddcnogdekaaGreatFarM
namespace Go.Proofs.YtjdpddcnogdekaaGreat
open Go.RowKit Go.Lib
set_option linter.unusedSimpArgs false
set_option linter.unusedVariables false

theorem impl_Least (c : Int) (ts : List AR) (hn : ts.length ≤ 1000000000) (rs : List RG) (hm : rs.length ≤ 1000000000) (va vb : Value) (w : World) (ha : AV w 0 va ts) (hb : RV w 0 vb rs) :
    Calls Tryz.prog 58 #[.agg #[.int .i64 c, va], vb] w fun e w' => e = farR9 (far9 false c ts rs) ∧ Below w.heap.size w w' := by
  have B := Lib.hid (alloc_below w (.cells #[.int .i64 c, va] 26))
  have HX := Lib.hid (far_least c ts hn rs hm va vb _ (ha.later B.out) (hb.later B.out))
  clear ha hb
  go_enter Tryz.func58, Tryz.ntmps58
  go_wp2_with fail
  refine HX.out.mono ?_
  rintro e w1 ⟨he, hb1⟩
  rw [farR9] at he
  subst he
  have B1 := Lib.hid (B.out.trans (hb1.mono B.out.size))
  clear hb1
  go_wp2
  exact bodyPost_ret (v := .tuple #[.int .i64 ((far9 false c ts rs).getD 0), .bool (far9 false c ts rs).isSome]) (by simp [results, Tryz.results58, go_sem]) rfl ⟨rfl, B1.out⟩
theorem impl_Most (c : Int) (ts : List AR) (hn : ts.length ≤ 1000000000) (rs : List RG) (hm : rs.length ≤ 1000000000) (va vb : Value) (w : World) (ha : AV w 0 va ts) (hb : RV w 0 vb rs) :
    Calls Tryz.prog 59 #[.agg #[.int .i64 c, va], vb] w fun e w' => e = farR9 (far9 true c ts rs) ∧ Below w.heap.size w w' := by
  have B := Lib.hid (alloc_below w (.cells #[.int .i64 c, va] 26))
  have HX := Lib.hid (far_most c ts hn rs hm va vb _ (ha.later B.out) (hb.later B.out))
  clear ha hb
  go_enter Tryz.func59, Tryz.ntmps59
  go_wp2_with fail
  refine HX.out.mono ?_
  rintro e w1 ⟨he, hb1⟩
  rw [farR9] at he
  subst he
  have B1 := Lib.hid (B.out.trans (hb1.mono B.out.size))
  clear hb1
  go_wp2
  exact bodyPost_ret (v := .tuple #[.int .i64 ((far9 true c ts rs).getD 0), .bool (far9 true c ts rs).isSome]) (by simp [results, Tryz.results59, go_sem]) rfl ⟨rfl, B1.out⟩
/-- Both ends are there, and within. -/
def inArr9 (c : Int) (ts : List AR) (rs : List RG) (size : Int) : Bool := if (affOk8 c ts && waysOk9 rs && ts.all fun t => hasR9 rs t.s) = true then (decide (IntKind.i64.wrap (c + sumT9 false rs ts) ≥ 0) && decide (IntKind.i64.wrap (c + sumT9 true rs ts) < size)) else false
end Go.Proofs.YtjdpddcnogdekaaGreat
