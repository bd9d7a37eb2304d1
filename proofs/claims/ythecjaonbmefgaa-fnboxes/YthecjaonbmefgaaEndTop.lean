/-
  Least, Most, InArr: the landed code's, and InArr of the specification.
-/
import Derived.Test.YthecjaonbmefgaaFarM
namespace Go.Proofs.Ythecjaonbmefgaa
open Go.RowKit Go.Lib
set_option linter.unusedSimpArgs false
set_option linter.unusedVariables false

theorem impl_Least (c : Int) (ts : List AR) (hn : ts.length ≤ 1000000000) (rs : List RG) (hm : rs.length ≤ 1000000000) (va vb : Value) (w : World) (ha : AV w 0 va ts) (hb : RV w 0 vb rs) :
    Calls Try.prog 7 #[.agg #[.int .i64 c, va], vb] w fun e w' => e = farR9 (far9 false c ts rs) ∧ Below w.heap.size w w' := by
  have B := Lib.hid (alloc_below w (.cells #[.int .i64 c, va] 26))
  have HX := Lib.hid (far_least c ts hn rs hm va vb _ (ha.later B.out) (hb.later B.out))
  clear ha hb
  go_enter Try.func7, Try.ntmps7
  go_wp2_with fail
  refine HX.out.mono ?_
  rintro e w1 ⟨he, hb1⟩
  rw [farR9] at he
  subst he
  have B1 := Lib.hid (B.out.trans (hb1.mono B.out.size))
  clear hb1
  go_wp2
  exact bodyPost_ret (v := .tuple #[.int .i64 ((far9 false c ts rs).getD 0), .bool (far9 false c ts rs).isSome]) (by simp [results, Try.results7, go_sem]) rfl ⟨rfl, B1.out⟩
theorem impl_Most (c : Int) (ts : List AR) (hn : ts.length ≤ 1000000000) (rs : List RG) (hm : rs.length ≤ 1000000000) (va vb : Value) (w : World) (ha : AV w 0 va ts) (hb : RV w 0 vb rs) :
    Calls Try.prog 8 #[.agg #[.int .i64 c, va], vb] w fun e w' => e = farR9 (far9 true c ts rs) ∧ Below w.heap.size w w' := by
  have B := Lib.hid (alloc_below w (.cells #[.int .i64 c, va] 26))
  have HX := Lib.hid (far_most c ts hn rs hm va vb _ (ha.later B.out) (hb.later B.out))
  clear ha hb
  go_enter Try.func8, Try.ntmps8
  go_wp2_with fail
  refine HX.out.mono ?_
  rintro e w1 ⟨he, hb1⟩
  rw [farR9] at he
  subst he
  have B1 := Lib.hid (B.out.trans (hb1.mono B.out.size))
  clear hb1
  go_wp2
  exact bodyPost_ret (v := .tuple #[.int .i64 ((far9 true c ts rs).getD 0), .bool (far9 true c ts rs).isSome]) (by simp [results, Try.results8, go_sem]) rfl ⟨rfl, B1.out⟩
/-- Both ends are there, and within. -/
def inArr9 (c : Int) (ts : List AR) (rs : List RG) (size : Int) : Bool := if (affOk8 c ts && waysOk9 rs && ts.all fun t => hasR9 rs t.s) = true then (decide (IntKind.i64.wrap (c + sumT9 false rs ts) ≥ 0) && decide (IntKind.i64.wrap (c + sumT9 true rs ts) < size)) else false
set_option maxHeartbeats 2000000 in
theorem impl_InArr (c : Int) (ts : List AR) (hn : ts.length ≤ 1000000000) (rs : List RG) (hm : rs.length ≤ 1000000000) (size : Int) (va vb : Value) (w : World) (ha : AV w 0 va ts) (hb : RV w 0 vb rs) (v : Bool) (hv : inArr9 c ts rs size = v) :
    Calls Try.prog 12 #[.agg #[.int .i64 c, va], vb, .int .i64 size] w fun e w' => e = .returned (.bool v) ∧ Below w.heap.size w w' := by
  have T0 := Lib.hid (At8.start 26 (c := c) ha)
  have S0 := Lib.hid (hb.later (alloc_below w (.cells #[.int .i64 c, va] 26)))
  clear ha hb
  cases hok : (affOk8 c ts && waysOk9 rs && ts.all fun t => hasR9 rs t.s) with
  | false =>
    have F : Hid (far9 false c ts rs = none ∧ far9 true c ts rs = none) := ⟨by rw [far9, hok]; rfl, by rw [far9, hok]; rfl⟩
    have R : Hid (v = false) := show v = false by rw [← hv, inArr9, hok]; rfl
    clear hok hv
    go_enter Try.func12, Try.ntmps12
    go_wp2_with fail
    refine (impl_Least c ts hn rs hm va vb _ T0.out.av S0.out).mono ?_
    rintro e w1 ⟨he, hb1⟩
    rw [F.out.1, farR9] at he
    subst he
    have T1 := Lib.hid (T0.out.later hb1)
    have S1 := Lib.hid (S0.out.later hb1)
    clear hb1 T0 S0
    go_wp2_with (refine wpList_load_mid rfl 26 _ rfl w.heap.size 0 rfl _ _ T1.out.rg Try.underlying26 rfl sizeIA8 ?_)
    refine (impl_Most c ts hn rs hm va vb _ T1.out.av S1.out).mono ?_
    rintro e w2 ⟨he, hb1⟩
    rw [F.out.2, farR9] at he
    subst he
    have T2 := Lib.hid (T1.out.later hb1)
    clear hb1 T1 S1
    go_wp2
    go_ret
    exact ⟨by rw [R.out]; rfl, T2.out.low⟩
  | true =>
    obtain ⟨x, hx⟩ : ∃ x, IntKind.i64.wrap (c + sumT9 false rs ts) = x := ⟨_, rfl⟩
    obtain ⟨y, hy⟩ : ∃ y, IntKind.i64.wrap (c + sumT9 true rs ts) = y := ⟨_, rfl⟩
    have F : Hid (far9 false c ts rs = some x ∧ far9 true c ts rs = some y) := ⟨by rw [far9, hok, if_pos rfl, hx], by rw [far9, hok, if_pos rfl, hy]⟩
    have R : Hid (v = (decide (x ≥ 0) && decide (y < size))) := show v = _ by rw [← hv, inArr9, hok, if_pos rfl, hx, hy]
    clear hok hv hx hy
    go_enter Try.func12, Try.ntmps12
    go_wp2_with fail
    refine (impl_Least c ts hn rs hm va vb _ T0.out.av S0.out).mono ?_
    rintro e w1 ⟨he, hb1⟩
    rw [F.out.1, farR9] at he
    subst he
    have T1 := Lib.hid (T0.out.later hb1)
    have S1 := Lib.hid (S0.out.later hb1)
    clear hb1 T0 S0
    go_wp2_with (refine wpList_load_mid rfl 26 _ rfl w.heap.size 0 rfl _ _ T1.out.rg Try.underlying26 rfl sizeIA8 ?_)
    refine (impl_Most c ts hn rs hm va vb _ T1.out.av S1.out).mono ?_
    rintro e w2 ⟨he, hb1⟩
    rw [F.out.2, farR9] at he
    subst he
    have T2 := Lib.hid (T1.out.later hb1)
    clear hb1 T1 S1
    by_cases hx0 : x ≥ 0
    · go_wp2
      go_ret
      exact ⟨ret_bool (by rw [R.out, decide_eq_true hx0]; rfl), T2.out.low⟩
    · have hxf : decide (x ≥ 0) = false := decide_eq_false hx0
      go_wp2
      go_ret
      exact ⟨ret_bool (by rw [R.out, hxf]; rfl), T2.out.low⟩
set_option maxHeartbeats 2000000 in
theorem spec_InArr (c : Int) (ts : List AR) (hn : ts.length ≤ 1000000000) (rs : List RG) (hm : rs.length ≤ 1000000000) (hts : ∀ t ∈ ts, t.s.size ≤ 281474976710656) (hrs : ∀ t ∈ rs, t.s.size ≤ 281474976710656) (size : Int) (va vb : Value) (w : World) (ha : AV w 0 va ts) (hb : RV w 0 vb rs) (v : Bool) (hv : inArr9 c ts rs size = v) :
    Calls Try.prog 21 #[.agg #[.int .i64 c, va], vb, .int .i64 size] w fun e w' => e = .returned (.bool v) ∧ Below w.heap.size w w' := by
  have HX := Lib.hid (And.intro hts hrs)
  clear hts hrs
  have T0 := Lib.hid (At8.start 26 (c := c) ha)
  have S0 := Lib.hid (hb.later (alloc_below w (.cells #[.int .i64 c, va] 26)))
  clear ha hb
  cases hok : (affOk8 c ts && waysOk9 rs && ts.all fun t => hasR9 rs t.s) with
  | false =>
    have F : Hid (far9 false c ts rs = none ∧ far9 true c ts rs = none) := ⟨by rw [far9, hok]; rfl, by rw [far9, hok]; rfl⟩
    have R : Hid (v = false) := show v = false by rw [← hv, inArr9, hok]; rfl
    clear hok hv
    go_enter Try.func21, Try.ntmps21
    go_wp2_with fail
    refine (spec_Least c ts hn HX.out.1 rs hm HX.out.2 va vb _ T0.out.av S0.out).mono ?_
    rintro e w1 ⟨he, hb1⟩
    rw [F.out.1, farR9] at he
    subst he
    have T1 := Lib.hid (T0.out.later hb1)
    have S1 := Lib.hid (S0.out.later hb1)
    clear hb1 T0 S0
    go_wp2_with (refine wpList_load_mid rfl 26 _ rfl w.heap.size 0 rfl _ _ T1.out.rg Try.underlying26 rfl sizeIA8 ?_)
    refine (spec_Most c ts hn HX.out.1 rs hm HX.out.2 va vb _ T1.out.av S1.out).mono ?_
    rintro e w2 ⟨he, hb1⟩
    rw [F.out.2, farR9] at he
    subst he
    have T2 := Lib.hid (T1.out.later hb1)
    clear hb1 T1 S1
    go_wp2
    go_ret
    exact ⟨by rw [R.out]; rfl, T2.out.low⟩
  | true =>
    obtain ⟨x, hx⟩ : ∃ x, IntKind.i64.wrap (c + sumT9 false rs ts) = x := ⟨_, rfl⟩
    obtain ⟨y, hy⟩ : ∃ y, IntKind.i64.wrap (c + sumT9 true rs ts) = y := ⟨_, rfl⟩
    have F : Hid (far9 false c ts rs = some x ∧ far9 true c ts rs = some y) := ⟨by rw [far9, hok, if_pos rfl, hx], by rw [far9, hok, if_pos rfl, hy]⟩
    have R : Hid (v = (decide (x ≥ 0) && decide (y < size))) := show v = _ by rw [← hv, inArr9, hok, if_pos rfl, hx, hy]
    clear hok hv hx hy
    go_enter Try.func21, Try.ntmps21
    go_wp2_with fail
    refine (spec_Least c ts hn HX.out.1 rs hm HX.out.2 va vb _ T0.out.av S0.out).mono ?_
    rintro e w1 ⟨he, hb1⟩
    rw [F.out.1, farR9] at he
    subst he
    have T1 := Lib.hid (T0.out.later hb1)
    have S1 := Lib.hid (S0.out.later hb1)
    clear hb1 T0 S0
    go_wp2_with (refine wpList_load_mid rfl 26 _ rfl w.heap.size 0 rfl _ _ T1.out.rg Try.underlying26 rfl sizeIA8 ?_)
    refine (spec_Most c ts hn HX.out.1 rs hm HX.out.2 va vb _ T1.out.av S1.out).mono ?_
    rintro e w2 ⟨he, hb1⟩
    rw [F.out.2, farR9] at he
    subst he
    have T2 := Lib.hid (T1.out.later hb1)
    clear hb1 T1 S1
    by_cases hx0 : x ≥ 0
    · go_wp2
      go_ret
      exact ⟨ret_bool (by rw [R.out, decide_eq_true hx0]; rfl), T2.out.low⟩
    · have hxf : decide (x ≥ 0) = false := decide_eq_false hx0
      go_wp2
      go_ret
      exact ⟨ret_bool (by rw [R.out, hxf]; rfl), T2.out.low⟩
end Go.Proofs.Ythecjaonbmefgaa
