/-
  Texts in one: A8Both, AstTop.
-/
import Derived.Test.YtfacenfiocdbgaaP21ofFnAffs
import Derived.Test.YtfacenfiocdbgaaP06ofFnAffs
/-
  What both sides make of two sums, AddA and SubA.
-/
namespace Go.Proofs.Ytfacenfiocdbgaa
open Go.RowKit Go.Lib
set_option linter.unusedSimpArgs false
set_option linter.unusedVariables false
theorem add_both8 (c0 c1 : Int) (ts0 ts1 : List AR) (b1 : -9223372036854775808 ≤ c1 ∧ c1 ≤ 9223372036854775807) (e1 : ∀ t ∈ ts1, t.s.size ≤ 9223372036854775807 ∧ (-9223372036854775808 ≤ t.n ∧ t.n ≤ 9223372036854775807)) (ok : Bool) (dd : Int) (L : List AR)
    (hok : sumOk8 c0 c1 1 ts0 ts1 (sumA8 ts0 ts1 1) = ok) (hdd : (if ok = true then IntKind.i64.wrap (c0 + IntKind.i64.wrap (1 * c1)) else 0) = dd) (hL : (if ok = true then sumA8 ts0 ts1 1 else []) = L) (hin : asize ts0 + asize ts1 ≤ 1048576) :
    L.length ≤ 1048576 ∧ (∀ w' ua ub, AV w' 0 ua ts0 → AV w' 0 ub ts1 → Calls Try.prog 17 #[.agg #[.int .i64 c0, ua], .agg #[.int .i64 c1, ub]] w' (Out8 w' ok dd L)) ∧
      (∀ w' ua ub, AV w' 0 ua ts0 → AV w' 0 ub ts1 → Cap8 ua → Cap8 ub → Calls Try.prog 9 #[.agg #[.int .i64 c0, ua], .agg #[.int .i64 c1, ub]] w' (Out8 w' ok dd L)) := by
  have h0 : ts0.length + abytes ts0 + (ts1.length + abytes ts1) ≤ 1048576 := hin
  have nm0 : NmB8 ts0 := fun t h => by have := abytes_mem8 h; omega
  have nm1 : NmB8 ts1 := fun t h => by have := abytes_mem8 h; omega
  refine ⟨?_, fun w' ua ub h1 h2 => spec_AddA c0 c1 ts0 ts1 (by omega) (by omega) nm0 nm1 ua ub w' h1 h2 (sumA8_nm _ nm0 nm1) ok dd L hok hdd hL, fun w' ua ub h1 h2 k1 k2 => ?_⟩
  · have := sumA8_len ts0 ts1 1
    rw [← hL]; split
    · omega
    · simp
  · obtain ⟨s1, s2⟩ := add_same8 c0 c1 ts0 ts1 b1 (fun t h => (e1 t h).2)
    refine (impl_AddA c0 c1 ts0 ts1 (by omega) (by omega) nm0 nm1 ua ub w' h1 h2 k1).mono fun e w'' h => ?_
    have q := Out8.of h
    have e1 : subOk8 c0 (IntKind.i64.wrap (-c1)) ts0 (ts1.map negT8) = ok := s1.trans hok
    rw [e1] at q s2
    cases ok with
    | false => rw [← hdd, ← hL]; exact q
    | true =>
      obtain ⟨t1, t2⟩ := s2 rfl
      rw [t1, t2] at q
      rw [← hdd, ← hL]; exact q
theorem sub_both8 (c0 c1 : Int) (ts0 ts1 : List AR) (b1 : -9223372036854775808 ≤ c1 ∧ c1 ≤ 9223372036854775807) (e1 : ∀ t ∈ ts1, t.s.size ≤ 9223372036854775807 ∧ (-9223372036854775808 ≤ t.n ∧ t.n ≤ 9223372036854775807)) (ok : Bool) (dd : Int) (L : List AR)
    (hok : sumOk8 c0 c1 (-1) ts0 ts1 (sumA8 ts0 ts1 (-1)) = ok) (hdd : (if ok = true then IntKind.i64.wrap (c0 + IntKind.i64.wrap ((-1) * c1)) else 0) = dd) (hL : (if ok = true then sumA8 ts0 ts1 (-1) else []) = L) (hin : asize ts0 + asize ts1 ≤ 1048576) :
    L.length ≤ 1048576 ∧ (∀ w' ua ub, AV w' 0 ua ts0 → AV w' 0 ub ts1 → Calls Try.prog 18 #[.agg #[.int .i64 c0, ua], .agg #[.int .i64 c1, ub]] w' (Out8 w' ok dd L)) ∧
      (∀ w' ua ub, AV w' 0 ua ts0 → AV w' 0 ub ts1 → Cap8 ua → Cap8 ub → Calls Try.prog 10 #[.agg #[.int .i64 c0, ua], .agg #[.int .i64 c1, ub]] w' (Out8 w' ok dd L)) := by
  have h0 : ts0.length + abytes ts0 + (ts1.length + abytes ts1) ≤ 1048576 := hin
  have nm0 : NmB8 ts0 := fun t h => by have := abytes_mem8 h; omega
  have nm1 : NmB8 ts1 := fun t h => by have := abytes_mem8 h; omega
  refine ⟨?_, fun w' ua ub h1 h2 => spec_SubA c0 c1 ts0 ts1 (by omega) (by omega) nm0 nm1 ua ub w' h1 h2 (sumA8_nm _ nm0 nm1) ok dd L hok hdd hL, fun w' ua ub h1 h2 k1 k2 => ?_⟩
  · have := sumA8_len ts0 ts1 (-1)
    rw [← hL]; split
    · omega
    · simp
  · obtain ⟨s1, s2⟩ := sub_same8 c0 c1 ts0 ts1
    refine (impl_SubA c0 c1 ts0 ts1 (by omega) (by omega) nm0 nm1 ua ub w' h1 h2 k1 k2).mono fun e w'' h => ?_
    have q := Out8.of h
    have e1 : subOk8 c0 c1 ts0 ts1 = ok := s1.trans hok
    rw [e1] at q s2
    cases ok with
    | false => rw [← hdd, ← hL]; exact q
    | true =>
      obtain ⟨t1, t2⟩ := s2 rfl
      rw [t1, t2] at q
      rw [← hdd, ← hL]; exact q
end Go.Proofs.Ytfacenfiocdbgaa
/-
  The contracts of sameTop, partsOf.
-/
namespace Go.Proofs.Ytfacenfiocdbgaa
open Go.RowKit Go.Lib
set_option linter.unusedSimpArgs false
set_option linter.unusedVariables false

end Go.Proofs.Ytfacenfiocdbgaa
