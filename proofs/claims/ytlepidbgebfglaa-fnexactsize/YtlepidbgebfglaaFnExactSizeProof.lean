/-
  PROVED: at the landed commit laws.FnExactSize returns true for every row of statements: impl.Size answers as the specification's Size and writes into no argument; no condition.
-/
import Derived.Test.YtlepidbgebfglaaRows
import Derived.Test.YtlepidbgebfglaaAstOpen
import Derived.Test.YtlepidbgebfglaaAstSzS
import Derived.Test.YtlepidbgebfglaaAstToS
import Derived.Test.YtlepidbgebfglaaAstEqS
import Derived.Test.YtlepidbgebfglaaAstCount
import Derived.WalkKit
import Derived.ProofKit
import Derived.OpenShut
import Derived.ShutString
import Derived.ChangeOld
import Derived.Below
namespace Go.Proofs.Ytlepidbgebfglaa.fnExactSize
open Go.ChangeShapes Go.WideShapes Go.ChangeAt Go.RowKit
set_option linter.unusedVariables false

theorem own : ownKnob Try.prog.godebug = none := by kernel_rfl
theorem laidOut : laidOutB Try.prog = true := by kernel_rfl
set_option maxHeartbeats 1000000 in
theorem walk (F : SF) (hF : sok F) (hM : slen F ≤ 9223372036854775807) (v : Value) (w : World) (hv : SV w 0 F v) :
    Calls Try.prog 6 #[v] w fun e w' => e = .returned (.bool true) ∧ Below w.heap.size w w' := by
  have Hv := Lib.hid hv
  have Hs := Lib.hid (And.intro hF hM)
  clear hv hF hM
  by_cases hd : (1048576 : Int) < (ssize F : Int)
  · go_enter Try.func6, Try.ntmps6
    go_wp2_with fail
    refine (szStmtS_is F Hs.out.1 Hs.out.2 w v 1048576 Hv.out (by omega) (by omega)).mono ?_
    rintro e w1 ⟨rfl, hb1⟩
    rw [if_pos hd]
    go_wp2
    go_ret
    exact ⟨rfl, hb1⟩
  · have hn : ¬ (1048576 : Int) - (ssize F : Int) < 0 := by omega
    have hS : ssize F ≤ 1048576 := by omega
    have hN : snodes F ≤ 10000000 := by have := snodes_le F; omega
    go_enter Try.func6, Try.ntmps6
    go_wp2_with fail
    refine (szStmtS_is F Hs.out.1 Hs.out.2 w v 1048576 Hv.out (by omega) (by omega)).mono ?_
    rintro e w1 ⟨rfl, hb1⟩
    rw [if_neg (by omega)]
    go_wp2_with fail
    refine (toStmtS_is F hS w1 v (Hv.out.later hb1)).mono ?_
    rintro e w2 ⟨v2, rfl, hv2, hb2⟩
    have B2 := hb1.trans (hb2.mono hb1.size)
    go_wp2_with fail
    refine (spec_Size F hN w2 v2 hv2.low).mono ?_
    rintro e w3 ⟨rfl, hb3⟩
    have B3 := B2.trans (hb3.mono B2.size)
    clear hb1 hb2 hb3 hv2 B2
    go_wp2_with fail
    refine (toStmtS_is F hS w3 v (Hv.out.later B3)).mono ?_
    rintro e w4 ⟨v4, rfl, hv4, hb4⟩
    have B4 := B3.trans (hb4.mono B3.size)
    have V4 := Lib.hid hv4.low
    clear hb4 B3 hv4
    go_wp2_with fail
    refine (impl_Size F hN w4 v4 V4.out).mono ?_
    rintro e w5 ⟨rfl, hb5⟩
    have B5 := B4.trans (hb5.mono B4.size)
    have V5 := Lib.hid (V4.out.later hb5)
    clear hb5 B4 V4
    go_wp2_with fail
    refine (toStmtS_is F hS w5 v (Hv.out.later B5)).mono ?_
    rintro e w6 ⟨v6, rfl, hv6, hb6⟩
    have B6 := B5.trans (hb6.mono B5.size)
    have V6 := Lib.hid (And.intro (V5.out.later hb6) hv6.low)
    clear hb6 B5 V5 hv6
    go_wp2_with fail
    refine (eqStmtS_is F hS w6 v4 v6 V6.out.1 V6.out.2).mono ?_
    rintro e w7 ⟨rfl, hb7⟩
    have B7 := B6.trans (hb7.mono B6.size)
    clear hb7 B6 V6
    go_wp2
    go_ret
    exact ⟨rfl, B7⟩
set_option maxRecDepth 100000 in
theorem lifted (os : Os) (started : os.Started) (H : Type) (enc : TypeId × Value → H) :
    ReturnsInHanded {} Try.checked os 6 .any (Rows.fnExactSizeSpec.pre6 enc Try.prog Try.f6 Rows.fnExactSizeRow.domain false) (Rows.fnExactSizeSpec.post enc Try.prog Try.f6 false true false false) := by
  refine returnsInHanded_of_change (C := Try.checked) own started (by kernel_rfl) Try.func6
    (ChangeSpec.witness6 (enc := enc) (C := Try.checked) false ⟨#[], #[.slice none 0 0], []⟩ 8 (by kernel_rfl) (by kernel_rfl) (by kernel_rfl) (by kernel_rfl)) ?_
  intro W base args ds gs before hval0 hW hcnd _
  have hW' := hW
  obtain ⟨p, q, hA0, hV, rfl, hfz, hnd⟩ := hW
  have hA : DataW.TrodAll enc Try.prog W 0 (fun _ => true) true Try.f6.params.toList args.toList ds p := hA0
  have hval : ∀ (j : Nat) t v, Try.f6.params[j]? = some t → args[j]? = some v → Value.okWide Try.prog W .any base t v := hval0
  rw [Try.params6] at hA hval
  obtain ⟨v0, vs0, d0, ds0, p0, q0, hargs, rfl, rfl, h0, r0⟩ := trodAll_cons hA
  obtain ⟨rfl, rfl, rfl⟩ := trodAll_nil r0
  obtain rfl : args = #[v0] := by cases args; simp_all
  obtain ⟨rfl, rfl⟩ := trodVars_none hV
  obtain ⟨a0, len0, cap0, rfl⟩ := okWide_slice Try.underlying48 (hval 0 48 v0 rfl rfl)
  have k0 := h0
  have lt0 : ∀ x ∈ p0, x.block < W.heap.size := by obtain ⟨m, hm⟩ := k0; exact DataW.trod_lt m _ _ _ hm
  obtain ⟨F, hF, hM, hv⟩ : ∃ F : SF, sok F ∧ slen F ≤ 9223372036854775807 ∧ SV W 0 F (.slice a0 len0 cap0) := by
    obtain ⟨fuel, hf⟩ := h0
    obtain ⟨u, F, e, h1, h2, h3⟩ := open_stmts _ _ _ hf
    have e' : [Value.slice a0 len0 cap0] = [u] := by simpa [Value.cells] using e
    injection e' with e'
    subst e'
    exact ⟨F, h1, h2, h3⟩
  clear hA0 hval0
  refine (walk F hF hM _ W hv).mono fun e W' ⟨he, bel⟩ => ?_
  subst he
  exact ⟨_, rfl, _, _, _, [], _, [], hW', trodAll_mk1 (shut_bool Try.underlying4 _), (trodAll_cons_mk (Below.trod laidOut (by kernel_rfl) (of_decide_eq_true (by kernel_rfl)) k0 bel lt0) trodAll_mk0), rfl, bel.frame _, fun h => by cases h⟩

theorem over : Rows.fnExactSizeRow.holds Try.pinned (OpenSpec.ofChange Rows.fnExactSizeSpec) :=
  OpenClaim.holds_of_wide 6 Try.f6 rfl rfl rfl rfl rfl rfl rfl ⟨rfl, rfl, rfl, rfl, rfl⟩ rfl rfl rfl rfl rfl (by kernel_rfl) Try.func6 (by kernel_rfl)
    (of_decide_eq_true (by kernel_rfl)) (by unfold Func.isWrapper; first | (rw [if_pos (by decide +kernel)]; kernel_rfl) | (rw [if_neg (by decide +kernel)]; exact ⟨rfl, rfl⟩))
    (fun os started H enc _ => lifted os started H enc)

end Go.Proofs.Ytlepidbgebfglaa.fnExactSize
namespace Go.Proofs.Ytlepidbgebfglaa
/-- THE STATEMENT -/
theorem fnExactSize_holds : Rows.FnExactSizeSaid := fnExactSize.over
#print axioms fnExactSize_holds
end Go.Proofs.Ytlepidbgebfglaa
