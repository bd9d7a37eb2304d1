/-
  PROVED: at the landed commit laws.FnExactRounds returns true for every list of ranges: impl.Rounds answers as the specification's Rounds and writes into no argument; no condition.
-/
import Derived.Test.YtphegbnnijehbaaRows
import Derived.Test.YtphegbnnijehbaaP03ofRounds
import Derived.Test.YtphegbnnijehbaaP06ofRounds
import Derived.WalkKit
import Derived.ProofKit
import Derived.OpenShut
import Derived.ShutString
import Derived.ChangeOld
import Derived.ChangeMaps5
import Derived.Below
import Derived.Deep.RegionHeld
namespace Go.Proofs.Ytphegbnnijehbaa.fnExactRounds
open Go.ChangeShapes Go.WideShapes Go.ChangeAt Go.ChangeMaps Go.RowKit Go.Lib
set_option linter.unusedSimpArgs false
set_option linter.unusedVariables false

theorem own : ownKnob Try.prog.godebug = none := by kernel_rfl
theorem laidOut : laidOutB Try.prog = true := by kernel_rfl
set_option maxHeartbeats 4000000 in
set_option maxRecDepth 100000 in
theorem walk (rs0 : List RG) (va0 : Value) (hX : (∀ t ∈ rs0, t.s.size ≤ 9223372036854775807) ∧ rs0.length ≤ 9223372036854775807) (w : World) (hc0 : RV w 0 va0 rs0) :
    Calls Try.prog 8 #[va0] w fun e w' => e = .returned (.bool true) ∧ Below w.heap.size w w' := by
  have HX := Lib.hid hX
  have S0_0 := Lib.hid (hc0.later (Below.refl _ w))
  have B0 := Lib.hid (Below.refl w.heap.size w)
  clear hX hc0
  go_enter Try.func8, Try.ntmps8
  go_wp2_with fail
  refine (szRngS_is rs0 HX.out.1 HX.out.2 va0 _ S0_0.out 1048576 (by omega) (by omega)).mono ?_
  rintro e w1 ⟨rfl, hb⟩
  have B1 := Lib.hid (B0.out.trans (hb.mono B0.out.size))
  have S0_1 := Lib.hid (S0_0.out.later hb)
  clear hb B0 S0_0
  by_cases hd0 : (1048576 : Int) < (rsize8 rs0 : Int)
  · rw [if_pos hd0]
    go_wp2
    go_ret
    exact ⟨rfl, B1.out⟩
  rw [if_neg hd0]
  obtain ⟨L0, hL0⟩ : ∃ L : Int, 1048576 - (rsize8 rs0 : Int) = L := ⟨_, rfl⟩
  rw [hL0]
  have hLn_0 : ¬ L0 < 0 := by omega
  have hL0_0 : 0 ≤ L0 := by omega
  have hL1_0 : L0 ≤ 1048576 := by omega
  have K0 : Hid (rsize8 rs0 ≤ 1048576) := show rsize8 rs0 ≤ 1048576 by omega
  clear hd0 hL0
  clear hL0_0 hL1_0
  obtain ⟨tv0, htv0⟩ : ∃ tv, rounds9 rs0 = tv := ⟨_, rfl⟩
  have Htv0 := Lib.hid htv0
  clear htv0
  go_wp2_with fail
  refine (toRngS_is rs0 (by have := K0.out; unfold rsize8 at this; omega) va0 _ S0_1.out).mono ?_
  rintro e w2 ⟨ua0, rfl, ga0, hb⟩
  have B2 := Lib.hid (B1.out.trans (hb.mono B1.out.size))
  have S0_2 := Lib.hid (S0_1.out.later hb)
  clear hb B1 S0_1
  have Ga0_2 := Lib.hid ga0.low
  clear ga0
  go_wp2_with fail
  refine (spec_Rounds rs0 (by have := K0.out; unfold rsize8 at this; omega) (fun t h => by have := rbytes_mem h; have := K0.out; unfold rsize8 at this; omega) ua0 _ Ga0_2.out).mono ?_
  rintro e w3 ⟨rfl, hb⟩
  clear Ga0_2
  simp only [Htv0.out]
  have B3 := Lib.hid (B2.out.trans (hb.mono B2.out.size))
  have S0_3 := Lib.hid (S0_2.out.later hb)
  clear hb B2 S0_2
  go_wp2_with fail
  refine (toRngS_is rs0 (by have := K0.out; unfold rsize8 at this; omega) va0 _ S0_3.out).mono ?_
  rintro e w4 ⟨x0, rfl, gx, hb⟩
  have B4 := Lib.hid (B3.out.trans (hb.mono B3.out.size))
  have S0_4 := Lib.hid (S0_3.out.later hb)
  clear hb B3 S0_3
  have X0_4 := Lib.hid gx.low
  clear gx
  go_wp2_with fail
  refine (impl_Rounds rs0 (by have := K0.out; unfold rsize8 at this; omega) x0 _ X0_4.out).mono ?_
  rintro e w5 ⟨rfl, hb⟩
  simp only [Htv0.out]
  have B5 := Lib.hid (B4.out.trans (hb.mono B4.out.size))
  have S0_5 := Lib.hid (S0_4.out.later hb)
  have X0_5 := Lib.hid (X0_4.out.later hb)
  clear hb B4 S0_4 X0_4
  have Se0 := S0_5
  have Xe0 := X0_5
  go_wp2_with fail
  refine (toRngS_is rs0 (by have := K0.out; unfold rsize8 at this; omega) va0 _ Se0.out).mono ?_
  rintro e wp0 ⟨up0, rfl, gp, hb⟩
  have Xf0 := Lib.hid (Xe0.out.later hb)
  have Gp0 := Lib.hid gp.low
  have TE0 := Lib.hid (B5.out.trans (hb.mono B5.out.size))
  clear hb gp
  go_wp2_with fail
  refine (eqRngS_same rs0 (Nat.le_trans (Nat.le_trans (Nat.le_add_right _ _) K0.out) (by omega)) x0 up0 _ Xf0.out Gp0.out).mono ?_
  rintro e wq0 ⟨rfl, hb⟩
  have TF0 := Lib.hid (TE0.out.trans (hb.mono TE0.out.size))
  clear hb
  go_wp2
  go_ret
  exact ⟨rfl, TF0.out⟩
set_option maxRecDepth 100000 in
theorem lifted (os : Os) (started : os.Started) (H : Type) (enc : TypeId × Value → H) :
    ReturnsInHanded {} Try.checked os 8 .any (Rows.fnExactRoundsSpec.pre6 enc Try.prog Try.f8 Rows.fnExactRoundsRow.domain false) (Rows.fnExactRoundsSpec.post enc Try.prog Try.f8 false true false false) := by
  refine returnsInHanded_of_change (C := Try.checked) own started (by kernel_rfl) Try.func8
    (ChangeSpec.witness6 (enc := enc) (C := Try.checked) false ⟨#[], #[.slice none 0 0], []⟩ 8 (by kernel_rfl) (by kernel_rfl) (by kernel_rfl) (by kernel_rfl)) ?_
  intro W base args ds gs before hval0 hW hcnd _
  have hW' := hW
  obtain ⟨p, q, hA0, hV, rfl, hfz, hnd⟩ := hW
  have hA : DataW.TrodAll enc Try.prog W 0 (fun _ => true) true Try.f8.params.toList args.toList ds p := hA0
  have hval : ∀ (j : Nat) t v, Try.f8.params[j]? = some t → args[j]? = some v → Value.okWide Try.prog W .any base t v := hval0
  rw [Try.params8] at hA hval
  obtain ⟨v0, vs0, d0, ds0, p0, q0, hargs, rfl, rfl, h0, r0⟩ := trodAll_cons hA
  obtain ⟨rfl, rfl, rfl⟩ := trodAll_nil r0
  obtain rfl : args = #[v0] := by cases args; simp_all
  obtain ⟨rfl, rfl⟩ := trodVars_none hV
  obtain ⟨a0, len0, cap0, rfl⟩ := okWide_slice Try.underlying42 (hval 0 42 v0 rfl rfl)
  have k0 := h0
  have lt0 : ∀ x ∈ p0, x.block < W.heap.size := by obtain ⟨m, hm⟩ := k0; exact DataW.trod_lt m _ _ _ hm
  obtain ⟨l0, e0, m0, f0⟩ : ∃ (bs : List RG), (∀ t ∈ bs, t.s.size ≤ 9223372036854775807) ∧ bs.length ≤ 9223372036854775807 ∧ RV W 0 (.slice a0 len0 cap0) bs := by
    obtain ⟨fuel, hf⟩ := h0
    obtain ⟨u, bs, e, g1, g2, g3⟩ := open_rngs hf
    have e' : [Value.slice a0 len0 cap0] = [u] := by simpa [Value.cells] using e
    injection e' with e'
    subst e'
    exact ⟨bs, g1, g2, g3⟩
  clear hA0 hval0
  refine (walk l0 (.slice a0 len0 cap0) ⟨e0, m0⟩ W f0).mono fun e W' ⟨he, bel⟩ => ?_
  subst he
  exact ⟨_, rfl, _, _, _, [], _, [], hW', trodAll_mk1 (shut_bool Try.underlying4 _), (trodAll_cons_mk (Below.trod laidOut (by kernel_rfl) (of_decide_eq_true (by kernel_rfl)) k0 bel lt0) trodAll_mk0), rfl, bel.frame _, fun h => by cases h⟩

theorem over : Rows.fnExactRoundsRow.holds Try.pinned (OpenSpec.ofChange Rows.fnExactRoundsSpec) :=
  OpenClaim.holds_of_wide 8 Try.f8 rfl rfl rfl rfl rfl rfl rfl ⟨rfl, rfl, rfl, rfl, rfl⟩ rfl rfl rfl rfl rfl (by kernel_rfl) Try.func8 (by kernel_rfl)
    (of_decide_eq_true (by kernel_rfl)) (by unfold Func.isWrapper; first | (rw [if_pos (by decide +kernel)]; kernel_rfl) | (rw [if_neg (by decide +kernel)]; exact ⟨rfl, rfl⟩))
    (fun os started H enc _ => lifted os started H enc)

end Go.Proofs.Ytphegbnnijehbaa.fnExactRounds
namespace Go.Proofs.Ytphegbnnijehbaa
/-- THE STATEMENT -/
theorem fnExactRounds_holds : Rows.FnExactRoundsSaid := fnExactRounds.over
#print axioms fnExactRounds_holds
end Go.Proofs.Ytphegbnnijehbaa
