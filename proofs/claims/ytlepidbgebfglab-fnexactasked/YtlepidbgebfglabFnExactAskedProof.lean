/-
  PROVED: at the landed commit laws.FnExactAsked returns true for every row of statements: impl.Asked answers as the specification's Asked, writes into no argument and keeps nothing of one; its answer owns its memory; no condition.
-/
import Derived.Test.YtlepidbgebfglabRows
import Derived.Test.YtlepidbgebfglabAstOpen
import Derived.Test.YtlepidbgebfglabAstSzS
import Derived.Test.YtlepidbgebfglabAstToS
import Derived.Test.YtlepidbgebfglabAstEqS
import Derived.Test.YtlepidbgebfglabNameRows
import Derived.Test.YtlepidbgebfglabMarkStmt
import Derived.Test.YtlepidbgebfglabNameAsked
import Derived.WalkKit
import Derived.ProofKit
import Derived.OpenShut
import Derived.ShutString
import Derived.ChangeOld
import Derived.Below
namespace Go.Proofs.Ytlepidbgebfglab.fnExactAsked
open Go.ChangeShapes Go.WideShapes Go.ChangeAt Go.RowKit
set_option linter.unusedVariables false

theorem own : ownKnob Try.prog.godebug = none := by kernel_rfl
theorem laidOut : laidOutB Try.prog = true := by kernel_rfl
set_option maxHeartbeats 2000000 in
set_option maxRecDepth 100000 in
theorem walk (F : SF) (hF : sok F) (hM : slen F ≤ 9223372036854775807) (v : Value) (w : World) (hv : SV w 0 F v) :
    Calls Try.prog 5 #[v] w fun e w' => e = .returned (.bool true) ∧ Below w.heap.size w w' := by
  have Hv := Lib.hid hv
  have Hs := Lib.hid (And.intro hF hM)
  clear hv hF hM
  by_cases hd : (1048576 : Int) < (ssize F : Int)
  · go_enter Try.func5, Try.ntmps5
    go_wp2_with fail
    refine (szStmtS_is F Hs.out.1 Hs.out.2 w v 1048576 Hv.out (by omega) (by omega)).mono ?_
    rintro e w1 ⟨rfl, hb1⟩
    rw [if_pos hd]
    go_wp2
    go_ret
    exact ⟨rfl, hb1⟩
  · have hn : ¬ (1048576 : Int) - (ssize F : Int) < 0 := by omega
    have hS : ssize F ≤ 1048576 := by omega
    have hN : snodes F ≤ 10000000 := by have := snodes_le F; omega
    have hmk : 1 + (smk F : Int) ≤ 20000000 := by have := smk_le F; omega
    have hsmall : ∀ n ∈ sall F, n.1.s.size ≤ 10000000 := fun n hn => Nat.le_trans (sall_small F n hn) (by omega)
    have hsmallE : ∀ n ∈ sallE F, n.1.s.size ≤ 10000000 := fun n hn => Nat.le_trans (sallE_small F n hn) (by omega)
    have hE : (sallE F).length ≤ 10000000 := by have := sallE_len F; omega
    obtain ⟨ns, hns⟩ : ∃ ns, Hid (nmA 2 F [] = ns) := ⟨_, rfl⟩
    have hnl : ns.length ≤ 10000000 := by
      have h1 := nmA_len 2 F []
      have h2 := snodes_le F
      rw [hns.out] at h1
      simp only [List.length_nil] at h1
      omega
    have SP := Lib.hid (fun (w : World) (v : Value) (h : SV w 0 F v) => (show Calls Try.prog 17 #[v] w (SpecNames w ns) by rw [← hns.out]; exact spec_AskedE F hE hN w v h))
    have IM := Lib.hid (fun (w : World) (v : Value) (h : SV w 0 F v) => (show Calls Try.prog 18 #[v] w (GoodNames w ns) by rw [← hns.out]; exact impl_AskedE F hN hE hsmallE w v h))
    clear hsmall hsmallE hns
    go_enter Try.func5, Try.ntmps5
    go_wp2_with fail
    refine (szStmtS_is F Hs.out.1 Hs.out.2 w v 1048576 Hv.out (by omega) (by omega)).mono ?_
    rintro e w1 ⟨rfl, B1⟩
    rw [if_neg (by omega)]
    go_wp2_with fail
    refine (toStmtS_is F hS w1 v (Hv.out.later B1)).mono ?_
    rintro e w2 ⟨v2, rfl, hv2, hb2⟩
    have B2 := B1.trans (hb2.mono B1.size)
    go_wp2_with fail
    refine (SP.out w2 v2 hv2.low).mono ?_
    rintro e w3 ⟨vw, rfl, hw0, hb3⟩
    have B3 := B2.trans (hb3.mono B2.size)
    have W3 := Lib.hid hw0
    clear hb2 hb3 hv2 B2 B1 hw0
    go_wp2_with fail
    refine (toStmtSF_is F hS w3 v (Hv.out.later B3)).mono ?_
    rintro e w4 ⟨v4, rfl, hv4, hb4⟩
    have B4 := B3.trans (hb4.mono B3.size)
    have B3s := B3.size
    have B4s := B4.size
    have V4 := Lib.hid hv4
    clear B3 hv4
    go_wp2_with fail
    refine (IM.out w4 v4 V4.out.plain.low).mono ?_
    rintro e w5 ⟨vg, rfl, hg, hb5⟩
    have B5 := B4.trans (hb5.mono B4.size)
    have C5 := hb4.trans (hb5.mono hb4.size)
    have G5 := Lib.hid hg
    have D5 := Lib.hid hb5
    clear hg hb5 B4
    -- the two are the same
    go_wp2_with fail
    refine (eqStringS_same ns (by omega) vg vw w5 (TV.of G5.out).low (W3.out.later C5)).mono ?_
    rintro e w6 ⟨rfl, hb6⟩
    have B6 := B5.trans (hb6.mono B5.size)
    have C6 := C5.trans (hb6.mono C5.size)
    have G6 := Lib.hid (ownB G5.out hb6)
    have D6 := Lib.hid (D5.out.trans (hb6.mono D5.out.size))
    clear hb6 B5 C5 G5 D5
    -- nothing was written into the argument
    go_wp2_with fail
    refine (toStmtS_is F hS w6 v (Hv.out.later B6)).mono ?_
    rintro e w7 ⟨v7, rfl, hv7, hb7⟩
    have B7 := B6.trans (hb7.mono B6.size)
    have C7 := C6.trans (hb7.mono C6.size)
    have G7 := Lib.hid (ownB G6.out hb7)
    have D7 := Lib.hid (D6.out.trans (hb7.mono D6.out.size))
    have V7 := Lib.hid hv7.low
    clear hb7 B6 C6 G6 D6 hv7
    go_wp2_with fail
    refine (eqStmtS_is F hS w7 v4 v7 (V4.out.plain.low.later D7.out) V7.out).mono ?_
    rintro e w8 ⟨rfl, hb8⟩
    have B8 := B7.trans (hb8.mono B7.size)
    have C8 := C7.trans (hb8.mono C7.size)
    have G8 := Lib.hid (ownB G7.out hb8)
    have D8 := Lib.hid (D7.out.trans (hb8.mono D7.out.size))
    clear hb8 B7 C7 G7 D7 V7
    -- the argument is marked
    go_wp2_with fail
    refine (markStmtS_is w3.heap.size w4.heap.size F 1 w8 v4 (by omega) hmk ((SKV.of V4.out).mk (Mk.of D8.out))).mono ?_
    rintro e w9 ⟨r9, rfl, g9, _, m9⟩
    have hr9 : ¬ r9 < 0 := by omega
    have C9 := C8.trans (m9.gap.below (Nat.le_refl _) C8.size)
    have B9 := B8.trans (m9.gap.below B3s B8.size)
    have G9 := Lib.hid (ownM G8.out m9.gap (Nat.le_refl _))
    have S9 : Hid (w4.heap.size ≤ w9.heap.size) := Nat.le_trans D8.out.size m9.gap.size
    clear m9 B8 C8 G8 D8 V4 g9
    go_wp2_with fail
    refine (eqStringS_same ns (by omega) vg vw w9 (TV.of G9.out).low (W3.out.later C9)).mono ?_
    rintro e w10 ⟨rfl, hb10⟩
    have B10 := B9.trans (hb10.mono B9.size)
    have C10 := C9.trans (hb10.mono C9.size)
    have G10 := Lib.hid (ownB G9.out hb10)
    have S10 : Hid (w4.heap.size ≤ w10.heap.size) := Nat.le_trans S9.out hb10.size
    clear hb10 B9 C9 G9 S9
    -- the answer is marked
    go_wp2_with fail
    refine (markStringS_is ns 1 (by omega) (by omega) w4.heap.size vg w10 S10.out G10.out).mono ?_
    rintro e w11 ⟨rfl, hg11, hb11⟩
    have B11 := B10.trans (hb11.mono B4s)
    have C11 := C10.trans (hb11.mono hb4.size)
    have G11 : Hid (w11.ownsRow w4.heap.size 9 1 vg (tmarks 1 ns.length).length ((tmarks 1 ns.length).map Value.string)) := by rw [tmarks_len]; exact hg11
    clear hb11 hg11 B10 C10 G10 S10
    go_wp2_with fail
    refine (heldStringS_is ns.length 1 (by omega) (by omega) vg w11 (TV.of G11.out).low).mono ?_
    rintro e w12 ⟨rfl, hb12⟩
    have B12 := B11.trans (hb12.mono B11.size)
    have C12 := C11.trans (hb12.mono C11.size)
    have G12 := Lib.hid (ownB G11.out hb12)
    clear hb12 B11 C11 G11
    go_wp2_with fail
    refine (toStmtS_is F hS w12 v (Hv.out.later B12)).mono ?_
    rintro e w13 ⟨v13, rfl, hv13, hb13⟩
    have B13 := B12.trans (hb13.mono B12.size)
    have C13 := C12.trans (hb13.mono C12.size)
    have G13 := Lib.hid (ownB G12.out hb13)
    clear hb13 B12 C12 G12
    go_wp2_with fail
    refine (IM.out w13 v13 hv13.low).mono ?_
    rintro e w14 ⟨vh, rfl, hh, hb14⟩
    have B14 := B13.trans (hb14.mono B13.size)
    have C14 := C13.trans (hb14.mono C13.size)
    have G14 := Lib.hid (ownB G13.out hb14)
    have H14 := Lib.hid hh
    clear hb14 B13 C13 G13 hh hv13
    go_wp2_with fail
    refine (eqStringS_same ns (by omega) vh vw w14 (TV.of H14.out).low (W3.out.later C14)).mono ?_
    rintro e w15 ⟨rfl, hb15⟩
    have B15 := B14.trans (hb15.mono B14.size)
    have G15 := Lib.hid (ownB G14.out hb15)
    clear hb15 B14 C14 G14 H14
    go_wp2_with fail
    refine (heldStringS_is ns.length 1 (by omega) (by omega) vg w15 (TV.of G15.out).low).mono ?_
    rintro e w16 ⟨rfl, hb16⟩
    have B16 := B15.trans (hb16.mono B15.size)
    clear hb16 B15 G15
    go_wp2
    go_ret
    exact ⟨rfl, B16⟩
set_option maxRecDepth 100000 in
theorem lifted (os : Os) (started : os.Started) (H : Type) (enc : TypeId × Value → H) :
    ReturnsInHanded {} Try.checked os 5 .any (Rows.fnExactAskedSpec.pre6 enc Try.prog Try.f5 Rows.fnExactAskedRow.domain false) (Rows.fnExactAskedSpec.post enc Try.prog Try.f5 false true false false) := by
  refine returnsInHanded_of_change (C := Try.checked) own started (by kernel_rfl) Try.func5
    (ChangeSpec.witness6 (enc := enc) (C := Try.checked) false ⟨#[], #[.slice none 0 0], []⟩ 8 (by kernel_rfl) (by kernel_rfl) (by kernel_rfl) (by kernel_rfl)) ?_
  intro W base args ds gs before hval0 hW hcnd _
  have hW' := hW
  obtain ⟨p, q, hA0, hV, rfl, hfz, hnd⟩ := hW
  have hA : DataW.TrodAll enc Try.prog W 0 (fun _ => true) true Try.f5.params.toList args.toList ds p := hA0
  have hval : ∀ (j : Nat) t v, Try.f5.params[j]? = some t → args[j]? = some v → Value.okWide Try.prog W .any base t v := hval0
  rw [Try.params5] at hA hval
  obtain ⟨v0, vs0, d0, ds0, p0, q0, hargs, rfl, rfl, h0, r0⟩ := trodAll_cons hA
  obtain ⟨rfl, rfl, rfl⟩ := trodAll_nil r0
  obtain rfl : args = #[v0] := by cases args; simp_all
  obtain ⟨rfl, rfl⟩ := trodVars_none hV
  obtain ⟨a0, len0, cap0, rfl⟩ := okWide_slice Try.underlying22 (hval 0 22 v0 rfl rfl)
  have k0 := h0
  have lt0 : ∀ x ∈ p0, x.block < W.heap.size := by obtain ⟨m, hm⟩ := k0; exact DataW.trod_lt m _ _ _ hm
  obtain ⟨F, hF, hM, hv⟩ : ∃ F : SF, sok F ∧ slen F ≤ 9223372036854775807 ∧ SV W 0 F (.slice a0 len0 cap0) := by
    obtain ⟨fuel, hf⟩ := h0
    obtain ⟨u, F, e, h1, h2, h3⟩ := open_stmts _ _ _ hf
    have e' : [Value.slice a0 len0 cap0] = [u] := by simpa [Value.cells] using e
    injection e' with e'
    subst e'
    exact ⟨F, h1, h2, h3⟩
  clear hA0 hval0
  refine (walk F hF hM _ W hv).mono fun e W' ⟨he, bel⟩ => ?_
  subst he
  exact ⟨_, rfl, _, _, _, [], _, [], hW', trodAll_mk1 (shut_bool Try.underlying4 _), (trodAll_cons_mk (Below.trod laidOut (by kernel_rfl) (of_decide_eq_true (by kernel_rfl)) k0 bel lt0) trodAll_mk0), rfl, bel.frame _, fun h => by cases h⟩

theorem over : Rows.fnExactAskedRow.holds Try.pinned (OpenSpec.ofChange Rows.fnExactAskedSpec) :=
  OpenClaim.holds_of_wide 5 Try.f5 rfl rfl rfl rfl rfl rfl rfl ⟨rfl, rfl, rfl, rfl, rfl⟩ rfl rfl rfl rfl rfl (by kernel_rfl) Try.func5 (by kernel_rfl)
    (of_decide_eq_true (by kernel_rfl)) (by unfold Func.isWrapper; first | (rw [if_pos (by decide +kernel)]; kernel_rfl) | (rw [if_neg (by decide +kernel)]; exact ⟨rfl, rfl⟩))
    (fun os started H enc _ => lifted os started H enc)

end Go.Proofs.Ytlepidbgebfglab.fnExactAsked
namespace Go.Proofs.Ytlepidbgebfglab
/-- THE STATEMENT -/
theorem fnExactAsked_holds : Rows.FnExactAskedSaid := fnExactAsked.over
#print axioms fnExactAsked_holds
end Go.Proofs.Ytlepidbgebfglab
