/-
  PROVED: at the landed commit laws.FnExactCounts returns true for every row of statements and every name: impl.Counts answers as the specification's Counts and writes into no argument; no condition.
-/
import Derived.Test.YthokildkedlkfaaRows
import Derived.Test.YthokildkedlkfaaAstOpen
import Derived.Test.YthokildkedlkfaaAstSzS
import Derived.Test.YthokildkedlkfaaAstToS
import Derived.Test.YthokildkedlkfaaAstEqS
import Derived.Test.YthokildkedlkfaaCntTop
import Derived.Test.YthokildkedlkfaaCntVis
import Derived.WalkKit
import Derived.ProofKit
import Derived.OpenShut
import Derived.ShutString
import Derived.ChangeOld
import Derived.ChangeMaps5
import Derived.Below
namespace Go.Proofs.Ythokildkedlkfaa.fnExactCounts
open Go.ChangeShapes Go.WideShapes Go.ChangeAt Go.ChangeMaps Go.RowKit Go.Lib
set_option linter.unusedVariables false

theorem own : ownKnob Try.prog.godebug = none := by kernel_rfl
theorem laidOut : laidOutB Try.prog = true := by kernel_rfl
set_option maxHeartbeats 1000000 in
set_option maxRecDepth 100000 in
theorem walk (F : SF) (hF : sok F) (hM : slen F ≤ 9223372036854775807) (v : Value) (s : ByteArray) (hs9 : s.size ≤ 9223372036854775807) (w : World) (hv : SV w 0 F v) :
    Calls Try.prog 4 #[v, .string s] w fun e w' => e = .returned (.bool true) ∧ Below w.heap.size w w' := by
  have Hv := Lib.hid hv
  have Hs := Lib.hid (And.intro hF hM)
  have hsI : (s.size : Int) ≤ 9223372036854775807 := by omega
  clear hv hF hM hs9
  by_cases hg : (1048576 : Int) < (s.size : Int)
  · have LW := Lib.hid (Below.refl w.heap.size w)
    go_enter Try.func4, Try.ntmps4
    go_wp2
    go_ret
    exact ⟨rfl, LW.out⟩
  by_cases hd : (1048576 : Int) < (ssize F : Int)
  · go_enter Try.func4, Try.ntmps4
    go_wp2_with fail
    refine (szStmtS_is F Hs.out.1 Hs.out.2 w v 1048576 Hv.out (by omega) (by omega)).mono ?_
    rintro e w1 ⟨rfl, hb1⟩
    rw [if_pos hd]
    go_wp2
    go_ret
    exact ⟨rfl, hb1⟩
  · have hn : ¬ (1048576 : Int) - (ssize F : Int) < 0 := by omega
    have hS : ssize F ≤ 1048576 := by omega
    have hN : snodes F ≤ 10000000 := by have := snodes_le F; omega
    have hE : (sallE F).length ≤ 10000000 := by have := sallE_len F; omega
    obtain ⟨pp, hpp⟩ : ∃ p : Int, ((setsF s F : Nat) : Int) = p := ⟨_, rfl⟩
    obtain ⟨qq, hqq⟩ : ∃ p : Int, ((asksF s F : Nat) : Int) = p := ⟨_, rfl⟩
    have SP := Lib.hid (fun (w : World) (v : Value) (h : SV w 0 F v) => (show Calls Try.prog 13 #[v, .string s] w fun e w' => e = .returned (.tuple #[.int .i64 pp, .int .i64 qq]) ∧ Below w.heap.size w w' by rw [← hpp, ← hqq]; exact spec_Counts s F w v hE hN h))
    have IM := Lib.hid (fun (w : World) (v : Value) (h : SV w 0 F v) => (show Calls Try.prog 12 #[v, .string s] w fun e w' => e = .returned (.tuple #[.int .i64 pp, .int .i64 qq]) ∧ Below w.heap.size w w' by rw [← hpp, ← hqq]; exact impl_Counts F hN hE s w v h))
    clear hpp hqq hN hE
    go_enter Try.func4, Try.ntmps4
    go_wp2_with fail
    refine (szStmtS_is F Hs.out.1 Hs.out.2 w v 1048576 Hv.out (by omega) (by omega)).mono ?_
    rintro e w1 ⟨rfl, hb1⟩
    rw [if_neg (by omega)]
    go_wp2_with fail
    refine (toStmtS_is F hS w1 v (Hv.out.later hb1)).mono ?_
    rintro e w2 ⟨v2, rfl, hv2, hb2⟩
    have B2 := hb1.trans (hb2.mono hb1.size)
    go_wp2_with fail
    refine (SP.out w2 v2 hv2.low).mono ?_
    rintro e w3 ⟨rfl, hb3⟩
    have B3 := B2.trans (hb3.mono B2.size)
    clear hb1 hb2 hb3 hv2 B2
    go_wp2_with fail
    refine (toStmtS_is F hS w3 v (Hv.out.later B3)).mono ?_
    rintro e w4 ⟨v4, rfl, hv4, hb4⟩
    have B4 := B3.trans (hb4.mono B3.size)
    have V4 := Lib.hid hv4.low
    clear hb4 B3 hv4
    go_wp2_with fail
    refine (IM.out w4 v4 V4.out).mono ?_
    rintro e w5 ⟨rfl, hb5⟩
    have B5 := B4.trans (hb5.mono B4.size)
    have V5 := Lib.hid (V4.out.later hb5)
    clear hb5 B4 V4
    go_wp2_with fail
    refine (toStmtS_is F hS w5 v (Hv.out.later B5)).mono ?_
    rintro e w6 ⟨v6, rfl, hv6, hb6⟩
    have B6 := B5.trans (hb6.mono B5.size)
    have V6 := Lib.hid (And.intro (V5.out.later hb6) hv6.low)
    clear hb6 B5 V5 hv6
    go_wp2_with fail
    refine (eqStmtS_is F hS w6 v4 v6 V6.out.1 V6.out.2).mono ?_
    rintro e w7 ⟨rfl, hb7⟩
    have B7 := B6.trans (hb7.mono B6.size)
    clear hb7 B6 V6
    go_wp2
    go_ret
    exact ⟨rfl, B7⟩
set_option maxRecDepth 100000 in
theorem lifted (os : Os) (started : os.Started) (H : Type) (enc : TypeId × Value → H) :
    ReturnsInHanded {} Try.checked os 4 .any (Rows.fnExactCountsSpec.pre6 enc Try.prog Try.f4 Rows.fnExactCountsRow.domain false) (Rows.fnExactCountsSpec.post enc Try.prog Try.f4 false true false false) := by
  refine returnsInHanded_of_change (C := Try.checked) own started (by kernel_rfl) Try.func4
    (ChangeSpec.witness6 (enc := enc) (C := Try.checked) false ⟨#[], #[.slice none 0 0, .string ByteArray.empty], []⟩ 8 (by kernel_rfl) (by kernel_rfl) (by kernel_rfl) (by kernel_rfl)) ?_
  intro W base args ds gs before hval0 hW hcnd _
  have hW' := hW
  obtain ⟨p, q, hA0, hV, rfl, hfz, hnd⟩ := hW
  have hA : DataW.TrodAll enc Try.prog W 0 (fun _ => true) true Try.f4.params.toList args.toList ds p := hA0
  have hval : ∀ (j : Nat) t v, Try.f4.params[j]? = some t → args[j]? = some v → Value.okWide Try.prog W .any base t v := hval0
  rw [Try.params4] at hA hval
  obtain ⟨v0, vs0, d0, ds0, p0, q0, hargs, rfl, rfl, h0, r0⟩ := trodAll_cons hA
  obtain ⟨v1, vs1, d1, ds1, p1, q1, rfl, rfl, rfl, h1, r1⟩ := trodAll_cons r0
  obtain ⟨rfl, rfl, rfl⟩ := trodAll_nil r1
  obtain rfl : args = #[v0, v1] := by cases args; simp_all
  obtain ⟨rfl, rfl⟩ := trodVars_none hV
  obtain ⟨a0, len0, cap0, rfl⟩ := okWide_slice Try.underlying43 (hval 0 43 v0 rfl rfl)
  obtain ⟨s1, rfl, rfl, rfl, ws1⟩ := open_string Try.underlying9 (hval 1 9 v1 rfl rfl) h1
  have k0 := h0
  have lt0 : ∀ x ∈ p0, x.block < W.heap.size := by obtain ⟨m, hm⟩ := k0; exact DataW.trod_lt m _ _ _ hm
  obtain ⟨F, hF, hM, hv⟩ : ∃ F : SF, sok F ∧ slen F ≤ 9223372036854775807 ∧ SV W 0 F (.slice a0 len0 cap0) := by
    obtain ⟨fuel, hf⟩ := h0
    obtain ⟨u, F, e, g1, g2, g3⟩ := open_stmts _ _ _ hf
    have e' : [Value.slice a0 len0 cap0] = [u] := by simpa [Value.cells] using e
    injection e' with e'
    subst e'
    exact ⟨F, g1, g2, g3⟩
  clear hA0 hval0
  refine (walk F hF hM _ s1 (by unfold maxLen at ws1; omega) W hv).mono fun e W' ⟨he, bel⟩ => ?_
  subst he
  exact ⟨_, rfl, _, _, _, [], _, [], hW', trodAll_mk1 (shut_bool Try.underlying4 _), (trodAll_cons_mk (Below.trod laidOut (by kernel_rfl) (of_decide_eq_true (by kernel_rfl)) k0 bel lt0) (trodAll_cons_mk (shut_string Try.underlying9 ws1) trodAll_mk0)), rfl, bel.frame _, fun h => by cases h⟩

theorem over : Rows.fnExactCountsRow.holds Try.pinned (OpenSpec.ofChange Rows.fnExactCountsSpec) :=
  OpenClaim.holds_of_wide 4 Try.f4 rfl rfl rfl rfl rfl rfl rfl ⟨rfl, rfl, rfl, rfl, rfl⟩ rfl rfl rfl rfl rfl (by kernel_rfl) Try.func4 (by kernel_rfl)
    (of_decide_eq_true (by kernel_rfl)) (by unfold Func.isWrapper; first | (rw [if_pos (by decide +kernel)]; kernel_rfl) | (rw [if_neg (by decide +kernel)]; exact ⟨rfl, rfl⟩))
    (fun os started H enc _ => lifted os started H enc)

end Go.Proofs.Ythokildkedlkfaa.fnExactCounts
namespace Go.Proofs.Ythokildkedlkfaa
/-- THE STATEMENT -/
theorem fnExactCounts_holds : Rows.FnExactCountsSaid := fnExactCounts.over
#print axioms fnExactCounts_holds
end Go.Proofs.Ythokildkedlkfaa
