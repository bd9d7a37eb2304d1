/-
  PROVED: at the landed commit laws.FnExactAffOk returns true for every straight sum: impl.AffOk answers as the specification's AffOk and writes into no argument; no condition.
-/
import Derived.Test.YtljahppjkhinpaaRows
import Derived.Test.YtljahppjkhinpaaP03ofAffOk
import Derived.Test.YtljahppjkhinpaaAffOkS
import Derived.WalkKit
import Derived.ProofKit
import Derived.OpenShut
import Derived.ShutString
import Derived.ChangeOld
import Derived.ChangeMaps5
import Derived.Below
import Derived.Deep.RegionHeld
namespace Go.Proofs.Ytljahppjkhinpaa.fnExactAffOk
open Go.ChangeShapes Go.WideShapes Go.ChangeAt Go.ChangeMaps Go.RowKit Go.Lib
set_option linter.unusedSimpArgs false
set_option linter.unusedVariables false

theorem own : ownKnob Try.prog.godebug = none := by kernel_rfl
theorem laidOut : laidOutB Try.prog = true := by kernel_rfl
set_option maxHeartbeats 4000000 in
set_option maxRecDepth 100000 in
theorem walk (c0 : Int) (ts0 : List AR) (va0 : Value) (hX : (-9223372036854775808 ≤ c0 ∧ c0 ≤ 9223372036854775807) ∧ (∀ t ∈ ts0, t.s.size ≤ 9223372036854775807) ∧ ts0.length ≤ 9223372036854775807) (w : World) (hc0 : AV w 0 va0 ts0) :
    Calls Try.prog 4 #[.agg #[.int .i64 c0, va0]] w fun e w' => e = .returned (.bool true) ∧ Below w.heap.size w w' := by
  have HX := Lib.hid hX
  have T0 := Lib.hid (At8.start 39 (c := c0) hc0)
  clear hX hc0
  go_enter Try.func4, Try.ntmps4
  go_wp2_with (refine wpList_load_mid rfl 39 _ rfl w.heap.size 0 rfl _ _ T0.out.rg Try.underlying39 rfl sizeLA8 ?_)
  refine (szAff_is c0 ts0 HX.out.2.1 HX.out.2.2 va0 _ T0.out.av 1048576 (by omega) (by omega)).mono ?_
  rintro e w1 ⟨rfl, hb⟩
  have T1 := Lib.hid (T0.out.later hb)
  clear hb T0
  by_cases hd0 : (1048576 : Int) < (asize ts0 : Int)
  · rw [if_pos hd0]
    go_wp2
    go_ret
    exact ⟨rfl, T1.out.low⟩
  rw [if_neg hd0]
  obtain ⟨L0, hL0⟩ : ∃ L : Int, 1048576 - (asize ts0 : Int) = L := ⟨_, rfl⟩
  rw [hL0]
  have hLn_0 : ¬ L0 < 0 := by omega
  have hL0_0 : 0 ≤ L0 := by omega
  have hL1_0 : L0 ≤ 1048576 := by omega
  have K0 : Hid (asize ts0 ≤ 1048576) := show asize ts0 ≤ 1048576 by omega
  clear hd0 hL0
  clear hL0_0 hL1_0
  obtain ⟨tv0, htv0⟩ : ∃ tv, affOk8 c0 ts0 = tv := ⟨_, rfl⟩
  have Htv0 := Lib.hid htv0
  clear htv0
  go_wp2_with (refine wpList_load_mid rfl 39 _ rfl w.heap.size 0 rfl _ _ T1.out.rg Try.underlying39 rfl sizeLA8 ?_)
  refine (toAff_is c0 ts0 (by have := K0.out; unfold asize at this; omega) va0 _ T1.out.av).mono ?_
  rintro e w2 ⟨ua0, rfl, ga0, hb⟩
  have T2 := Lib.hid (T1.out.later hb)
  clear hb T1
  have Ga0_2 := Lib.hid ga0.low
  clear ga0
  go_wp2_with fail
  refine (spec_AffOk c0 ts0 (by have := K0.out; unfold asize at this; omega) (fun t h => by have := abytes_mem8 h; have := K0.out; unfold asize at this; omega) ua0 _ Ga0_2.out tv0 Htv0.out).mono ?_
  rintro e w3 ⟨rfl, hb⟩
  clear Ga0_2
  skip
  have T3 := Lib.hid (T2.out.later hb)
  clear hb T2
  go_wp2_with (refine wpList_load_mid rfl 39 _ rfl w.heap.size 0 rfl _ _ T3.out.rg Try.underlying39 rfl sizeLA8 ?_)
  refine (toAff_is c0 ts0 (by have := K0.out; unfold asize at this; omega) va0 _ T3.out.av).mono ?_
  rintro e w4 ⟨x0, rfl, gx, hb⟩
  have T4 := Lib.hid (T3.out.later hb)
  clear hb T3
  have i7 := gx.isOne
  have G7 := Lib.hid gx.low
  clear gx
  go_wp2_with (first | (refine store_abs rfl 26 _ _ rfl _ _ _ rfl rfl ?ht sizeIA8 ?ho ?_; exact (newthere2 w4 _ _ _); exact (oneP rfl i7); intro W5 hW; have HW := newblk2 (.int .i64 c0) x0 hW; have P5 : Hid (At8 w4 W5 w4.heap.size c0 x0 ts0) := ⟨HW.1, G7.out.later HW.2, HW.2⟩; have T5 := Lib.hid (T4.out.later HW.2); clear hW HW T4 G7 i7 ) | (refine wpList_load_mid rfl 26 _ rfl w4.heap.size 0 rfl _ _ P5.out.rg Try.underlying26 rfl sizeIA8 ?_))
  obtain ⟨n7, hn7⟩ : ∃ n7, Hid (w4.heap.size = n7) := ⟨_, rfl⟩
  have Q5 : Hid (At8 w4 W5 n7 c0 x0 ts0) := by rw [← hn7.out]; exact P5
  clear P5
  rw [show w4.heap.size = n7 from hn7.out]
  refine (impl_AffOk c0 ts0 (by have := K0.out; unfold asize at this; omega) x0 _ Q5.out.av tv0 Htv0.out).mono ?_
  rintro e w6 ⟨rfl, hb⟩
  have T6 := Lib.hid (T5.out.later hb)
  have Q6 := Lib.hid (Q5.out.later hb)
  clear hb T5 Q5
  go_wp2_with fail
  have bd : Below w6.heap.size w6 w6.drew := (Below.refl _ w6).drew
  have Td := T6.out.later bd
  have Pd := Q6.out.later bd
  refine wp_region_held_drew (S := fun w' => w'.rangeAt n7 0 [.int .i64 c0, x0] ∧ w'.rangeAt w.heap.size 0 [.int .i64 c0, va0]) (by kernel_rfl) ⟨Pd.rg, Td.rg⟩ (fun hHeld => ?_)
  refine wpAnyH_take (i := 0) (v := .agg #[.int .i64 c0, x0]) rfl (by kernel_rfl) (by kernel_rfl) (by kernel_rfl) (fun _ _ _ h => h) (yieldsIf_load_mid (by rfl) 26 _ rfl (n7) (0) rfl [.int .i64 c0, x0] _ (fun w h => h.1) Try.underlying26 rfl sizeIA8) hHeld ?_
  simp only [Act.put, List.getElem_toArray, List.getElem_cons_succ, List.getElem_cons_zero, List.setIfInBounds_toArray, List.set_cons_zero, List.set_cons_succ]
  refine wpAnyH_take (i := 1) (v := .agg #[.int .i64 c0, va0]) rfl (by kernel_rfl) (by kernel_rfl) (by kernel_rfl) (fun _ _ _ h => h) (yieldsIf_load_mid (by rfl) 39 _ rfl (w.heap.size) (0) rfl [.int .i64 c0, va0] _ (fun w h => h.2) Try.underlying39 rfl sizeLA8) hHeld ?_
  simp only [Act.put, List.getElem_toArray, List.getElem_cons_succ, List.getElem_cons_zero, List.setIfInBounds_toArray, List.set_cons_zero, List.set_cons_succ]
  refine wpAnyH_ready (rs := [2]) (by kernel_rfl) (by simp) ?_
  refine AllReadyH.cons rfl (fun K hK => ?_) AllReadyH.nil
  rw [if_pos (by rfl)]
  simp only [List.getElem_toArray, List.getElem_cons_succ, List.getElem_cons_zero]
  go_wp2_with fail
  refine (toAff_is c0 ts0 (by have := K0.out; unfold asize at this; omega) va0 _ Td.av).mono ?_
  rintro e wb ⟨ua, rfl, ga, hbb⟩
  go_wp2_with fail
  refine hK.out _ _ (⟨rangeAt_later hHeld.1 hbb, rangeAt_later hHeld.2 hbb⟩) (fun hHeld => ?_)
  have Pb := Pd.later hbb
  refine wpAnyH_ready (rs := [3]) (by kernel_rfl) (by simp) ?_
  refine AllReadyH.cons rfl (fun K hK => ?_) AllReadyH.nil
  rw [if_pos (by rfl)]
  simp only [List.getElem_toArray, List.getElem_cons_succ, List.getElem_cons_zero]
  go_wp2_with fail
  refine (eqAff_same c0 ts0 (Nat.le_trans (Nat.le_trans (Nat.le_add_right _ _) K0.out) (by omega)) x0 ua _ Pb.av ga.low).mono ?_
  rintro e wc ⟨rfl, hbc⟩
  go_wp2_with fail
  refine hK.out _ _ (⟨rangeAt_later hHeld.1 hbc, rangeAt_later hHeld.2 hbc⟩) (fun hHeld => ?_)
  have Te := Lib.hid ((Td.later hbb).later hbc).low
  clear bd Td Pd Pb ga hbb hbc T6 Q6
  refine wpAnyH_take (i := 4) (v := .bool false) rfl (by kernel_rfl) (by kernel_rfl) (by kernel_rfl) (fun _ _ _ h => h) (Or.inl ⟨by rfl, ?yb4⟩) hHeld ?_
  case yb4 => intro w hSw; go_simp
  simp only [Act.put, List.getElem_toArray, List.getElem_cons_succ, List.getElem_cons_zero, List.setIfInBounds_toArray, List.set_cons_zero, List.set_cons_succ]
  refine wpAnyH_done (by kernel_rfl) ?_ _
  clear hHeld
  go_wp2
  go_ret
  exact ⟨rfl, Te.out⟩
set_option maxRecDepth 100000 in
theorem lifted (os : Os) (started : os.Started) (H : Type) (enc : TypeId × Value → H) :
    ReturnsInHanded {} Try.checked os 4 .any (Rows.fnExactAffOkSpec.pre6 enc Try.prog Try.f4 Rows.fnExactAffOkRow.domain false) (Rows.fnExactAffOkSpec.post enc Try.prog Try.f4 false true false false) := by
  refine returnsInHanded_of_change (C := Try.checked) own started (by kernel_rfl) Try.func4
    (ChangeSpec.witness6 (enc := enc) (C := Try.checked) false ⟨#[], #[.agg #[.int .i64 0, .slice none 0 0]], []⟩ 8 (by kernel_rfl) (by kernel_rfl) (by kernel_rfl) (by kernel_rfl)) ?_
  intro W base args ds gs before hval0 hW hcnd _
  have hW' := hW
  obtain ⟨p, q, hA0, hV, rfl, hfz, hnd⟩ := hW
  have hA : DataW.TrodAll enc Try.prog W 0 (fun _ => true) true Try.f4.params.toList args.toList ds p := hA0
  have hval : ∀ (j : Nat) t v, Try.f4.params[j]? = some t → args[j]? = some v → Value.okWide Try.prog W .any base t v := hval0
  rw [Try.params4] at hA hval
  obtain ⟨v0, vs0, d0, ds0, p0, q0, hargs, rfl, rfl, h0, r0⟩ := trodAll_cons hA
  obtain ⟨rfl, rfl, rfl⟩ := trodAll_nil r0
  obtain rfl : args = #[v0] := by cases args; simp_all
  obtain ⟨rfl, rfl⟩ := trodVars_none hV
  obtain ⟨cs0, rfl, _⟩ := okWide_struct Try.underlying39 (hval 0 39 v0 rfl rfl)
  have k0 := h0
  have lt0 : ∀ x ∈ p0, x.block < W.heap.size := by obtain ⟨m, hm⟩ := k0; exact DataW.trod_lt m _ _ _ hm
  obtain ⟨c0, va0, ts0, hcs0, b0, e0, m0, f0⟩ : ∃ (c : Int) (va : Value) (ts : List AR), cs0 = #[.int .i64 c, va] ∧ (-9223372036854775808 ≤ c ∧ c ≤ 9223372036854775807) ∧ (∀ t ∈ ts, t.s.size ≤ 9223372036854775807) ∧ ts.length ≤ 9223372036854775807 ∧ AV W 0 va ts := by
    obtain ⟨fuel, hf⟩ := h0
    obtain ⟨c, va, ts, e, g0, g1, g2, g3⟩ := open_aff hf
    have e2 : cs0.toList = [.int .i64 c, va] := by simpa [Value.cells] using e
    exact ⟨c, va, ts, by rw [← e2], g0, g1, g2, g3⟩
  subst hcs0
  clear hA0 hval0
  refine (walk c0 ts0 va0 ⟨b0, e0, m0⟩ W f0).mono fun e W' ⟨he, bel⟩ => ?_
  subst he
  exact ⟨_, rfl, _, _, _, [], _, [], hW', trodAll_mk1 (shut_bool Try.underlying4 _), (trodAll_cons_mk (Below.trod laidOut (by kernel_rfl) (of_decide_eq_true (by kernel_rfl)) k0 bel lt0) trodAll_mk0), rfl, bel.frame _, fun h => by cases h⟩

theorem over : Rows.fnExactAffOkRow.holds Try.pinned (OpenSpec.ofChange Rows.fnExactAffOkSpec) :=
  OpenClaim.holds_of_wide 4 Try.f4 rfl rfl rfl rfl rfl rfl rfl ⟨rfl, rfl, rfl, rfl, rfl⟩ rfl rfl rfl rfl rfl (by kernel_rfl) Try.func4 (by kernel_rfl)
    (of_decide_eq_true (by kernel_rfl)) (by unfold Func.isWrapper; first | (rw [if_pos (by decide +kernel)]; kernel_rfl) | (rw [if_neg (by decide +kernel)]; exact ⟨rfl, rfl⟩))
    (fun os started H enc _ => lifted os started H enc)

end Go.Proofs.Ytljahppjkhinpaa.fnExactAffOk
namespace Go.Proofs.Ytljahppjkhinpaa
/-- THE STATEMENT -/
theorem fnExactAffOk_holds : Rows.FnExactAffOkSaid := fnExactAffOk.over
#print axioms fnExactAffOk_holds
end Go.Proofs.Ytljahppjkhinpaa
