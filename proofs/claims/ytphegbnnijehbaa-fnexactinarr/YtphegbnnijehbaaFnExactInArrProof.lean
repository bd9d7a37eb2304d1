/-
  PROVED: at the landed commit laws.FnExactInArr returns true for every straight sum and every list of ranges and every number: impl.InArr answers as the specification's InArr and writes into no argument; no condition.
-/
import Derived.Test.YtphegbnnijehbaaRows
import Derived.Test.YtphegbnnijehbaaAffArg
import Derived.Test.YtphegbnnijehbaaRngRow
import Derived.Test.YtphegbnnijehbaaEndTop
import Derived.WalkKit
import Derived.ProofKit
import Derived.OpenShut
import Derived.ShutString
import Derived.ChangeOld
import Derived.ChangeMaps5
import Derived.Below
import Derived.Deep.RegionHeld
namespace Go.Proofs.Ytphegbnnijehbaa.fnExactInArr
open Go.ChangeShapes Go.WideShapes Go.ChangeAt Go.ChangeMaps Go.RowKit Go.Lib
set_option linter.unusedSimpArgs false
set_option linter.unusedVariables false

theorem own : ownKnob Try.prog.godebug = none := by kernel_rfl
theorem laidOut : laidOutB Try.prog = true := by kernel_rfl
set_option maxHeartbeats 4000000 in
set_option maxRecDepth 100000 in
theorem walk (c0 : Int) (ts0 : List AR) (va0 : Value) (rs1 : List RG) (va1 : Value) (n2 : Int) (hX : (-9223372036854775808 ≤ c0 ∧ c0 ≤ 9223372036854775807) ∧ (∀ t ∈ ts0, t.s.size ≤ 9223372036854775807) ∧ ts0.length ≤ 9223372036854775807 ∧ (∀ t ∈ rs1, t.s.size ≤ 9223372036854775807) ∧ rs1.length ≤ 9223372036854775807) (w : World) (hc0 : AV w 0 va0 ts0) (hc1 : RV w 0 va1 rs1) :
    Calls Try.prog 7 #[.agg #[.int .i64 c0, va0], va1, .int .i64 n2] w fun e w' => e = .returned (.bool true) ∧ Below w.heap.size w w' := by
  have HX := Lib.hid hX
  have T0 := Lib.hid (At8.start 49 (c := c0) hc0)
  have S1_0 := Lib.hid (hc1.later (alloc_below w (.cells #[.int .i64 c0, va0] 49)))
  clear hX hc0 hc1
  go_enter Try.func7, Try.ntmps7
  go_wp2_with (refine wpList_load_mid rfl 49 _ rfl w.heap.size 0 rfl _ _ T0.out.rg Try.underlying49 rfl sizeLA8 ?_)
  refine (szAff_is c0 ts0 HX.out.2.1 HX.out.2.2.1 va0 _ T0.out.av 1048576 (by omega) (by omega)).mono ?_
  rintro e w1 ⟨rfl, hb⟩
  have T1 := Lib.hid (T0.out.later hb)
  have S1_1 := Lib.hid (S1_0.out.later hb)
  clear hb T0 S1_0
  by_cases hd0 : (1048576 : Int) < (asize ts0 : Int)
  · rw [if_pos hd0]
    go_wp2
    go_ret
    exact ⟨rfl, T1.out.low⟩
  rw [if_neg hd0]
  obtain ⟨L0, hL0⟩ : ∃ L : Int, 1048576 - (asize ts0 : Int) = L := ⟨_, rfl⟩
  rw [hL0]
  have hLn_0 : ¬ L0 < 0 := by omega
  have hL0_0 : 0 ≤ L0 := by omega
  have hL1_0 : L0 ≤ 1048576 := by omega
  have K0 : Hid (asize ts0 ≤ 1048576) := show asize ts0 ≤ 1048576 by omega
  clear hd0 hL0
  go_wp2_with fail
  refine (szRngS_is rs1 HX.out.2.2.2.1 HX.out.2.2.2.2 va1 _ S1_1.out L0 hL0_0 hL1_0).mono ?_
  rintro e w2 ⟨rfl, hb⟩
  have T2 := Lib.hid (T1.out.later hb)
  have S1_2 := Lib.hid (S1_1.out.later hb)
  clear hb T1 S1_1
  by_cases hd1 : (L0 : Int) < (rsize8 rs1 : Int)
  · rw [if_pos hd1]
    go_wp2
    go_ret
    exact ⟨rfl, T2.out.low⟩
  rw [if_neg hd1]
  obtain ⟨L1, hL1⟩ : ∃ L : Int, L0 - (rsize8 rs1 : Int) = L := ⟨_, rfl⟩
  rw [hL1]
  have hLn_1 : ¬ L1 < 0 := by omega
  have hL0_1 : 0 ≤ L1 := by omega
  have hL1_1 : L1 ≤ 1048576 := by omega
  have K1 : Hid (rsize8 rs1 ≤ 1048576) := show rsize8 rs1 ≤ 1048576 by omega
  clear hd1 hL1
  clear hL0_0 hL1_0
  clear hL0_1 hL1_1
  obtain ⟨tv0, htv0⟩ : ∃ tv, inArr9 c0 ts0 rs1 n2 = tv := ⟨_, rfl⟩
  have Htv0 := Lib.hid htv0
  clear htv0
  go_wp2_with (refine wpList_load_mid rfl 49 _ rfl w.heap.size 0 rfl _ _ T2.out.rg Try.underlying49 rfl sizeLA8 ?_)
  refine (toAff_is c0 ts0 (by have := K0.out; unfold asize at this; omega) va0 _ T2.out.av).mono ?_
  rintro e w3 ⟨ua0, rfl, ga0, hb⟩
  have T3 := Lib.hid (T2.out.later hb)
  have S1_3 := Lib.hid (S1_2.out.later hb)
  clear hb T2 S1_2
  have Ga0_3 := Lib.hid ga0.low
  clear ga0
  go_wp2_with fail
  refine (toRngS_is rs1 (by have := K1.out; unfold rsize8 at this; omega) va1 _ S1_3.out).mono ?_
  rintro e w4 ⟨ua1, rfl, ga1, hb⟩
  have T4 := Lib.hid (T3.out.later hb)
  have S1_4 := Lib.hid (S1_3.out.later hb)
  have Ga0_4 := Lib.hid (Ga0_3.out.later hb)
  clear hb T3 S1_3 Ga0_3
  have Ga1_4 := Lib.hid ga1.low
  clear ga1
  go_wp2_with fail
  refine (spec_InArr c0 ts0 (by have := K0.out; unfold asize at this; omega) rs1 (by have := K1.out; unfold rsize8 at this; omega) (fun t h => by have := abytes_mem8 h; have := K0.out; unfold asize at this; omega) (fun t h => by have := rbytes_mem h; have := K1.out; unfold rsize8 at this; omega) n2 ua0 ua1 _ Ga0_4.out Ga1_4.out tv0 Htv0.out).mono ?_
  rintro e w5 ⟨rfl, hb⟩
  clear Ga0_4
  clear Ga1_4
  skip
  have T5 := Lib.hid (T4.out.later hb)
  have S1_5 := Lib.hid (S1_4.out.later hb)
  clear hb T4 S1_4
  go_wp2_with (refine wpList_load_mid rfl 49 _ rfl w.heap.size 0 rfl _ _ T5.out.rg Try.underlying49 rfl sizeLA8 ?_)
  refine (toAff_is c0 ts0 (by have := K0.out; unfold asize at this; omega) va0 _ T5.out.av).mono ?_
  rintro e w6 ⟨x0, rfl, gx, hb⟩
  have T6 := Lib.hid (T5.out.later hb)
  have S1_6 := Lib.hid (S1_5.out.later hb)
  clear hb T5 S1_5
  have i7 := gx.isOne
  have G7 := Lib.hid gx.low
  clear gx
  go_wp2_with (refine store_abs rfl 26 _ _ rfl _ _ _ rfl rfl ?ht sizeIA8 ?ho ?_; exact (newthere2 w6 _ _ _); exact (oneP rfl i7); intro W7 hW; have HW := newblk2 (.int .i64 c0) x0 hW; have P7 : Hid (At8 w6 W7 w6.heap.size c0 x0 ts0) := ⟨HW.1, G7.out.later HW.2, HW.2⟩; have T7 := Lib.hid (T6.out.later HW.2); have S1_7 := Lib.hid (S1_6.out.later HW.2); clear hW HW T6 G7 i7 S1_6 )
  obtain ⟨n7, hn7⟩ : ∃ n7, Hid (w6.heap.size = n7) := ⟨_, rfl⟩
  have Q7 : Hid (At8 w6 W7 n7 c0 x0 ts0) := by rw [← hn7.out]; exact P7
  clear P7
  rw [show w6.heap.size = n7 from hn7.out]
  refine (toRngS_is rs1 (by have := K1.out; unfold rsize8 at this; omega) va1 _ S1_7.out).mono ?_
  rintro e w8 ⟨x1, rfl, gx, hb⟩
  have T8 := Lib.hid (T7.out.later hb)
  have S1_8 := Lib.hid (S1_7.out.later hb)
  have Q8 := Lib.hid (Q7.out.later hb)
  clear hb T7 S1_7 Q7
  have X1_8 := Lib.hid gx.low
  clear gx
  go_wp2_with (refine wpList_load_mid rfl 26 _ rfl n7 0 rfl _ _ Q8.out.rg Try.underlying26 rfl sizeIA8 ?_)
  refine (impl_InArr c0 ts0 (by have := K0.out; unfold asize at this; omega) rs1 (by have := K1.out; unfold rsize8 at this; omega) n2 x0 x1 _ Q8.out.av X1_8.out tv0 Htv0.out).mono ?_
  rintro e w9 ⟨rfl, hb⟩
  have T9 := Lib.hid (T8.out.later hb)
  have S1_9 := Lib.hid (S1_8.out.later hb)
  have Q9 := Lib.hid (Q8.out.later hb)
  have X1_9 := Lib.hid (X1_8.out.later hb)
  clear hb T8 S1_8 Q8 X1_8
  go_wp2_with fail
  have bd : Below w9.heap.size w9 w9.drew := (Below.refl _ w9).drew
  have Td := T9.out.later bd
  have Pd := Q9.out.later bd
  have Sd1 := S1_9.out.later bd
  have Xd1 := X1_9.out.later bd
  refine wp_region_held_drew (S := fun w' => w'.rangeAt n7 0 [.int .i64 c0, x0] ∧ w'.rangeAt w.heap.size 0 [.int .i64 c0, va0]) (by kernel_rfl) ⟨Pd.rg, Td.rg⟩ (fun hHeld => ?_)
  refine wpAnyH_take (i := 0) (v := .agg #[.int .i64 c0, x0]) rfl (by kernel_rfl) (by kernel_rfl) (by kernel_rfl) (fun _ _ _ h => h) (yieldsIf_load_mid (by rfl) 26 _ rfl (n7) (0) rfl [.int .i64 c0, x0] _ (fun w h => h.1) Try.underlying26 rfl sizeIA8) hHeld ?_
  simp only [Act.put, List.getElem_toArray, List.getElem_cons_succ, List.getElem_cons_zero, List.setIfInBounds_toArray, List.set_cons_zero, List.set_cons_succ]
  refine wpAnyH_take (i := 1) (v := .agg #[.int .i64 c0, va0]) rfl (by kernel_rfl) (by kernel_rfl) (by kernel_rfl) (fun _ _ _ h => h) (yieldsIf_load_mid (by rfl) 49 _ rfl (w.heap.size) (0) rfl [.int .i64 c0, va0] _ (fun w h => h.2) Try.underlying49 rfl sizeLA8) hHeld ?_
  simp only [Act.put, List.getElem_toArray, List.getElem_cons_succ, List.getElem_cons_zero, List.setIfInBounds_toArray, List.set_cons_zero, List.set_cons_succ]
  refine wpAnyH_ready (rs := [2]) (by kernel_rfl) (by simp) ?_
  refine AllReadyH.cons rfl (fun K hK => ?_) AllReadyH.nil
  rw [if_pos (by rfl)]
  simp only [List.getElem_toArray, List.getElem_cons_succ, List.getElem_cons_zero]
  go_wp2_with fail
  refine (toAff_is c0 ts0 (by have := K0.out; unfold asize at this; omega) va0 _ Td.av).mono ?_
  rintro e wb ⟨ua, rfl, ga, hbb⟩
  go_wp2_with fail
  refine hK.out _ _ (⟨rangeAt_later hHeld.1 hbb, rangeAt_later hHeld.2 hbb⟩) (fun hHeld => ?_)
  have Pb := Pd.later hbb
  refine wpAnyH_ready (rs := [3]) (by kernel_rfl) (by simp) ?_
  refine AllReadyH.cons rfl (fun K hK => ?_) AllReadyH.nil
  rw [if_pos (by rfl)]
  simp only [List.getElem_toArray, List.getElem_cons_succ, List.getElem_cons_zero]
  go_wp2_with fail
  refine (eqAff_same c0 ts0 (Nat.le_trans (Nat.le_trans (Nat.le_add_right _ _) K0.out) (by omega)) x0 ua _ Pb.av ga.low).mono ?_
  rintro e wc ⟨rfl, hbc⟩
  go_wp2_with fail
  refine hK.out _ _ (⟨rangeAt_later hHeld.1 hbc, rangeAt_later hHeld.2 hbc⟩) (fun hHeld => ?_)
  have Te := Lib.hid ((Td.later hbb).later hbc).low
  have Se1 := Lib.hid ((Sd1.later hbb).later hbc)
  have Xe1 := Lib.hid ((Xd1.later hbb).later hbc)
  clear Sd1 Xd1 S1_9 X1_9
  clear bd Td Pd Pb ga hbb hbc T9 Q9
  refine wpAnyH_take (i := 4) (v := .bool false) rfl (by kernel_rfl) (by kernel_rfl) (by kernel_rfl) (fun _ _ _ h => h) (Or.inl ⟨by rfl, ?yb4⟩) hHeld ?_
  case yb4 => intro w hSw; go_simp
  simp only [Act.put, List.getElem_toArray, List.getElem_cons_succ, List.getElem_cons_zero, List.setIfInBounds_toArray, List.set_cons_zero, List.set_cons_succ]
  refine wpAnyH_done (by kernel_rfl) ?_ _
  clear hHeld
  go_wp2_with fail
  refine (toRngS_is rs1 (by have := K1.out; unfold rsize8 at this; omega) va1 _ Se1.out).mono ?_
  rintro e wp1 ⟨up1, rfl, gp, hb⟩
  have Xf1 := Lib.hid (Xe1.out.later hb)
  have Gp1 := Lib.hid gp.low
  have TE1 := Lib.hid (Te.out.trans (hb.mono Te.out.size))
  clear hb gp
  go_wp2_with fail
  refine (eqRngS_same rs1 (Nat.le_trans (Nat.le_trans (Nat.le_add_right _ _) K1.out) (by omega)) x1 up1 _ Xf1.out Gp1.out).mono ?_
  rintro e wq1 ⟨rfl, hb⟩
  have TF1 := Lib.hid (TE1.out.trans (hb.mono TE1.out.size))
  clear hb
  go_wp2
  go_ret
  exact ⟨rfl, TF1.out⟩
set_option maxRecDepth 100000 in
theorem lifted (os : Os) (started : os.Started) (H : Type) (enc : TypeId × Value → H) :
    ReturnsInHanded {} Try.checked os 7 .any (Rows.fnExactInArrSpec.pre6 enc Try.prog Try.f7 Rows.fnExactInArrRow.domain false) (Rows.fnExactInArrSpec.post enc Try.prog Try.f7 false true false false) := by
  refine returnsInHanded_of_change (C := Try.checked) own started (by kernel_rfl) Try.func7
    (ChangeSpec.witness6 (enc := enc) (C := Try.checked) false ⟨#[], #[.agg #[.int .i64 0, .slice none 0 0], .slice none 0 0, .int .i64 0], []⟩ 8 (by kernel_rfl) (by kernel_rfl) (by kernel_rfl) (by kernel_rfl)) ?_
  intro W base args ds gs before hval0 hW hcnd _
  have hW' := hW
  obtain ⟨p, q, hA0, hV, rfl, hfz, hnd⟩ := hW
  have hA : DataW.TrodAll enc Try.prog W 0 (fun _ => true) true Try.f7.params.toList args.toList ds p := hA0
  have hval : ∀ (j : Nat) t v, Try.f7.params[j]? = some t → args[j]? = some v → Value.okWide Try.prog W .any base t v := hval0
  rw [Try.params7] at hA hval
  obtain ⟨v0, vs0, d0, ds0, p0, q0, hargs, rfl, rfl, h0, r0⟩ := trodAll_cons hA
  obtain ⟨v1, vs1, d1, ds1, p1, q1, rfl, rfl, rfl, h1, r1⟩ := trodAll_cons r0
  obtain ⟨v2, vs2, d2, ds2, p2, q2, rfl, rfl, rfl, h2, r2⟩ := trodAll_cons r1
  obtain ⟨rfl, rfl, rfl⟩ := trodAll_nil r2
  obtain rfl : args = #[v0, v1, v2] := by cases args; simp_all
  obtain ⟨rfl, rfl⟩ := trodVars_none hV
  obtain ⟨cs0, rfl, _⟩ := okWide_struct Try.underlying49 (hval 0 49 v0 rfl rfl)
  obtain ⟨a1, len1, cap1, rfl⟩ := okWide_slice Try.underlying42 (hval 1 42 v1 rfl rfl)
  obtain ⟨n2, rfl⟩ := okWide_int Try.underlying3 (hval 2 3 v2 rfl rfl)
  have k0 := h0
  have lt0 : ∀ x ∈ p0, x.block < W.heap.size := by obtain ⟨m, hm⟩ := k0; exact DataW.trod_lt m _ _ _ hm
  have k1 := h1
  have lt1 : ∀ x ∈ p1, x.block < W.heap.size := by obtain ⟨m, hm⟩ := k1; exact DataW.trod_lt m _ _ _ hm
  have k2 := h2
  have lt2 : ∀ x ∈ p2, x.block < W.heap.size := by obtain ⟨m, hm⟩ := k2; exact DataW.trod_lt m _ _ _ hm
  obtain ⟨c0, va0, ts0, hcs0, b0, e0, m0, f0⟩ : ∃ (c : Int) (va : Value) (ts : List AR), cs0 = #[.int .i64 c, va] ∧ (-9223372036854775808 ≤ c ∧ c ≤ 9223372036854775807) ∧ (∀ t ∈ ts, t.s.size ≤ 9223372036854775807) ∧ ts.length ≤ 9223372036854775807 ∧ AV W 0 va ts := by
    obtain ⟨fuel, hf⟩ := h0
    obtain ⟨c, va, ts, e, g0, g1, g2, g3⟩ := open_aff hf
    have e2 : cs0.toList = [.int .i64 c, va] := by simpa [Value.cells] using e
    exact ⟨c, va, ts, by rw [← e2], g0, g1, g2, g3⟩
  subst hcs0
  obtain ⟨l1, e1, m1, f1⟩ : ∃ (bs : List RG), (∀ t ∈ bs, t.s.size ≤ 9223372036854775807) ∧ bs.length ≤ 9223372036854775807 ∧ RV W 0 (.slice a1 len1 cap1) bs := by
    obtain ⟨fuel, hf⟩ := h1
    obtain ⟨u, bs, e, g1, g2, g3⟩ := open_rngs hf
    have e' : [Value.slice a1 len1 cap1] = [u] := by simpa [Value.cells] using e
    injection e' with e'
    subst e'
    exact ⟨bs, g1, g2, g3⟩
  clear hA0 hval0
  refine (walk c0 ts0 va0 l1 (.slice a1 len1 cap1) n2 ⟨b0, e0, m0, e1, m1⟩ W f0 f1).mono fun e W' ⟨he, bel⟩ => ?_
  subst he
  exact ⟨_, rfl, _, _, _, [], _, [], hW', trodAll_mk1 (shut_bool Try.underlying4 _), (trodAll_cons_mk (Below.trod laidOut (by kernel_rfl) (of_decide_eq_true (by kernel_rfl)) k0 bel lt0) (trodAll_cons_mk (Below.trod laidOut (by kernel_rfl) (of_decide_eq_true (by kernel_rfl)) k1 bel lt1) (trodAll_cons_mk (Below.trod laidOut (by kernel_rfl) (of_decide_eq_true (by kernel_rfl)) k2 bel lt2) trodAll_mk0))), rfl, bel.frame _, fun h => by cases h⟩

theorem over : Rows.fnExactInArrRow.holds Try.pinned (OpenSpec.ofChange Rows.fnExactInArrSpec) :=
  OpenClaim.holds_of_wide 7 Try.f7 rfl rfl rfl rfl rfl rfl rfl ⟨rfl, rfl, rfl, rfl, rfl⟩ rfl rfl rfl rfl rfl (by kernel_rfl) Try.func7 (by kernel_rfl)
    (of_decide_eq_true (by kernel_rfl)) (by unfold Func.isWrapper; first | (rw [if_pos (by decide +kernel)]; kernel_rfl) | (rw [if_neg (by decide +kernel)]; exact ⟨rfl, rfl⟩))
    (fun os started H enc _ => lifted os started H enc)

end Go.Proofs.Ytphegbnnijehbaa.fnExactInArr
namespace Go.Proofs.Ytphegbnnijehbaa
/-- THE STATEMENT -/
theorem fnExactInArr_holds : Rows.FnExactInArrSaid := fnExactInArr.over
#print axioms fnExactInArr_holds
end Go.Proofs.Ytphegbnnijehbaa
