/-
  PROVED: at the landed commit laws.FnExactMeetAt returns true for every two straight sums and every name and every two numbers and every list of ranges: impl.MeetAt answers as the specification's MeetAt and writes into no argument; no condition.
-/
import Derived.Test.YtjdpddcnogdekabRows
import Derived.Test.YtjdpddcnogdekabAffArg
import Derived.Test.YtjdpddcnogdekabRngRow
import Derived.Test.YtjdpddcnogdekabMtAtM
import Derived.Test.YtjdpddcnogdekabP49ofMa
import Derived.WalkKit
import Derived.ProofKit
import Derived.OpenShut
import Derived.ShutString
import Derived.ChangeOld
import Derived.ChangeMaps5
import Derived.Below
import Derived.Deep.RegionHeld
namespace Go.Proofs.Ytjdpddcnogdekab.fnExactMeetAt
open Go.ChangeShapes Go.WideShapes Go.ChangeAt Go.ChangeMaps Go.RowKit Go.Lib
set_option linter.unusedSimpArgs false
set_option linter.unusedVariables false

theorem own : ownKnob Try.prog.godebug = none := by kernel_rfl
theorem laidOut : laidOutB Try.prog = true := by kernel_rfl
set_option maxHeartbeats 4000000 in
set_option maxRecDepth 100000 in
theorem walk (c d : Int) (ts us : List AR) (va vb : Value) (s : ByteArray) (n k : Int) (rs : List RG) (vr : Value) (tv : Bool) (hs9 : s.size ≤ 9223372036854775807) (hX : ((∀ t ∈ ts, t.s.size ≤ 9223372036854775807) ∧ ts.length ≤ 9223372036854775807) ∧ ((∀ t ∈ us, t.s.size ≤ 9223372036854775807) ∧ us.length ≤ 9223372036854775807) ∧ ((∀ t ∈ rs, t.s.size ≤ 9223372036854775807) ∧ rs.length ≤ 9223372036854775807)) (w : World) (hc0 : AV w 0 va ts) (hc1 : AV w 0 vb us) (hc2 : RV w 0 vr rs)
    (hin : asize ts + asize us + rsize8 rs ≤ 1048576 → s.size ≤ 1048576 → (∀ w' ua ub ur, AV w' 0 ua ts → AV w' 0 ub us → RV w' 0 ur rs → Calls Try.prog 11 #[.agg #[.int .i64 c, ua], .agg #[.int .i64 d, ub], .string s, .int .i64 n, .int .i64 k, ur] w' fun e w'' => e = .returned (.bool tv) ∧ Below w'.heap.size w' w'') ∧ (∀ w' ua ub ur, AV w' 0 ua ts → AV w' 0 ub us → RV w' 0 ur rs → Calls Try.prog 13 #[.agg #[.int .i64 c, ua], .agg #[.int .i64 d, ub], .string s, .int .i64 n, .int .i64 k, ur] w' fun e w'' => e = .returned (.bool tv) ∧ Below w'.heap.size w' w'')) :
    Calls Try.prog 4 #[.agg #[.int .i64 c, va], .agg #[.int .i64 d, vb], .string s, .int .i64 n, .int .i64 k, vr] w fun e w' => e = .returned (.bool true) ∧ Below w.heap.size w w' := by
  have HX := Lib.hid hX
  have HI := Lib.hid hin
  have T0 := Lib.hid (Two11.start w c d 24 hc0 hc1 hc2)
  obtain ⟨a0, k0, rfl⟩ := hc0.shape
  obtain ⟨a1, k1, rfl⟩ := hc1.shape
  obtain ⟨a2, k2, rfl⟩ := hc2.shape
  have hsI : (s.size : Int) ≤ 9223372036854775807 := by omega
  clear hX hin hc0 hc1 hc2 hs9
  by_cases hg : (1048576 : Int) < (s.size : Int)
  · have LW := Lib.hid T0.out.low
    go_enter Try.func4, Try.ntmps4
    go_wp2
    go_ret
    exact ⟨rfl, LW.out⟩
  have HS : Hid (s.size ≤ 1048576) := show _ ≤ _ by omega
  go_enter Try.func4, Try.ntmps4
  go_wp2_with (refine wpList_load_mid rfl 24 _ rfl (w.heap.size) 0 rfl _ _ T0.out.r1 Try.underlying24 rfl sizeLA8 ?_)
  refine (szAff_is c ts HX.out.1.1 HX.out.1.2 _ _ T0.out.a1 1048576 (by omega) (by omega)).mono ?_
  rintro e w1 ⟨rfl, hb⟩
  have T1 := Lib.hid (T0.out.later hb)
  clear hb T0 
  by_cases hd0 : (1048576 : Int) < (asize ts : Int)
  · rw [if_pos hd0]
    go_wp2
    go_ret
    exact ⟨rfl, T1.out.low⟩
  rw [if_neg hd0]
  obtain ⟨L0, hL0⟩ : ∃ L : Int, 1048576 - (asize ts : Int) = L := ⟨_, rfl⟩
  rw [hL0]
  have hLn_0 : ¬ L0 < 0 := by omega
  have hL0_0 : 0 ≤ L0 := by omega
  have hL1_0 : L0 ≤ 1048576 := by omega
  go_wp2_with (refine wpList_load_mid rfl 24 _ rfl (w.heap.size + 1) 0 rfl _ _ T1.out.r2 Try.underlying24 rfl sizeLA8 ?_)
  refine (szAff_is d us HX.out.2.1.1 HX.out.2.1.2 _ _ T1.out.a2 L0 hL0_0 hL1_0).mono ?_
  rintro e w2 ⟨rfl, hb⟩
  have T2 := Lib.hid (T1.out.later hb)
  clear hb T1 
  by_cases hd1 : (L0 : Int) < (asize us : Int)
  · rw [if_pos hd1]
    go_wp2
    go_ret
    exact ⟨rfl, T2.out.low⟩
  rw [if_neg hd1]
  obtain ⟨L1, hL1⟩ : ∃ L : Int, L0 - (asize us : Int) = L := ⟨_, rfl⟩
  rw [hL1]
  have hLn_1 : ¬ L1 < 0 := by omega
  have hL0_1 : 0 ≤ L1 := by omega
  have hL1_1 : L1 ≤ 1048576 := by omega
  go_wp2_with fail
  refine (szRngS_is rs HX.out.2.2.1 HX.out.2.2.2 _ _ T2.out.rr L1 hL0_1 hL1_1).mono ?_
  rintro e w3 ⟨rfl, hb⟩
  have T3 := Lib.hid (T2.out.later hb)
  clear hb T2 
  by_cases hd2 : (L1 : Int) < (rsize8 rs : Int)
  · rw [if_pos hd2]
    go_wp2
    go_ret
    exact ⟨rfl, T3.out.low⟩
  rw [if_neg hd2]
  obtain ⟨L2, hL2⟩ : ∃ L : Int, L1 - (rsize8 rs : Int) = L := ⟨_, rfl⟩
  rw [hL2]
  have hLn_2 : ¬ L2 < 0 := by omega
  have hL0_2 : 0 ≤ L2 := by omega
  have hL1_2 : L2 ≤ 1048576 := by omega
  have HI2 := Lib.hid (HI.out (by omega) HS.out)
  have kn0 : ts.length ≤ 1048576 := by unfold asize at hd0; omega
  have kn1 : us.length ≤ 1048576 := by unfold asize at hd1; omega
  have kn2 : rs.length ≤ 1048576 := by unfold rsize8 at hd2; omega
  have HK := Lib.hid (And.intro kn0 (And.intro kn1 kn2))
  clear kn0 kn1 kn2
  clear hd0 hL0 hL0_0 hL1_0
  clear hd1 hL1 hL0_1 hL1_1
  clear hd2 hL2 hL0_2 hL1_2
  go_wp2_with fail
  have bd : Below w3.heap.size w3 w3.drew := (Below.refl _ w3).drew
  refine wp_region_held_drew (S := Below w3.heap.size w3) (by kernel_rfl) bd (fun hHeld => ?_)
  clear bd
  refine wpAnyH_take (i := 0) (v := .agg #[.int .i64 c, .slice a0 ts.length k0]) rfl (by kernel_rfl) (by kernel_rfl) (by kernel_rfl) (fun _ _ _ h => h) (Or.inl ⟨by rfl, ?ys0⟩) hHeld ?_
  case ys0 => intro w hSw; obtain ⟨j0, j1⟩ := And.intro (cellC11 (T3.out.later hSw).r1) (cellT11 (T3.out.later hSw).r1); go_simp
  simp only [Act.put, List.getElem_toArray, List.getElem_cons_succ, List.getElem_cons_zero, List.setIfInBounds_toArray, List.set_cons_zero, List.set_cons_succ]
  refine wpAnyH_take (i := 2) (v := .agg #[.int .i64 d, .slice a1 us.length k1]) rfl (by kernel_rfl) (by kernel_rfl) (by kernel_rfl) (fun _ _ _ h => h) (Or.inl ⟨by rfl, ?ys2⟩) hHeld ?_
  case ys2 => intro w hSw; obtain ⟨j0, j1⟩ := And.intro (cellC11 (T3.out.later hSw).r2) (cellT11 (T3.out.later hSw).r2); go_simp
  simp only [Act.put, List.getElem_toArray, List.getElem_cons_succ, List.getElem_cons_zero, List.setIfInBounds_toArray, List.set_cons_zero, List.set_cons_succ]
  refine wpAnyH_take (i := 4) (v := .string s) rfl (by kernel_rfl) (by kernel_rfl) (by kernel_rfl) (fun _ _ _ h => h) (Or.inl ⟨by rfl, ?ys4⟩) hHeld ?_
  case ys4 => intro w hSw; go_simp
  simp only [Act.put, List.getElem_toArray, List.getElem_cons_succ, List.getElem_cons_zero, List.setIfInBounds_toArray, List.set_cons_zero, List.set_cons_succ]
  refine wpAnyH_take (i := 5) (v := .int .i64 n) rfl (by kernel_rfl) (by kernel_rfl) (by kernel_rfl) (fun _ _ _ h => h) (Or.inl ⟨by rfl, ?ys5⟩) hHeld ?_
  case ys5 => intro w hSw; go_simp
  simp only [Act.put, List.getElem_toArray, List.getElem_cons_succ, List.getElem_cons_zero, List.setIfInBounds_toArray, List.set_cons_zero, List.set_cons_succ]
  refine wpAnyH_take (i := 6) (v := .int .i64 k) rfl (by kernel_rfl) (by kernel_rfl) (by kernel_rfl) (fun _ _ _ h => h) (Or.inl ⟨by rfl, ?ys6⟩) hHeld ?_
  case ys6 => intro w hSw; go_simp
  simp only [Act.put, List.getElem_toArray, List.getElem_cons_succ, List.getElem_cons_zero, List.setIfInBounds_toArray, List.set_cons_zero, List.set_cons_succ]
  refine wpAnyH_take (i := 7) (v := .slice a2 rs.length k2) rfl (by kernel_rfl) (by kernel_rfl) (by kernel_rfl) (fun _ _ _ h => h) (Or.inl ⟨by rfl, ?ys7⟩) hHeld ?_
  case ys7 => intro w hSw; go_simp
  simp only [Act.put, List.getElem_toArray, List.getElem_cons_succ, List.getElem_cons_zero, List.setIfInBounds_toArray, List.set_cons_zero, List.set_cons_succ]
  refine wpAnyH_ready (rs := [1]) (by kernel_rfl) (by simp) ?_
  refine AllReadyH.cons rfl (fun K hK => ?_) AllReadyH.nil
  rw [if_pos (by rfl)]
  simp only [List.getElem_toArray, List.getElem_cons_succ, List.getElem_cons_zero]
  go_wp2_with fail
  refine (toAff_is c ts (by have := HK.out.1; omega) _ _ (T3.out.later hHeld).a1).mono ?_
  rintro e wt0 ⟨u0, rfl, ga0, hbb⟩
  go_wp2_with fail
  have GA0 := ga0.low
  refine hK.out _ _ (hHeld.trans (hbb.mono hHeld.size)) (fun hHeld => ?_)
  clear ga0 hbb
  refine wpAnyH_ready (rs := [3]) (by kernel_rfl) (by simp) ?_
  refine AllReadyH.cons rfl (fun K hK => ?_) AllReadyH.nil
  rw [if_pos (by rfl)]
  simp only [List.getElem_toArray, List.getElem_cons_succ, List.getElem_cons_zero]
  go_wp2_with fail
  refine (toAff_is d us (by have := HK.out.2.1; omega) _ _ (T3.out.later hHeld).a2).mono ?_
  rintro e wt1 ⟨u1, rfl, ga1, hbb⟩
  go_wp2_with fail
  have GA0 := GA0.later hbb
  have GA1 := ga1.low
  refine hK.out _ _ (hHeld.trans (hbb.mono hHeld.size)) (fun hHeld => ?_)
  clear ga1 hbb
  refine wpAnyH_ready (rs := [8]) (by kernel_rfl) (by simp) ?_
  refine AllReadyH.cons rfl (fun K hK => ?_) AllReadyH.nil
  rw [if_pos (by rfl)]
  simp only [List.getElem_toArray, List.getElem_cons_succ, List.getElem_cons_zero]
  go_wp2_with fail
  refine (toRngS_is rs (by have := HK.out.2.2; omega) _ _ (T3.out.later hHeld).rr).mono ?_
  rintro e wt2 ⟨u2, rfl, ga2, hbb⟩
  go_wp2_with fail
  have GA0 := GA0.later hbb
  have GA1 := GA1.later hbb
  have GA2 := ga2.low
  refine hK.out _ _ (hHeld.trans (hbb.mono hHeld.size)) (fun hHeld => ?_)
  clear ga2 hbb
  refine wpAnyH_ready (rs := [9]) (by kernel_rfl) (by simp) ?_
  refine AllReadyH.cons rfl (fun K hK => ?_) AllReadyH.nil
  rw [if_pos (by rfl)]
  simp only [List.getElem_toArray, List.getElem_cons_succ, List.getElem_cons_zero]
  go_wp2_with fail
  refine (HI2.out.1 _ _ _ _ GA0 GA1 GA2).mono ?_
  rintro e ws ⟨rfl, hbb⟩
  go_wp2_with fail
  refine hK.out _ _ (hHeld.trans (hbb.mono hHeld.size)) (fun hHeld => ?_)
  clear hbb GA0 GA1 GA2
  refine wpAnyH_take (i := 10) (v := .bool tv) rfl (by kernel_rfl) (by kernel_rfl) (by kernel_rfl) (fun _ _ _ h => h) (Or.inl ⟨by rfl, ?ys10⟩) hHeld ?_
  case ys10 => intro w hSw; go_simp
  simp only [Act.put, List.getElem_toArray, List.getElem_cons_succ, List.getElem_cons_zero, List.setIfInBounds_toArray, List.set_cons_zero, List.set_cons_succ]
  refine wpAnyH_done (by kernel_rfl) ?_ _
  have T4 := Lib.hid (T3.out.later hHeld)
  clear hHeld T3 
  go_wp2_with (refine wpList_load_mid rfl 24 _ rfl (w.heap.size) 0 rfl _ _ T4.out.r1 Try.underlying24 rfl sizeLA8 ?_)
  refine (toAff_is c ts (by have := HK.out.1; omega) _ _ T4.out.a1).mono ?_
  rintro e wx0 ⟨x0, rfl, gx, hb⟩
  have T5 := Lib.hid (T4.out.later hb)
  clear hb T4 
  have i7 := gx.isOne
  have G7 := Lib.hid gx.low
  clear gx
  go_wp2_with (first | (refine store_abs rfl 30 _ _ rfl _ _ _ rfl rfl ?ht0 sizeIA8 ?ho0 ?_; exact (newthere2 wx0 _ _ _); exact (oneP rfl i7); intro W0 hW; have HW := newblk2 (.int .i64 c) x0 hW; have P0 : Hid (At8 wx0 W0 wx0.heap.size c x0 ts) := ⟨HW.1, G7.out.later HW.2, HW.2⟩; have T6 := Lib.hid (T5.out.later HW.2); clear hW HW T5 G7 i7 ) | (refine wpList_load_mid rfl 24 _ rfl (w.heap.size + 1) 0 rfl _ _ T6.out.r2 Try.underlying24 rfl sizeLA8 ?_))
  obtain ⟨n0, hn0⟩ : ∃ n7, Hid (wx0.heap.size = n7) := ⟨_, rfl⟩
  have Q0_6 : Hid (At8 wx0 W0 n0 c x0 ts) := by rw [← hn0.out]; exact P0
  clear P0
  rw [show wx0.heap.size = n0 from hn0.out]
  refine (toAff_is d us (by have := HK.out.2.1; omega) _ _ T6.out.a2).mono ?_
  rintro e wx1 ⟨x1, rfl, gx, hb⟩
  have T7 := Lib.hid (T6.out.later hb)
  have Q0_7 := Lib.hid (Q0_6.out.later hb)
  clear hb T6 Q0_6 
  have i7 := gx.isOne
  have G7 := Lib.hid gx.low
  clear gx
  go_wp2_with (refine store_abs rfl 30 _ _ rfl _ _ _ rfl rfl ?ht1 sizeIA8 ?ho1 ?_; exact (newthere2 wx1 _ _ _); exact (oneP rfl i7); intro W1 hW; have HW := newblk2 (.int .i64 d) x1 hW; have P1 : Hid (At8 wx1 W1 wx1.heap.size d x1 us) := ⟨HW.1, G7.out.later HW.2, HW.2⟩; have T8 := Lib.hid (T7.out.later HW.2); have Q0_8 := Lib.hid (Q0_7.out.later HW.2); clear hW HW T7 G7 i7 Q0_7)
  obtain ⟨n1, hn1⟩ : ∃ n7, Hid (wx1.heap.size = n7) := ⟨_, rfl⟩
  have Q1_8 : Hid (At8 wx1 W1 n1 d x1 us) := by rw [← hn1.out]; exact P1
  clear P1
  rw [show wx1.heap.size = n1 from hn1.out]
  refine (toRngS_is rs (by have := HK.out.2.2; omega) _ _ T8.out.rr).mono ?_
  rintro e wx2 ⟨x2, rfl, gx, hb⟩
  have T9 := Lib.hid (T8.out.later hb)
  have Q0_9 := Lib.hid (Q0_8.out.later hb)
  have Q1_9 := Lib.hid (Q1_8.out.later hb)
  clear hb T8 Q0_8 Q1_8 
  have X2_9 := Lib.hid gx.low
  clear gx
  go_wp2_with (first | (refine wpList_load_mid rfl 30 _ rfl n0 0 rfl _ _ Q0_9.out.rg Try.underlying30 rfl sizeIA8 ?_) | (refine wpList_load_mid rfl 30 _ rfl n1 0 rfl _ _ Q1_9.out.rg Try.underlying30 rfl sizeIA8 ?_))
  refine (HI2.out.2 _ _ _ _ Q0_9.out.av Q1_9.out.av X2_9.out).mono ?_
  rintro e wi ⟨rfl, hb⟩
  have T10 := Lib.hid (T9.out.later hb)
  have Q0_10 := Lib.hid (Q0_9.out.later hb)
  have Q1_10 := Lib.hid (Q1_9.out.later hb)
  have X2_10 := Lib.hid (X2_9.out.later hb)
  clear hb T9 Q0_9 Q1_9 X2_9 
  go_wp2_with fail
  have bd : Below wi.heap.size wi wi.drew := (Below.refl _ wi).drew
  refine wp_region_held_drew (S := Below wi.heap.size wi) (by kernel_rfl) bd (fun hHeld => ?_)
  clear bd
  refine wpAnyH_take (i := 0) (v := .agg #[.int .i64 c, x0]) rfl (by kernel_rfl) (by kernel_rfl) (by kernel_rfl) (fun _ _ _ h => h) (Or.inl ⟨by rfl, ?yn00⟩) hHeld ?_
  case yn00 => intro w hSw; obtain ⟨j0, j1⟩ := And.intro (cellC11 (Q0_10.out.later hSw).rg) (cellT11 (Q0_10.out.later hSw).rg); go_simp
  simp only [Act.put, List.getElem_toArray, List.getElem_cons_succ, List.getElem_cons_zero, List.setIfInBounds_toArray, List.set_cons_zero, List.set_cons_succ]
  refine wpAnyH_take (i := 1) (v := .agg #[.int .i64 c, .slice a0 ts.length k0]) rfl (by kernel_rfl) (by kernel_rfl) (by kernel_rfl) (fun _ _ _ h => h) (Or.inl ⟨by rfl, ?yn01⟩) hHeld ?_
  case yn01 => intro w hSw; obtain ⟨j0, j1⟩ := And.intro (cellC11 (T10.out.later hSw).r1) (cellT11 (T10.out.later hSw).r1); go_simp
  simp only [Act.put, List.getElem_toArray, List.getElem_cons_succ, List.getElem_cons_zero, List.setIfInBounds_toArray, List.set_cons_zero, List.set_cons_succ]
  refine wpAnyH_ready (rs := [2]) (by kernel_rfl) (by simp) ?_
  refine AllReadyH.cons rfl (fun K hK => ?_) AllReadyH.nil
  rw [if_pos (by rfl)]
  simp only [List.getElem_toArray, List.getElem_cons_succ, List.getElem_cons_zero]
  go_wp2_with fail
  refine (toAff_is c ts (by have := HK.out.1; omega) _ _ (T10.out.later hHeld).a1).mono ?_
  rintro e wb ⟨ub, rfl, gb, hbb⟩
  go_wp2_with fail
  refine hK.out _ _ (hHeld.trans (hbb.mono hHeld.size)) (fun hHeld => ?_)
  refine wpAnyH_ready (rs := [3]) (by kernel_rfl) (by simp) ?_
  refine AllReadyH.cons rfl (fun K hK => ?_) AllReadyH.nil
  rw [if_pos (by rfl)]
  simp only [List.getElem_toArray, List.getElem_cons_succ, List.getElem_cons_zero]
  go_wp2_with fail
  refine (eqAff_same c ts (by have := HK.out.1; omega) _ _ _ (Q0_10.out.later hHeld).av gb.low).mono ?_
  rintro e wn0 ⟨rfl, hbc⟩
  go_wp2_with fail
  refine hK.out _ _ (hHeld.trans (hbc.mono hHeld.size)) (fun hHeld => ?_)
  refine wpAnyH_take (i := 4) (v := .bool false) rfl (by kernel_rfl) (by kernel_rfl) (by kernel_rfl) (fun _ _ _ h => h) (Or.inl ⟨by rfl, ?ym04⟩) hHeld ?_
  case ym04 => intro w hSw; go_simp
  simp only [Act.put, List.getElem_toArray, List.getElem_cons_succ, List.getElem_cons_zero, List.setIfInBounds_toArray, List.set_cons_zero, List.set_cons_succ]
  refine wpAnyH_done (by kernel_rfl) ?_ _
  clear gb hbb hbc
  have T11 := Lib.hid (T10.out.later hHeld)
  have Q0_11 := Lib.hid (Q0_10.out.later hHeld)
  have Q1_11 := Lib.hid (Q1_10.out.later hHeld)
  have X2_11 := Lib.hid (X2_10.out.later hHeld)
  clear hHeld T10 Q0_10 Q1_10 X2_10 
  go_wp2_with fail
  have bd : Below wn0.heap.size wn0 wn0.drew := (Below.refl _ wn0).drew
  refine wp_region_held_drew (S := Below wn0.heap.size wn0) (by kernel_rfl) bd (fun hHeld => ?_)
  clear bd
  refine wpAnyH_take (i := 0) (v := .agg #[.int .i64 d, x1]) rfl (by kernel_rfl) (by kernel_rfl) (by kernel_rfl) (fun _ _ _ h => h) (Or.inl ⟨by rfl, ?yn10⟩) hHeld ?_
  case yn10 => intro w hSw; obtain ⟨j0, j1⟩ := And.intro (cellC11 (Q1_11.out.later hSw).rg) (cellT11 (Q1_11.out.later hSw).rg); go_simp
  simp only [Act.put, List.getElem_toArray, List.getElem_cons_succ, List.getElem_cons_zero, List.setIfInBounds_toArray, List.set_cons_zero, List.set_cons_succ]
  refine wpAnyH_take (i := 1) (v := .agg #[.int .i64 d, .slice a1 us.length k1]) rfl (by kernel_rfl) (by kernel_rfl) (by kernel_rfl) (fun _ _ _ h => h) (Or.inl ⟨by rfl, ?yn11⟩) hHeld ?_
  case yn11 => intro w hSw; obtain ⟨j0, j1⟩ := And.intro (cellC11 (T11.out.later hSw).r2) (cellT11 (T11.out.later hSw).r2); go_simp
  simp only [Act.put, List.getElem_toArray, List.getElem_cons_succ, List.getElem_cons_zero, List.setIfInBounds_toArray, List.set_cons_zero, List.set_cons_succ]
  refine wpAnyH_ready (rs := [2]) (by kernel_rfl) (by simp) ?_
  refine AllReadyH.cons rfl (fun K hK => ?_) AllReadyH.nil
  rw [if_pos (by rfl)]
  simp only [List.getElem_toArray, List.getElem_cons_succ, List.getElem_cons_zero]
  go_wp2_with fail
  refine (toAff_is d us (by have := HK.out.2.1; omega) _ _ (T11.out.later hHeld).a2).mono ?_
  rintro e wb ⟨ub, rfl, gb, hbb⟩
  go_wp2_with fail
  refine hK.out _ _ (hHeld.trans (hbb.mono hHeld.size)) (fun hHeld => ?_)
  refine wpAnyH_ready (rs := [3]) (by kernel_rfl) (by simp) ?_
  refine AllReadyH.cons rfl (fun K hK => ?_) AllReadyH.nil
  rw [if_pos (by rfl)]
  simp only [List.getElem_toArray, List.getElem_cons_succ, List.getElem_cons_zero]
  go_wp2_with fail
  refine (eqAff_same d us (by have := HK.out.2.1; omega) _ _ _ (Q1_11.out.later hHeld).av gb.low).mono ?_
  rintro e wn1 ⟨rfl, hbc⟩
  go_wp2_with fail
  refine hK.out _ _ (hHeld.trans (hbc.mono hHeld.size)) (fun hHeld => ?_)
  refine wpAnyH_take (i := 4) (v := .bool false) rfl (by kernel_rfl) (by kernel_rfl) (by kernel_rfl) (fun _ _ _ h => h) (Or.inl ⟨by rfl, ?ym14⟩) hHeld ?_
  case ym14 => intro w hSw; go_simp
  simp only [Act.put, List.getElem_toArray, List.getElem_cons_succ, List.getElem_cons_zero, List.setIfInBounds_toArray, List.set_cons_zero, List.set_cons_succ]
  refine wpAnyH_done (by kernel_rfl) ?_ _
  clear gb hbb hbc
  have T12 := Lib.hid (T11.out.later hHeld)
  have Q0_12 := Lib.hid (Q0_11.out.later hHeld)
  have Q1_12 := Lib.hid (Q1_11.out.later hHeld)
  have X2_12 := Lib.hid (X2_11.out.later hHeld)
  clear hHeld T11 Q0_11 Q1_11 X2_11 
  go_wp2_with fail
  refine (toRngS_is rs (by have := HK.out.2.2; omega) _ _ T12.out.rr).mono ?_
  rintro e wp ⟨up, rfl, gp, hb⟩
  have T13 := Lib.hid (T12.out.later hb)
  have Q0_13 := Lib.hid (Q0_12.out.later hb)
  have Q1_13 := Lib.hid (Q1_12.out.later hb)
  have X2_13 := Lib.hid (X2_12.out.later hb)
  clear hb T12 Q0_12 Q1_12 X2_12 
  have Gp := Lib.hid gp.low
  clear gp
  go_wp2_with fail
  refine (eqRngS_same rs (by have := HK.out.2.2; omega) _ _ _ X2_13.out Gp.out).mono ?_
  rintro e wq ⟨rfl, hb⟩
  have T14 := Lib.hid (T13.out.later hb)
  have Q0_14 := Lib.hid (Q0_13.out.later hb)
  have Q1_14 := Lib.hid (Q1_13.out.later hb)
  have X2_14 := Lib.hid (X2_13.out.later hb)
  clear hb T13 Q0_13 Q1_13 X2_13 
  go_wp2
  go_ret
  exact ⟨rfl, T14.out.low⟩
theorem both (c d : Int) (ts us : List AR) (s : ByteArray) (n k : Int) (rs : List RG) (tv : Bool) (hv : meetAt11 c ts d us s n k rs = tv) (hin : asize ts + asize us + rsize8 rs ≤ 1048576) (hs : s.size ≤ 1048576) :
    (∀ w' ua ub ur, AV w' 0 ua ts → AV w' 0 ub us → RV w' 0 ur rs → Calls Try.prog 11 #[.agg #[.int .i64 c, ua], .agg #[.int .i64 d, ub], .string s, .int .i64 n, .int .i64 k, ur] w' fun e w'' => e = .returned (.bool tv) ∧ Below w'.heap.size w' w'') ∧ (∀ w' ua ub ur, AV w' 0 ua ts → AV w' 0 ub us → RV w' 0 ur rs → Calls Try.prog 13 #[.agg #[.int .i64 c, ua], .agg #[.int .i64 d, ub], .string s, .int .i64 n, .int .i64 k, ur] w' fun e w'' => e = .returned (.bool tv) ∧ Below w'.heap.size w' w'') := by
  subst hv
  unfold asize rsize8 at hin
  have nb0 : ∀ t ∈ ts, t.s.size ≤ 281474976710656 := fun t h => by have := abytes_mem8 h; omega
  have nb1 : ∀ t ∈ us, t.s.size ≤ 281474976710656 := fun t h => by have := abytes_mem8 h; omega
  have nb2 : ∀ t ∈ rs, t.s.size ≤ 281474976710656 := fun t h => by have := rbytes_mem h; omega
  exact ⟨fun w' ua ub ur h0 h1 h2 => spec_MeetAt c ts (by omega) nb0 d us (by omega) nb1 s n k rs (by omega) nb2 ua ub ur w' h0 h1 h2 _ rfl, fun w' ua ub ur h0 h1 h2 => impl_MeetAt c ts (by omega) d us (by omega) s n k rs (by omega) ua ub ur w' h0 h1 h2 _ rfl⟩
set_option maxRecDepth 100000 in
theorem lifted (os : Os) (started : os.Started) (H : Type) (enc : TypeId × Value → H) :
    ReturnsInHanded {} Try.checked os 4 .any (Rows.fnExactMeetAtSpec.pre6 enc Try.prog Try.f4 Rows.fnExactMeetAtRow.domain false) (Rows.fnExactMeetAtSpec.post enc Try.prog Try.f4 false true false false) := by
  refine returnsInHanded_of_change (C := Try.checked) own started (by kernel_rfl) Try.func4
    (ChangeSpec.witness6 (enc := enc) (C := Try.checked) false ⟨#[], #[.agg #[.int .i64 0, .slice none 0 0], .agg #[.int .i64 0, .slice none 0 0], .string ByteArray.empty, .int .i64 0, .int .i64 0, .slice none 0 0], []⟩ 8 (by kernel_rfl) (by kernel_rfl) (by kernel_rfl) (by kernel_rfl)) ?_
  intro W base args ds gs before hval0 hW hcnd _
  have hW' := hW
  obtain ⟨p, q, hA0, hV, rfl, hfz, hnd⟩ := hW'
  have hA : DataW.TrodAll enc Try.prog W 0 (fun _ => true) true Try.f4.params.toList args.toList ds p := hA0
  have hval : ∀ (j : Nat) t v, Try.f4.params[j]? = some t → args[j]? = some v → Value.okWide Try.prog W .any base t v := hval0
  rw [Try.params4] at hA hval
  obtain ⟨v0, vs0, d0, ds0, p0, q0, hargs, rfl, rfl, h0, r0⟩ := trodAll_cons hA
  obtain ⟨v1, vs1, d1, ds1, p1, q1, rfl, rfl, rfl, h1, r1⟩ := trodAll_cons r0
  obtain ⟨v2, vs2, d2, ds2, p2, q2, rfl, rfl, rfl, h2, r2⟩ := trodAll_cons r1
  obtain ⟨v3, vs3, d3, ds3, p3, q3, rfl, rfl, rfl, h3, r3⟩ := trodAll_cons r2
  obtain ⟨v4, vs4, d4, ds4, p4, q4, rfl, rfl, rfl, h4, r4⟩ := trodAll_cons r3
  obtain ⟨v5, vs5, d5, ds5, p5, q5, rfl, rfl, rfl, h5, r5⟩ := trodAll_cons r4
  obtain ⟨rfl, rfl, rfl⟩ := trodAll_nil r5
  obtain rfl : args = #[v0, v1, v2, v3, v4, v5] := by cases args; simp_all
  obtain ⟨rfl, rfl⟩ := trodVars_none hV
  obtain ⟨cs0, rfl, _⟩ := okWide_struct Try.underlying24 (hval 0 24 v0 rfl rfl)
  obtain ⟨cs1, rfl, _⟩ := okWide_struct Try.underlying24 (hval 1 24 v1 rfl rfl)
  obtain ⟨s2, rfl, rfl, rfl, ws2⟩ := open_string Try.underlying9 (hval 2 9 v2 rfl rfl) h2
  obtain ⟨n3, rfl⟩ := okWide_int Try.underlying3 (hval 3 3 v3 rfl rfl)
  obtain ⟨n4, rfl⟩ := okWide_int Try.underlying3 (hval 4 3 v4 rfl rfl)
  obtain ⟨a5, len5, cap5, rfl⟩ := okWide_slice Try.underlying34 (hval 5 34 v5 rfl rfl)
  have k0 := h0
  have lt0 : ∀ x ∈ p0, x.block < W.heap.size := by obtain ⟨m, hm⟩ := k0; exact DataW.trod_lt m _ _ _ hm
  have k1 := h1
  have lt1 : ∀ x ∈ p1, x.block < W.heap.size := by obtain ⟨m, hm⟩ := k1; exact DataW.trod_lt m _ _ _ hm
  have k3 := h3
  have lt3 : ∀ x ∈ p3, x.block < W.heap.size := by obtain ⟨m, hm⟩ := k3; exact DataW.trod_lt m _ _ _ hm
  have k4 := h4
  have lt4 : ∀ x ∈ p4, x.block < W.heap.size := by obtain ⟨m, hm⟩ := k4; exact DataW.trod_lt m _ _ _ hm
  have k5 := h5
  have lt5 : ∀ x ∈ p5, x.block < W.heap.size := by obtain ⟨m, hm⟩ := k5; exact DataW.trod_lt m _ _ _ hm
  obtain ⟨c0, va0, ts0, hcs0, b0, e0, m0, f0⟩ : ∃ (c : Int) (va : Value) (ts : List AR), cs0 = #[.int .i64 c, va] ∧ (-9223372036854775808 ≤ c ∧ c ≤ 9223372036854775807) ∧ (∀ t ∈ ts, t.s.size ≤ 9223372036854775807) ∧ ts.length ≤ 9223372036854775807 ∧ AV W 0 va ts := by
    obtain ⟨fuel, hf⟩ := h0
    obtain ⟨c, va, ts, e, g0, g1, g2, g3⟩ := open_aff hf
    have e2 : cs0.toList = [.int .i64 c, va] := by simpa [Value.cells] using e
    exact ⟨c, va, ts, by rw [← e2], g0, g1, g2, g3⟩
  subst hcs0
  obtain ⟨c1, va1, ts1, hcs1, b1, e1, m1, f1⟩ : ∃ (c : Int) (va : Value) (ts : List AR), cs1 = #[.int .i64 c, va] ∧ (-9223372036854775808 ≤ c ∧ c ≤ 9223372036854775807) ∧ (∀ t ∈ ts, t.s.size ≤ 9223372036854775807) ∧ ts.length ≤ 9223372036854775807 ∧ AV W 0 va ts := by
    obtain ⟨fuel, hf⟩ := h1
    obtain ⟨c, va, ts, e, g0, g1, g2, g3⟩ := open_aff hf
    have e2 : cs1.toList = [.int .i64 c, va] := by simpa [Value.cells] using e
    exact ⟨c, va, ts, by rw [← e2], g0, g1, g2, g3⟩
  subst hcs1
  obtain ⟨l5, e5, m5, f5⟩ : ∃ (bs : List RG), (∀ t ∈ bs, t.s.size ≤ 9223372036854775807) ∧ bs.length ≤ 9223372036854775807 ∧ RV W 0 (.slice a5 len5 cap5) bs := by
    obtain ⟨fuel, hf⟩ := h5
    obtain ⟨u, bs, e, g1, g2, g3⟩ := open_rngs hf
    have e' : [Value.slice a5 len5 cap5] = [u] := by simpa [Value.cells] using e
    injection e' with e'
    subst e'
    exact ⟨bs, g1, g2, g3⟩
  clear hA0 hval0
  refine (walk c0 c1 ts0 ts1 va0 va1 s2 n3 n4 l5 (.slice a5 len5 cap5) _ (by unfold maxLen at ws2; omega) ⟨⟨e0, m0⟩, ⟨e1, m1⟩, ⟨e5, m5⟩⟩ W f0 f1 f5 (fun hin hs => both c0 c1 ts0 ts1 s2 n3 n4 l5 _ rfl hin hs)).mono fun e W' ⟨he, bel⟩ => ?_
  subst he
  exact ⟨_, rfl, _, _, _, [], _, [], hW, trodAll_mk1 (shut_bool Try.underlying4 _), (trodAll_cons_mk (Below.trod laidOut (by kernel_rfl) (of_decide_eq_true (by kernel_rfl)) k0 bel lt0) (trodAll_cons_mk (Below.trod laidOut (by kernel_rfl) (of_decide_eq_true (by kernel_rfl)) k1 bel lt1) (trodAll_cons_mk (shut_string Try.underlying9 ws2) (trodAll_cons_mk (Below.trod laidOut (by kernel_rfl) (of_decide_eq_true (by kernel_rfl)) k3 bel lt3) (trodAll_cons_mk (Below.trod laidOut (by kernel_rfl) (of_decide_eq_true (by kernel_rfl)) k4 bel lt4) (trodAll_cons_mk (Below.trod laidOut (by kernel_rfl) (of_decide_eq_true (by kernel_rfl)) k5 bel lt5) trodAll_mk0)))))), rfl, bel.frame _, fun h => by cases h⟩

theorem over : Rows.fnExactMeetAtRow.holds Try.pinned (OpenSpec.ofChange Rows.fnExactMeetAtSpec) :=
  OpenClaim.holds_of_wide 4 Try.f4 rfl rfl rfl rfl rfl rfl rfl ⟨rfl, rfl, rfl, rfl, rfl⟩ rfl rfl rfl rfl rfl (by kernel_rfl) Try.func4 (by kernel_rfl)
    (of_decide_eq_true (by kernel_rfl)) (by unfold Func.isWrapper; first | (rw [if_pos (by decide +kernel)]; kernel_rfl) | (rw [if_neg (by decide +kernel)]; exact ⟨rfl, rfl⟩))
    (fun os started H enc _ => lifted os started H enc)

end Go.Proofs.Ytjdpddcnogdekab.fnExactMeetAt
namespace Go.Proofs.Ytjdpddcnogdekab
/-- THE STATEMENT -/
theorem fnExactMeetAt_holds : Rows.FnExactMeetAtSaid := fnExactMeetAt.over
#print axioms fnExactMeetAt_holds
end Go.Proofs.Ytjdpddcnogdekab
