/-
  PROVED: at the landed commit laws.FnExactAddA returns true for every two straight sums: impl.AddA answers as the specification's AddA, writes into no argument, and its answer owns its memory; no condition.
-/
import Derived.Test.YtfacenfiocdbgaaRows
import Derived.Test.YtfacenfiocdbgaaAffLaw
import Derived.WalkKit
import Derived.ProofKit
import Derived.OpenShut
import Derived.ShutString
import Derived.ChangeOld
import Derived.ChangeMaps5
import Derived.Below
import Derived.Deep.RegionHeld
namespace Go.Proofs.Ytfacenfiocdbgaa.fnExactAddA
open Go.ChangeShapes Go.WideShapes Go.ChangeAt Go.ChangeMaps Go.RowKit Go.Lib
set_option linter.unusedSimpArgs false
set_option linter.unusedVariables false

theorem own : ownKnob Try.prog.godebug = none := by kernel_rfl
theorem laidOut : laidOutB Try.prog = true := by kernel_rfl
set_option maxHeartbeats 4000000 in
set_option maxRecDepth 100000 in
theorem walk (c0 c1 : Int) (ts0 ts1 : List AR) (va0 va1 : Value) (ok : Bool) (dd : Int) (L : List AR)
    (hX : ((∀ t ∈ ts0, t.s.size ≤ 9223372036854775807) ∧ ts0.length ≤ 9223372036854775807) ∧ ((∀ t ∈ ts1, t.s.size ≤ 9223372036854775807) ∧ ts1.length ≤ 9223372036854775807)) (w : World) (hc0 : AV w 0 va0 ts0) (hc1 : AV w 0 va1 ts1)
    (hin : asize ts0 + asize ts1 ≤ 1048576 → L.length ≤ 1048576 ∧ (∀ w' ua ub, AV w' 0 ua ts0 → AV w' 0 ub ts1 → Calls Try.prog 17 #[.agg #[.int .i64 c0, ua], .agg #[.int .i64 c1, ub]] w' (Out8 w' ok dd L)) ∧
      (∀ w' ua ub, AV w' 0 ua ts0 → AV w' 0 ub ts1 → Cap8 ua → Cap8 ub → Calls Try.prog 9 #[.agg #[.int .i64 c0, ua], .agg #[.int .i64 c1, ub]] w' (Out8 w' ok dd L))) :
    Calls Try.prog 5 #[.agg #[.int .i64 c0, va0], .agg #[.int .i64 c1, va1]] w fun e w' => e = .returned (.bool true) ∧ Below w.heap.size w w' := by
  have HX := Lib.hid hX
  have HI := Lib.hid hin
  have HC := Lib.hid (And.intro hc0 hc1)
  obtain ⟨a0, k0, rfl⟩ := hc0.shape
  obtain ⟨a1, k1, rfl⟩ := hc1.shape
  obtain ⟨q0, q1⟩ := heap2t w (.cells #[.int .i64 c0, .slice a0 ts0.length k0] 46) (.cells #[.int .i64 c1, .slice a1 ts1.length k1] 46)
  have hb0 : Below w.heap.size w ((w.alloc (.cells #[.int .i64 c0, .slice a0 ts0.length k0] 46)).alloc (.cells #[.int .i64 c1, .slice a1 ts1.length k1] 46)) := (alloc_below w _).alloc (by simp) _
  have P0 := Lib.hid q0
  have P1 := Lib.hid q1
  have LO := Lib.hid hb0
  clear hX hin hc0 hc1 q0 q1 hb0
  obtain ⟨⟨y0, y1⟩, _⟩ := blk2 P0.out
  go_enter Try.func5, Try.ntmps5
  go_wp2_with fail
  refine (szAff_is c0 ts0 HX.out.1.1 HX.out.1.2 _ _ (HC.out.1.later LO.out) 1048576 (by omega) (by omega)).mono ?_
  rintro e w1 ⟨rfl, hb⟩
  have P0_1 := Lib.hid (heap_b8 P0.out hb)
  have P1_1 := Lib.hid (heap_b8 P1.out hb)
  have LO_1 := Lib.hid (LO.out.trans (hb.mono LO.out.size))
  clear P0 P1 LO hb y0 y1
  by_cases hd0 : (1048576 : Int) < (asize ts0 : Int)
  · rw [if_pos hd0]
    go_wp2
    go_ret
    exact ⟨rfl, LO_1.out⟩
  rw [if_neg hd0]
  obtain ⟨L0, hL0⟩ : ∃ L : Int, 1048576 - (asize ts0 : Int) = L := ⟨_, rfl⟩
  rw [hL0]
  have hLn_0 : ¬ L0 < 0 := by omega
  have hL0_0 : 0 ≤ L0 := by omega
  have hL1_0 : L0 ≤ 1048576 := by omega
  obtain ⟨⟨y0, y1⟩, _⟩ := blk2 P1_1.out
  go_wp2_with fail
  refine (szAff_is c1 ts1 HX.out.2.1 HX.out.2.2 _ _ (HC.out.2.later LO_1.out) L0 hL0_0 hL1_0).mono ?_
  rintro e w2 ⟨rfl, hb⟩
  have P0_2 := Lib.hid (heap_b8 P0_1.out hb)
  have P1_2 := Lib.hid (heap_b8 P1_1.out hb)
  have LO_2 := Lib.hid (LO_1.out.trans (hb.mono LO_1.out.size))
  clear P0_1 P1_1 LO_1 hb y0 y1
  by_cases hd1 : (L0 : Int) < (asize ts1 : Int)
  · rw [if_pos hd1]
    go_wp2
    go_ret
    exact ⟨rfl, LO_2.out⟩
  rw [if_neg hd1]
  obtain ⟨L1, hL1⟩ : ∃ L : Int, L0 - (asize ts1 : Int) = L := ⟨_, rfl⟩
  rw [hL1]
  have hLn_1 : ¬ L1 < 0 := by omega
  have HI2 := Lib.hid (HI.out (by omega))
  have kn0 : ts0.length ≤ 1048576 := by unfold asize at hd0; omega
  have kn1 : ts1.length ≤ 1048576 := by unfold asize at hd1; omega
  have HK := Lib.hid (And.intro kn0 kn1)
  have HLn := Lib.hid HI2.out.1
  clear hd0 hd1 hL0 hL1 kn0 kn1 hL0_0 hL1_0
  go_wp2_with fail
  go_cut [6, 7] from 6 to 34 (fun x6 x7 wxs => ∃ (p : Nat) (a : Option Addr) (c : Nat), x6 = .pointer (some ⟨p, 0, Option.none⟩) ∧ x7 = .bool ok ∧ wxs.heap[p]? = some (.cells #[.int .i64 dd, .slice a L.length c] 26) ∧ wxs.ownsRow w2.heap.size 59 2 (.slice a L.length c) L.length (acells L) ∧ w2.heap.size ≤ p ∧ Below w2.heap.size w2 wxs)
  case first =>
    have bd : Below w2.heap.size w2 w2.drew := (Below.refl _ w2).drew
    refine wp_region_held_drew (S := Below w2.heap.size w2) (by kernel_rfl) bd (fun hHeld => ?_)
    obtain ⟨wd, Wd⟩ : ∃ wd, Hid (wd = w2.drew) := ⟨_, rfl⟩
    rw [← Wd.out] at hHeld ⊢
    clear Wd bd
    refine wpAnyH_take (i := 0) (v := .agg #[.int .i64 c0, .slice a0 ts0.length k0]) rfl (by kernel_rfl) (by kernel_rfl) (by kernel_rfl) (fun _ _ _ h => h) (Or.inl ⟨by rfl, ?ys0⟩) hHeld ?_
    case ys0 => intro w hSw; obtain ⟨⟨j0, j1⟩, _⟩ := blk2 ((hSw.block _ (lt_of_heap P0_2.out)).trans P0_2.out); go_simp
    simp only [Act.put, List.getElem_toArray, List.getElem_cons_succ, List.getElem_cons_zero, List.setIfInBounds_toArray, List.set_cons_zero, List.set_cons_succ]
    refine wpAnyH_take (i := 2) (v := .agg #[.int .i64 c1, .slice a1 ts1.length k1]) rfl (by kernel_rfl) (by kernel_rfl) (by kernel_rfl) (fun _ _ _ h => h) (Or.inl ⟨by rfl, ?ys2⟩) hHeld ?_
    case ys2 => intro w hSw; obtain ⟨⟨j0, j1⟩, _⟩ := blk2 ((hSw.block _ (lt_of_heap P1_2.out)).trans P1_2.out); go_simp
    simp only [Act.put, List.getElem_toArray, List.getElem_cons_succ, List.getElem_cons_zero, List.setIfInBounds_toArray, List.set_cons_zero, List.set_cons_succ]
    refine wpAnyH_ready (rs := [1, 8]) (by kernel_rfl) (by simp) ?_
    refine AllReadyH.cons rfl (fun K hK => ?_) (AllReadyH.cons rfl (fun K hK => ?_) AllReadyH.nil)
    ·
      rw [if_pos (by rfl)]
      simp only [List.getElem_toArray, List.getElem_cons_succ, List.getElem_cons_zero]
      go_wp2_with fail
      refine (toAff_own c0 ts0 HK.out.1 _ _ (HC.out.1.later (LO_2.out.trans (hHeld.mono LO_2.out.size)))).mono ?_
      rintro e vs1 ⟨uvs1, rfl, own5, hb5⟩
      obtain ⟨x0a, x0c, rfl⟩ := ownShape own5
      have G0vs1 := Lib.hid own5
      clear own5
      go_wp2_with fail
      refine hK.out _ _ (hHeld.trans (hb5.mono hHeld.size)) (fun hHeld => ?_)
      refine wpAnyH_ready (rs := [3, 8]) (by kernel_rfl) (by simp) ?_
      refine AllReadyH.cons rfl (fun K hK => ?_) (AllReadyH.cons rfl (fun K hK => ?_) AllReadyH.nil)
      ·
        rw [if_pos (by rfl)]
        simp only [List.getElem_toArray, List.getElem_cons_succ, List.getElem_cons_zero]
        go_wp2_with fail
        refine (toAff_own c1 ts1 HK.out.2 _ _ (HC.out.2.later (LO_2.out.trans (hHeld.mono LO_2.out.size)))).mono ?_
        rintro e vs2 ⟨uvs2, rfl, own5, hb5⟩
        obtain ⟨x1a, x1c, rfl⟩ := ownShape own5
        have G0vs2 := Lib.hid (own_below8 G0vs1.out hb5)
        have G1vs2 := Lib.hid own5
        clear own5
        go_wp2_with fail
        refine hK.out _ _ (hHeld.trans (hb5.mono hHeld.size)) (fun hHeld => ?_)
        refine wpAnyH_ready (rs := [4, 8]) (by kernel_rfl) (by simp) ?_
        refine AllReadyH.cons rfl (fun K hK => ?_) (AllReadyH.cons rfl (fun K hK => ?_) AllReadyH.nil)
        ·
          rw [if_pos (by rfl)]
          simp only [List.getElem_toArray, List.getElem_cons_succ, List.getElem_cons_zero]
          go_wp2_with fail
          refine (HI2.out.2.1 _ _ _ (AV.ofOwn8 G0vs2.out) (AV.ofOwn8 G1vs2.out)).mono ?_
          rintro e vs3 ⟨uvs3, rfl, own5, hb5⟩
          obtain ⟨xra, xrc, rfl⟩ := ownShape own5
          have GRvs3 := Lib.hid (ownMono8 (B := _) (B' := w2.heap.size) hHeld.size own5)
          clear own5
          go_wp2_with fail
          refine hK.out _ _ (hHeld.trans (hb5.mono hHeld.size)) (fun hHeld => ?_)
          refine wpAnyH_take (i := 5) (v := .tuple #[.agg #[.int .i64 dd, .slice xra L.length xrc], .bool ok]) rfl (by kernel_rfl) (by kernel_rfl) (by kernel_rfl) (fun _ _ _ h => h) (Or.inl ⟨by rfl, ?yvs35⟩) hHeld ?_
          case yvs35 => intro w hSw; go_simp
          simp only [Act.put, List.getElem_toArray, List.getElem_cons_succ, List.getElem_cons_zero, List.setIfInBounds_toArray, List.set_cons_zero, List.set_cons_succ]
          refine wpAnyH_take (i := 6) (v := .agg #[.int .i64 dd, .slice xra L.length xrc]) rfl (by kernel_rfl) (by kernel_rfl) (by kernel_rfl) (fun _ _ _ h => h) (Or.inl ⟨by rfl, ?yvs36⟩) hHeld ?_
          case yvs36 => intro w hSw; go_simp
          simp only [Act.put, List.getElem_toArray, List.getElem_cons_succ, List.getElem_cons_zero, List.setIfInBounds_toArray, List.set_cons_zero, List.set_cons_succ]
          refine wpAnyH_take (i := 7) (v := .bool ok) rfl (by kernel_rfl) (by kernel_rfl) (by kernel_rfl) (fun _ _ _ h => h) (Or.inl ⟨by rfl, ?yvs37⟩) hHeld ?_
          case yvs37 => intro w hSw; go_simp
          simp only [Act.put, List.getElem_toArray, List.getElem_cons_succ, List.getElem_cons_zero, List.setIfInBounds_toArray, List.set_cons_zero, List.set_cons_succ]
          refine wpAnyH_ready (rs := [8]) (by kernel_rfl) (by simp) ?_
          refine AllReadyH.cons rfl (fun K hK => ?_) AllReadyH.nil
          rw [if_pos (by rfl)]
          simp only [List.getElem_toArray, List.getElem_cons_succ, List.getElem_cons_zero]
          go_wp2_with fail
          have hpvs3 : w2.heap.size ≤ vs3.heap.size := hHeld.size
          refine hK.out _ _ (hHeld.trans ((alloc_below vs3 _).mono hHeld.size)) (fun hHeld => ?_)
          have hb5 := alloc_below vs3 (.cells #[.int .i64 0, .slice Option.none 0 0] 26)
          have hh5 := heap_last vs3 (.cells #[.int .i64 0, .slice Option.none 0 0] 26)
          obtain ⟨vs4, Wvs4⟩ : ∃ wz, Hid (wz = vs3.alloc (.cells #[.int .i64 0, .slice Option.none 0 0] 26)) := ⟨_, rfl⟩
          rw [← Wvs4.out] at hHeld hb5 hh5 ⊢
          have GRvs4 := Lib.hid (own_below8 GRvs3.out hb5)
          have PBvs4 := Lib.hid hh5
          clear hb5 hh5 Wvs4
          obtain ⟨⟨e0, e1⟩, f0, f1⟩ := blk2 PBvs4.out
          refine wpAnyH_ready (rs := [9]) (by kernel_rfl) (by simp) ?_
          refine AllReadyH.cons rfl (fun K hK => ?_) AllReadyH.nil
          rw [if_pos (by rfl)]
          simp only [List.getElem_toArray, List.getElem_cons_succ, List.getElem_cons_zero]
          go_wp2_with fail
          have h0 := Go.heap_setCell_same _ _ 0 _ _ (.int .i64 dd) PBvs4.out
          have h1 := Go.heap_setCell_same _ _ 1 _ _ (.slice xra L.length xrc) h0
          have F9 := Lib.hid ((hHeld.setCell (p := ⟨vs3.heap.size, 0, Option.none⟩) hpvs3 (.int .i64 dd)).setCell (p := ⟨vs3.heap.size, 1, Option.none⟩) hpvs3 (.slice xra L.length xrc))
          have O9 := Lib.hid (own_later8 GRvs4.out (fun g c _ hh => (Below.heap_setCell _ ⟨vs3.heap.size, 1, Option.none⟩ (.slice xra L.length xrc) _ (ne_types8 hh PBvs4.out)).trans (Below.heap_setCell _ ⟨vs3.heap.size, 0, Option.none⟩ (.int .i64 dd) _ (ne_types8 hh PBvs4.out))))
          have H9 := Lib.hid h1
          clear h0 h1
          refine hK.out _ _ F9.out (fun hHeld => ?_)
          refine wpAnyH_take (i := 10) (v := .bool ok) rfl (by kernel_rfl) (by kernel_rfl) (by kernel_rfl) (fun _ _ _ h => h) (Or.inl ⟨by rfl, ?yvs610⟩) hHeld ?_
          case yvs610 => intro w hSw; go_simp
          simp only [Act.put, List.getElem_toArray, List.getElem_cons_succ, List.getElem_cons_zero, List.setIfInBounds_toArray, List.set_cons_zero, List.set_cons_succ]
          refine wpAnyH_done (by kernel_rfl) ?_ _
          clear hHeld e0 e1 f0 f1
          go_wp2_with fail
          go_meet
          exact ⟨_, _, _, rfl, rfl, H9.out, O9.out, hpvs3, F9.out⟩
        ·
          rw [if_pos (by rfl)]
          simp only [List.getElem_toArray, List.getElem_cons_succ, List.getElem_cons_zero]
          go_wp2_with fail
          have hpvs2 : w2.heap.size ≤ vs2.heap.size := hHeld.size
          refine hK.out _ _ (hHeld.trans ((alloc_below vs2 _).mono hHeld.size)) (fun hHeld => ?_)
          have hb5 := alloc_below vs2 (.cells #[.int .i64 0, .slice Option.none 0 0] 26)
          have hh5 := heap_last vs2 (.cells #[.int .i64 0, .slice Option.none 0 0] 26)
          obtain ⟨vs7, Wvs7⟩ : ∃ wz, Hid (wz = vs2.alloc (.cells #[.int .i64 0, .slice Option.none 0 0] 26)) := ⟨_, rfl⟩
          rw [← Wvs7.out] at hHeld hb5 hh5 ⊢
          have G0vs7 := Lib.hid (own_below8 G0vs2.out hb5)
          have G1vs7 := Lib.hid (own_below8 G1vs2.out hb5)
          have PBvs7 := Lib.hid hh5
          clear hb5 hh5 Wvs7
          refine wpAnyH_ready (rs := [4]) (by kernel_rfl) (by simp) ?_
          refine AllReadyH.cons rfl (fun K hK => ?_) AllReadyH.nil
          rw [if_pos (by rfl)]
          simp only [List.getElem_toArray, List.getElem_cons_succ, List.getElem_cons_zero]
          go_wp2_with fail
          refine (HI2.out.2.1 _ _ _ (AV.ofOwn8 G0vs7.out) (AV.ofOwn8 G1vs7.out)).mono ?_
          rintro e vs8 ⟨uvs8, rfl, own5, hb5⟩
          obtain ⟨xra, xrc, rfl⟩ := ownShape own5
          have PBvs8 := Lib.hid (heap_b8 PBvs7.out hb5)
          have GRvs8 := Lib.hid (ownMono8 (B := _) (B' := w2.heap.size) hHeld.size own5)
          clear own5
          go_wp2_with fail
          refine hK.out _ _ (hHeld.trans (hb5.mono hHeld.size)) (fun hHeld => ?_)
          refine wpAnyH_take (i := 5) (v := .tuple #[.agg #[.int .i64 dd, .slice xra L.length xrc], .bool ok]) rfl (by kernel_rfl) (by kernel_rfl) (by kernel_rfl) (fun _ _ _ h => h) (Or.inl ⟨by rfl, ?yvs85⟩) hHeld ?_
          case yvs85 => intro w hSw; go_simp
          simp only [Act.put, List.getElem_toArray, List.getElem_cons_succ, List.getElem_cons_zero, List.setIfInBounds_toArray, List.set_cons_zero, List.set_cons_succ]
          refine wpAnyH_take (i := 6) (v := .agg #[.int .i64 dd, .slice xra L.length xrc]) rfl (by kernel_rfl) (by kernel_rfl) (by kernel_rfl) (fun _ _ _ h => h) (Or.inl ⟨by rfl, ?yvs86⟩) hHeld ?_
          case yvs86 => intro w hSw; go_simp
          simp only [Act.put, List.getElem_toArray, List.getElem_cons_succ, List.getElem_cons_zero, List.setIfInBounds_toArray, List.set_cons_zero, List.set_cons_succ]
          refine wpAnyH_take (i := 7) (v := .bool ok) rfl (by kernel_rfl) (by kernel_rfl) (by kernel_rfl) (fun _ _ _ h => h) (Or.inl ⟨by rfl, ?yvs87⟩) hHeld ?_
          case yvs87 => intro w hSw; go_simp
          simp only [Act.put, List.getElem_toArray, List.getElem_cons_succ, List.getElem_cons_zero, List.setIfInBounds_toArray, List.set_cons_zero, List.set_cons_succ]
          obtain ⟨⟨e0, e1⟩, f0, f1⟩ := blk2 PBvs8.out
          refine wpAnyH_ready (rs := [9]) (by kernel_rfl) (by simp) ?_
          refine AllReadyH.cons rfl (fun K hK => ?_) AllReadyH.nil
          rw [if_pos (by rfl)]
          simp only [List.getElem_toArray, List.getElem_cons_succ, List.getElem_cons_zero]
          go_wp2_with fail
          have h0 := Go.heap_setCell_same _ _ 0 _ _ (.int .i64 dd) PBvs8.out
          have h1 := Go.heap_setCell_same _ _ 1 _ _ (.slice xra L.length xrc) h0
          have F9 := Lib.hid ((hHeld.setCell (p := ⟨vs2.heap.size, 0, Option.none⟩) hpvs2 (.int .i64 dd)).setCell (p := ⟨vs2.heap.size, 1, Option.none⟩) hpvs2 (.slice xra L.length xrc))
          have O9 := Lib.hid (own_later8 GRvs8.out (fun g c _ hh => (Below.heap_setCell _ ⟨vs2.heap.size, 1, Option.none⟩ (.slice xra L.length xrc) _ (ne_types8 hh PBvs8.out)).trans (Below.heap_setCell _ ⟨vs2.heap.size, 0, Option.none⟩ (.int .i64 dd) _ (ne_types8 hh PBvs8.out))))
          have H9 := Lib.hid h1
          clear h0 h1
          refine hK.out _ _ F9.out (fun hHeld => ?_)
          refine wpAnyH_take (i := 10) (v := .bool ok) rfl (by kernel_rfl) (by kernel_rfl) (by kernel_rfl) (fun _ _ _ h => h) (Or.inl ⟨by rfl, ?yvs1010⟩) hHeld ?_
          case yvs1010 => intro w hSw; go_simp
          simp only [Act.put, List.getElem_toArray, List.getElem_cons_succ, List.getElem_cons_zero, List.setIfInBounds_toArray, List.set_cons_zero, List.set_cons_succ]
          refine wpAnyH_done (by kernel_rfl) ?_ _
          clear hHeld e0 e1 f0 f1
          go_wp2_with fail
          go_meet
          exact ⟨_, _, _, rfl, rfl, H9.out, O9.out, hpvs2, F9.out⟩
      ·
        rw [if_pos (by rfl)]
        simp only [List.getElem_toArray, List.getElem_cons_succ, List.getElem_cons_zero]
        go_wp2_with fail
        have hpvs1 : w2.heap.size ≤ vs1.heap.size := hHeld.size
        refine hK.out _ _ (hHeld.trans ((alloc_below vs1 _).mono hHeld.size)) (fun hHeld => ?_)
        have hb5 := alloc_below vs1 (.cells #[.int .i64 0, .slice Option.none 0 0] 26)
        have hh5 := heap_last vs1 (.cells #[.int .i64 0, .slice Option.none 0 0] 26)
        obtain ⟨vs11, Wvs11⟩ : ∃ wz, Hid (wz = vs1.alloc (.cells #[.int .i64 0, .slice Option.none 0 0] 26)) := ⟨_, rfl⟩
        rw [← Wvs11.out] at hHeld hb5 hh5 ⊢
        have G0vs11 := Lib.hid (own_below8 G0vs1.out hb5)
        have PBvs11 := Lib.hid hh5
        clear hb5 hh5 Wvs11
        refine wpAnyH_ready (rs := [3]) (by kernel_rfl) (by simp) ?_
        refine AllReadyH.cons rfl (fun K hK => ?_) AllReadyH.nil
        rw [if_pos (by rfl)]
        simp only [List.getElem_toArray, List.getElem_cons_succ, List.getElem_cons_zero]
        go_wp2_with fail
        refine (toAff_own c1 ts1 HK.out.2 _ _ (HC.out.2.later (LO_2.out.trans (hHeld.mono LO_2.out.size)))).mono ?_
        rintro e vs12 ⟨uvs12, rfl, own5, hb5⟩
        obtain ⟨x1a, x1c, rfl⟩ := ownShape own5
        have G0vs12 := Lib.hid (own_below8 G0vs11.out hb5)
        have PBvs12 := Lib.hid (heap_b8 PBvs11.out hb5)
        have G1vs12 := Lib.hid own5
        clear own5
        go_wp2_with fail
        refine hK.out _ _ (hHeld.trans (hb5.mono hHeld.size)) (fun hHeld => ?_)
        refine wpAnyH_ready (rs := [4]) (by kernel_rfl) (by simp) ?_
        refine AllReadyH.cons rfl (fun K hK => ?_) AllReadyH.nil
        rw [if_pos (by rfl)]
        simp only [List.getElem_toArray, List.getElem_cons_succ, List.getElem_cons_zero]
        go_wp2_with fail
        refine (HI2.out.2.1 _ _ _ (AV.ofOwn8 G0vs12.out) (AV.ofOwn8 G1vs12.out)).mono ?_
        rintro e vs13 ⟨uvs13, rfl, own5, hb5⟩
        obtain ⟨xra, xrc, rfl⟩ := ownShape own5
        have PBvs13 := Lib.hid (heap_b8 PBvs12.out hb5)
        have GRvs13 := Lib.hid (ownMono8 (B := _) (B' := w2.heap.size) hHeld.size own5)
        clear own5
        go_wp2_with fail
        refine hK.out _ _ (hHeld.trans (hb5.mono hHeld.size)) (fun hHeld => ?_)
        refine wpAnyH_take (i := 5) (v := .tuple #[.agg #[.int .i64 dd, .slice xra L.length xrc], .bool ok]) rfl (by kernel_rfl) (by kernel_rfl) (by kernel_rfl) (fun _ _ _ h => h) (Or.inl ⟨by rfl, ?yvs135⟩) hHeld ?_
        case yvs135 => intro w hSw; go_simp
        simp only [Act.put, List.getElem_toArray, List.getElem_cons_succ, List.getElem_cons_zero, List.setIfInBounds_toArray, List.set_cons_zero, List.set_cons_succ]
        refine wpAnyH_take (i := 6) (v := .agg #[.int .i64 dd, .slice xra L.length xrc]) rfl (by kernel_rfl) (by kernel_rfl) (by kernel_rfl) (fun _ _ _ h => h) (Or.inl ⟨by rfl, ?yvs136⟩) hHeld ?_
        case yvs136 => intro w hSw; go_simp
        simp only [Act.put, List.getElem_toArray, List.getElem_cons_succ, List.getElem_cons_zero, List.setIfInBounds_toArray, List.set_cons_zero, List.set_cons_succ]
        refine wpAnyH_take (i := 7) (v := .bool ok) rfl (by kernel_rfl) (by kernel_rfl) (by kernel_rfl) (fun _ _ _ h => h) (Or.inl ⟨by rfl, ?yvs137⟩) hHeld ?_
        case yvs137 => intro w hSw; go_simp
        simp only [Act.put, List.getElem_toArray, List.getElem_cons_succ, List.getElem_cons_zero, List.setIfInBounds_toArray, List.set_cons_zero, List.set_cons_succ]
        obtain ⟨⟨e0, e1⟩, f0, f1⟩ := blk2 PBvs13.out
        refine wpAnyH_ready (rs := [9]) (by kernel_rfl) (by simp) ?_
        refine AllReadyH.cons rfl (fun K hK => ?_) AllReadyH.nil
        rw [if_pos (by rfl)]
        simp only [List.getElem_toArray, List.getElem_cons_succ, List.getElem_cons_zero]
        go_wp2_with fail
        have h0 := Go.heap_setCell_same _ _ 0 _ _ (.int .i64 dd) PBvs13.out
        have h1 := Go.heap_setCell_same _ _ 1 _ _ (.slice xra L.length xrc) h0
        have F9 := Lib.hid ((hHeld.setCell (p := ⟨vs1.heap.size, 0, Option.none⟩) hpvs1 (.int .i64 dd)).setCell (p := ⟨vs1.heap.size, 1, Option.none⟩) hpvs1 (.slice xra L.length xrc))
        have O9 := Lib.hid (own_later8 GRvs13.out (fun g c _ hh => (Below.heap_setCell _ ⟨vs1.heap.size, 1, Option.none⟩ (.slice xra L.length xrc) _ (ne_types8 hh PBvs13.out)).trans (Below.heap_setCell _ ⟨vs1.heap.size, 0, Option.none⟩ (.int .i64 dd) _ (ne_types8 hh PBvs13.out))))
        have H9 := Lib.hid h1
        clear h0 h1
        refine hK.out _ _ F9.out (fun hHeld => ?_)
        refine wpAnyH_take (i := 10) (v := .bool ok) rfl (by kernel_rfl) (by kernel_rfl) (by kernel_rfl) (fun _ _ _ h => h) (Or.inl ⟨by rfl, ?yvs1510⟩) hHeld ?_
        case yvs1510 => intro w hSw; go_simp
        simp only [Act.put, List.getElem_toArray, List.getElem_cons_succ, List.getElem_cons_zero, List.setIfInBounds_toArray, List.set_cons_zero, List.set_cons_succ]
        refine wpAnyH_done (by kernel_rfl) ?_ _
        clear hHeld e0 e1 f0 f1
        go_wp2_with fail
        go_meet
        exact ⟨_, _, _, rfl, rfl, H9.out, O9.out, hpvs1, F9.out⟩
    ·
      rw [if_pos (by rfl)]
      simp only [List.getElem_toArray, List.getElem_cons_succ, List.getElem_cons_zero]
      go_wp2_with fail
      have hpwd : w2.heap.size ≤ wd.heap.size := hHeld.size
      refine hK.out _ _ (hHeld.trans ((alloc_below wd _).mono hHeld.size)) (fun hHeld => ?_)
      have hb5 := alloc_below wd (.cells #[.int .i64 0, .slice Option.none 0 0] 26)
      have hh5 := heap_last wd (.cells #[.int .i64 0, .slice Option.none 0 0] 26)
      obtain ⟨vs16, Wvs16⟩ : ∃ wz, Hid (wz = wd.alloc (.cells #[.int .i64 0, .slice Option.none 0 0] 26)) := ⟨_, rfl⟩
      rw [← Wvs16.out] at hHeld hb5 hh5 ⊢
      have PBvs16 := Lib.hid hh5
      clear hb5 hh5 Wvs16
      refine wpAnyH_ready (rs := [1]) (by kernel_rfl) (by simp) ?_
      refine AllReadyH.cons rfl (fun K hK => ?_) AllReadyH.nil
      rw [if_pos (by rfl)]
      simp only [List.getElem_toArray, List.getElem_cons_succ, List.getElem_cons_zero]
      go_wp2_with fail
      refine (toAff_own c0 ts0 HK.out.1 _ _ (HC.out.1.later (LO_2.out.trans (hHeld.mono LO_2.out.size)))).mono ?_
      rintro e vs17 ⟨uvs17, rfl, own5, hb5⟩
      obtain ⟨x0a, x0c, rfl⟩ := ownShape own5
      have PBvs17 := Lib.hid (heap_b8 PBvs16.out hb5)
      have G0vs17 := Lib.hid own5
      clear own5
      go_wp2_with fail
      refine hK.out _ _ (hHeld.trans (hb5.mono hHeld.size)) (fun hHeld => ?_)
      refine wpAnyH_ready (rs := [3]) (by kernel_rfl) (by simp) ?_
      refine AllReadyH.cons rfl (fun K hK => ?_) AllReadyH.nil
      rw [if_pos (by rfl)]
      simp only [List.getElem_toArray, List.getElem_cons_succ, List.getElem_cons_zero]
      go_wp2_with fail
      refine (toAff_own c1 ts1 HK.out.2 _ _ (HC.out.2.later (LO_2.out.trans (hHeld.mono LO_2.out.size)))).mono ?_
      rintro e vs18 ⟨uvs18, rfl, own5, hb5⟩
      obtain ⟨x1a, x1c, rfl⟩ := ownShape own5
      have PBvs18 := Lib.hid (heap_b8 PBvs17.out hb5)
      have G0vs18 := Lib.hid (own_below8 G0vs17.out hb5)
      have G1vs18 := Lib.hid own5
      clear own5
      go_wp2_with fail
      refine hK.out _ _ (hHeld.trans (hb5.mono hHeld.size)) (fun hHeld => ?_)
      refine wpAnyH_ready (rs := [4]) (by kernel_rfl) (by simp) ?_
      refine AllReadyH.cons rfl (fun K hK => ?_) AllReadyH.nil
      rw [if_pos (by rfl)]
      simp only [List.getElem_toArray, List.getElem_cons_succ, List.getElem_cons_zero]
      go_wp2_with fail
      refine (HI2.out.2.1 _ _ _ (AV.ofOwn8 G0vs18.out) (AV.ofOwn8 G1vs18.out)).mono ?_
      rintro e vs19 ⟨uvs19, rfl, own5, hb5⟩
      obtain ⟨xra, xrc, rfl⟩ := ownShape own5
      have PBvs19 := Lib.hid (heap_b8 PBvs18.out hb5)
      have GRvs19 := Lib.hid (ownMono8 (B := _) (B' := w2.heap.size) hHeld.size own5)
      clear own5
      go_wp2_with fail
      refine hK.out _ _ (hHeld.trans (hb5.mono hHeld.size)) (fun hHeld => ?_)
      refine wpAnyH_take (i := 5) (v := .tuple #[.agg #[.int .i64 dd, .slice xra L.length xrc], .bool ok]) rfl (by kernel_rfl) (by kernel_rfl) (by kernel_rfl) (fun _ _ _ h => h) (Or.inl ⟨by rfl, ?yvs195⟩) hHeld ?_
      case yvs195 => intro w hSw; go_simp
      simp only [Act.put, List.getElem_toArray, List.getElem_cons_succ, List.getElem_cons_zero, List.setIfInBounds_toArray, List.set_cons_zero, List.set_cons_succ]
      refine wpAnyH_take (i := 6) (v := .agg #[.int .i64 dd, .slice xra L.length xrc]) rfl (by kernel_rfl) (by kernel_rfl) (by kernel_rfl) (fun _ _ _ h => h) (Or.inl ⟨by rfl, ?yvs196⟩) hHeld ?_
      case yvs196 => intro w hSw; go_simp
      simp only [Act.put, List.getElem_toArray, List.getElem_cons_succ, List.getElem_cons_zero, List.setIfInBounds_toArray, List.set_cons_zero, List.set_cons_succ]
      refine wpAnyH_take (i := 7) (v := .bool ok) rfl (by kernel_rfl) (by kernel_rfl) (by kernel_rfl) (fun _ _ _ h => h) (Or.inl ⟨by rfl, ?yvs197⟩) hHeld ?_
      case yvs197 => intro w hSw; go_simp
      simp only [Act.put, List.getElem_toArray, List.getElem_cons_succ, List.getElem_cons_zero, List.setIfInBounds_toArray, List.set_cons_zero, List.set_cons_succ]
      obtain ⟨⟨e0, e1⟩, f0, f1⟩ := blk2 PBvs19.out
      refine wpAnyH_ready (rs := [9]) (by kernel_rfl) (by simp) ?_
      refine AllReadyH.cons rfl (fun K hK => ?_) AllReadyH.nil
      rw [if_pos (by rfl)]
      simp only [List.getElem_toArray, List.getElem_cons_succ, List.getElem_cons_zero]
      go_wp2_with fail
      have h0 := Go.heap_setCell_same _ _ 0 _ _ (.int .i64 dd) PBvs19.out
      have h1 := Go.heap_setCell_same _ _ 1 _ _ (.slice xra L.length xrc) h0
      have F9 := Lib.hid ((hHeld.setCell (p := ⟨wd.heap.size, 0, Option.none⟩) hpwd (.int .i64 dd)).setCell (p := ⟨wd.heap.size, 1, Option.none⟩) hpwd (.slice xra L.length xrc))
      have O9 := Lib.hid (own_later8 GRvs19.out (fun g c _ hh => (Below.heap_setCell _ ⟨wd.heap.size, 1, Option.none⟩ (.slice xra L.length xrc) _ (ne_types8 hh PBvs19.out)).trans (Below.heap_setCell _ ⟨wd.heap.size, 0, Option.none⟩ (.int .i64 dd) _ (ne_types8 hh PBvs19.out))))
      have H9 := Lib.hid h1
      clear h0 h1
      refine hK.out _ _ F9.out (fun hHeld => ?_)
      refine wpAnyH_take (i := 10) (v := .bool ok) rfl (by kernel_rfl) (by kernel_rfl) (by kernel_rfl) (fun _ _ _ h => h) (Or.inl ⟨by rfl, ?yvs2110⟩) hHeld ?_
      case yvs2110 => intro w hSw; go_simp
      simp only [Act.put, List.getElem_toArray, List.getElem_cons_succ, List.getElem_cons_zero, List.setIfInBounds_toArray, List.set_cons_zero, List.set_cons_succ]
      refine wpAnyH_done (by kernel_rfl) ?_ _
      clear hHeld e0 e1 f0 f1
      go_wp2_with fail
      go_meet
      exact ⟨_, _, _, rfl, rfl, H9.out, O9.out, hpwd, F9.out⟩
  case rest =>
    obtain ⟨wxs, hwx⟩ : ∃ z, z = wc := ⟨_, rfl⟩
    subst hwx
    obtain ⟨p6, ra, rc, rfl, rfl, hb6, ho6, hp6, hb⟩ := hcut
    have hs3 : w.heap.size + 1 < wxs.heap.size := Nat.lt_of_lt_of_le (lt_of_heap P1_2.out) hb.size
    have P0_3 := Lib.hid (heap_b8 P0_2.out hb)
    have P1_3 := Lib.hid (heap_b8 P1_2.out hb)
    have LO_3 := Lib.hid (LO_2.out.trans (hb.mono LO_2.out.size))
    clear P0_2 P1_2 LO_2 
    have B6 := Lib.hid hb6
    have O6 := Lib.hid ho6
    have I6 := Lib.hid ho6.lt
    have hl6 : p6 < wxs.heap.size := lt_of_heap hb6
    clear hb hb6 ho6 hp6
    obtain ⟨⟨y0, y1⟩, _⟩ := blk2 (P0_3.out)
    go_wp2_with fail
    refine (toAff_own c0 ts0 HK.out.1 _ _ (HC.out.1.later LO_3.out)).mono ?_
    rintro e w5 ⟨u5, rfl, own5, hb⟩
    obtain ⟨x0a, x0c, rfl⟩ := ownShape own5
    have hs5 := hb.size
    have P0_4 := Lib.hid (heap_b8 P0_3.out hb)
    have P1_4 := Lib.hid (heap_b8 P1_3.out hb)
    have LO_4 := Lib.hid (LO_3.out.trans (hb.mono LO_3.out.size))
    have B6_4 := Lib.hid (heap_b8 B6.out hb)
    have O6_4 := Lib.hid (own_below8 O6.out hb)
    clear P0_3 P1_3 LO_3 B6 O6 y0 y1
    have O8 := Lib.hid own5
    have I8 := Lib.hid own5.lt
    clear hb own5
    have ba := alloc_below w5 (.cells #[.int .i64 c0, .slice x0a ts0.length x0c] 26)
    obtain ⟨⟨y0, y1⟩, _⟩ := blk2 (heap_b8 P1_4.out ba)
    go_wp2_with fail
    refine (toAff_own c1 ts1 HK.out.2 _ _ (HC.out.2.later (LO_4.out.trans (ba.mono LO_4.out.size)))).mono ?_
    rintro e w6 ⟨u6, rfl, own6, hb6⟩
    obtain ⟨x1a, x1c, rfl⟩ := ownShape own6
    have hb := below_alloc hb6
    have hh8 := (hb6.block _ (by simp)).trans (heap_last w5 (.cells #[.int .i64 c0, .slice x0a ts0.length x0c] 26))
    have hs6 : w5.heap.size + 1 ≤ w6.heap.size := by have := hb6.size; rwa [World.size_alloc] at this
    have P0_5 := Lib.hid (heap_b8 P0_4.out hb)
    have P1_5 := Lib.hid (heap_b8 P1_4.out hb)
    have LO_5 := Lib.hid (LO_4.out.trans (hb.mono LO_4.out.size))
    have B6_5 := Lib.hid (heap_b8 B6_4.out hb)
    have O6_5 := Lib.hid (own_below8 O6_4.out hb)
    have O8_5 := Lib.hid (own_below8 O8.out hb)
    clear P0_4 P1_4 LO_4 B6_4 O6_4 O8 y0 y1
    have O9 := Lib.hid (ownMono8 (B' := w5.heap.size + 1) (by simp) own6)
    have I9 := Lib.hid O9.out.lt
    have B8 := Lib.hid hh8
    clear hb hb6 own6 hh8 ba
    have ba := alloc_below w6 (.cells #[.int .i64 c1, .slice x1a ts1.length x1c] 26)
    obtain ⟨⟨y0, y1⟩, _⟩ := blk2 (heap_b8 B8.out ba)
    obtain ⟨⟨y2, y3⟩, _⟩ := blk2 (heap_last w6 (.cells #[.int .i64 c1, .slice x1a ts1.length x1c] 26))
    go_wp2_with fail
    refine (HI2.out.2.2 _ _ _ (AV.ofOwn8 (own_below8 O8_5.out ba)) (AV.ofOwn8 (own_below8 O9.out ba)) (capOwn8 O8_5.out) (capOwn8 O9.out)).mono ?_
    rintro e w7 ⟨u7, rfl, own7, hb7⟩
    obtain ⟨ga, gc, rfl⟩ := ownShape own7
    have hb := below_alloc hb7
    have hh9 := (hb7.block _ (by simp)).trans (heap_last w6 (.cells #[.int .i64 c1, .slice x1a ts1.length x1c] 26))
    have hs7 : w6.heap.size + 1 ≤ w7.heap.size := by have := hb7.size; rwa [World.size_alloc] at this
    have P0_6 := Lib.hid (heap_b8 P0_5.out hb)
    have P1_6 := Lib.hid (heap_b8 P1_5.out hb)
    have LO_6 := Lib.hid (LO_5.out.trans (hb.mono LO_5.out.size))
    have B6_6 := Lib.hid (heap_b8 B6_5.out hb)
    have O6_6 := Lib.hid (own_below8 O6_5.out hb)
    have O8_6 := Lib.hid (own_below8 O8_5.out hb)
    have O9_6 := Lib.hid (own_below8 O9.out hb)
    have B8_6 := Lib.hid (heap_b8 B8.out hb)
    clear P0_5 P1_5 LO_5 B6_5 O6_5 O8_5 O9 B8 y0 y1 y2 y3
    have O10 := Lib.hid (ownMono8 (B' := w6.heap.size + 1) (by simp) own7)
    have I10 := Lib.hid O10.out.lt
    have B9 := Lib.hid hh9
    clear hb hb7 own7 hh9 ba
    have JS : Hid (p6 < wxs.heap.size ∧ w.heap.size + 1 < wxs.heap.size ∧ wxs.heap.size ≤ w5.heap.size ∧ w5.heap.size + 1 ≤ w6.heap.size ∧ w6.heap.size + 1 ≤ w7.heap.size) := ⟨hl6, hs3, hs5, hs6, hs7⟩
    have hL : L.length ≤ 1048576 := HLn.out
    clear hl6 hs3 hs5 hs6 hs7
    have ba := alloc_below w7 (.cells #[.int .i64 dd, .slice ga L.length gc] 26)
    obtain ⟨⟨y0, y1⟩, _⟩ := blk2 (heap_last w7 (.cells #[.int .i64 dd, .slice ga L.length gc] 26))
    obtain ⟨⟨y2, y3⟩, _⟩ := blk2 (heap_b8 B6_6.out ba)
    go_wp2_with fail
    refine (eqAff_same dd L (by omega) _ _ _ (AV.ofOwn8 (own_below8 O10.out ba)) (AV.ofOwn8 (own_below8 O6_6.out ba))).mono ?_
    rintro e w8 ⟨rfl, hb8⟩
    have hb := below_alloc hb8
    have hh10 := (hb8.block _ (by simp)).trans (heap_last w7 (.cells #[.int .i64 dd, .slice ga L.length gc] 26))
    have P0_7 := Lib.hid (heap_b8 P0_6.out hb)
    have P1_7 := Lib.hid (heap_b8 P1_6.out hb)
    have LO_7 := Lib.hid (LO_6.out.trans (hb.mono LO_6.out.size))
    have B6_7 := Lib.hid (heap_b8 B6_6.out hb)
    have O6_7 := Lib.hid (own_below8 O6_6.out hb)
    have O8_7 := Lib.hid (own_below8 O8_6.out hb)
    have O9_7 := Lib.hid (own_below8 O9_6.out hb)
    have B8_7 := Lib.hid (heap_b8 B8_6.out hb)
    have O10_7 := Lib.hid (own_below8 O10.out hb)
    have B9_7 := Lib.hid (heap_b8 B9.out hb)
    clear P0_6 P1_6 LO_6 B6_6 O6_6 O8_6 O9_6 B8_6 O10 B9 y0 y1 y2 y3
    have B10 := Lib.hid hh10
    clear hb hb8 hh10 ba
    go_wp2_with fail
    have bd : Below w8.heap.size w8 w8.drew := (Below.refl _ w8).drew
    refine wp_region_held_drew (S := Below w8.heap.size w8) (by kernel_rfl) bd (fun hHeld => ?_)
    clear bd
    refine wpAnyH_take (i := 0) (v := .agg #[.int .i64 c0, .slice x0a ts0.length x0c]) rfl (by kernel_rfl) (by kernel_rfl) (by kernel_rfl) (fun _ _ _ h => h) (Or.inl ⟨by rfl, ?yn00⟩) hHeld ?_
    case yn00 => intro w hSw; obtain ⟨⟨j0, j1⟩, _⟩ := blk2 ((hSw.block _ (lt_of_heap B8_7.out)).trans B8_7.out); go_simp
    simp only [Act.put, List.getElem_toArray, List.getElem_cons_succ, List.getElem_cons_zero, List.setIfInBounds_toArray, List.set_cons_zero, List.set_cons_succ]
    refine wpAnyH_take (i := 1) (v := .agg #[.int .i64 c0, .slice a0 ts0.length k0]) rfl (by kernel_rfl) (by kernel_rfl) (by kernel_rfl) (fun _ _ _ h => h) (Or.inl ⟨by rfl, ?yn01⟩) hHeld ?_
    case yn01 => intro w hSw; obtain ⟨⟨j0, j1⟩, _⟩ := blk2 ((hSw.block _ (lt_of_heap P0_7.out)).trans P0_7.out); go_simp
    simp only [Act.put, List.getElem_toArray, List.getElem_cons_succ, List.getElem_cons_zero, List.setIfInBounds_toArray, List.set_cons_zero, List.set_cons_succ]
    refine wpAnyH_ready (rs := [2]) (by kernel_rfl) (by simp) ?_
    refine AllReadyH.cons rfl (fun K hK => ?_) AllReadyH.nil
    rw [if_pos (by rfl)]
    simp only [List.getElem_toArray, List.getElem_cons_succ, List.getElem_cons_zero]
    go_wp2_with fail
    refine (toAff_is c0 ts0 HK.out.1 _ _ (HC.out.1.later (LO_7.out.trans (hHeld.mono LO_7.out.size)))).mono ?_
    rintro e wb ⟨ub, rfl, gb, hbb⟩
    go_wp2_with fail
    refine hK.out _ _ (hHeld.trans (hbb.mono hHeld.size)) (fun hHeld => ?_)
    refine wpAnyH_ready (rs := [3]) (by kernel_rfl) (by simp) ?_
    refine AllReadyH.cons rfl (fun K hK => ?_) AllReadyH.nil
    rw [if_pos (by rfl)]
    simp only [List.getElem_toArray, List.getElem_cons_succ, List.getElem_cons_zero]
    go_wp2_with fail
    refine (eqAff_same c0 ts0 (by have := HK.out.1; omega) _ _ _ (AV.ofOwn8 (own_below8 O8_7.out hHeld)) gb.low).mono ?_
    rintro e wn0 ⟨rfl, hbc⟩
    go_wp2_with fail
    refine hK.out _ _ (hHeld.trans (hbc.mono hHeld.size)) (fun hHeld => ?_)
    refine wpAnyH_take (i := 4) (v := .bool false) rfl (by kernel_rfl) (by kernel_rfl) (by kernel_rfl) (fun _ _ _ h => h) (Or.inl ⟨by rfl, ?ym04⟩) hHeld ?_
    case ym04 => intro w hSw; go_simp
    simp only [Act.put, List.getElem_toArray, List.getElem_cons_succ, List.getElem_cons_zero, List.setIfInBounds_toArray, List.set_cons_zero, List.set_cons_succ]
    refine wpAnyH_done (by kernel_rfl) ?_ _
    clear gb hbb hbc
    have P0_8 := Lib.hid (heap_b8 P0_7.out hHeld)
    have P1_8 := Lib.hid (heap_b8 P1_7.out hHeld)
    have LO_8 := Lib.hid (LO_7.out.trans (hHeld.mono LO_7.out.size))
    have B6_8 := Lib.hid (heap_b8 B6_7.out hHeld)
    have O6_8 := Lib.hid (own_below8 O6_7.out hHeld)
    have O8_8 := Lib.hid (own_below8 O8_7.out hHeld)
    have O9_8 := Lib.hid (own_below8 O9_7.out hHeld)
    have B8_8 := Lib.hid (heap_b8 B8_7.out hHeld)
    have O10_8 := Lib.hid (own_below8 O10_7.out hHeld)
    have B9_8 := Lib.hid (heap_b8 B9_7.out hHeld)
    have B10_8 := Lib.hid (heap_b8 B10.out hHeld)
    clear P0_7 P1_7 LO_7 B6_7 O6_7 O8_7 O9_7 B8_7 O10_7 B9_7 B10 hHeld
    go_wp2_with fail
    have bd : Below wn0.heap.size wn0 wn0.drew := (Below.refl _ wn0).drew
    refine wp_region_held_drew (S := Below wn0.heap.size wn0) (by kernel_rfl) bd (fun hHeld => ?_)
    clear bd
    refine wpAnyH_take (i := 0) (v := .agg #[.int .i64 c1, .slice x1a ts1.length x1c]) rfl (by kernel_rfl) (by kernel_rfl) (by kernel_rfl) (fun _ _ _ h => h) (Or.inl ⟨by rfl, ?yn10⟩) hHeld ?_
    case yn10 => intro w hSw; obtain ⟨⟨j0, j1⟩, _⟩ := blk2 ((hSw.block _ (lt_of_heap B9_8.out)).trans B9_8.out); go_simp
    simp only [Act.put, List.getElem_toArray, List.getElem_cons_succ, List.getElem_cons_zero, List.setIfInBounds_toArray, List.set_cons_zero, List.set_cons_succ]
    refine wpAnyH_take (i := 1) (v := .agg #[.int .i64 c1, .slice a1 ts1.length k1]) rfl (by kernel_rfl) (by kernel_rfl) (by kernel_rfl) (fun _ _ _ h => h) (Or.inl ⟨by rfl, ?yn11⟩) hHeld ?_
    case yn11 => intro w hSw; obtain ⟨⟨j0, j1⟩, _⟩ := blk2 ((hSw.block _ (lt_of_heap P1_8.out)).trans P1_8.out); go_simp
    simp only [Act.put, List.getElem_toArray, List.getElem_cons_succ, List.getElem_cons_zero, List.setIfInBounds_toArray, List.set_cons_zero, List.set_cons_succ]
    refine wpAnyH_ready (rs := [2]) (by kernel_rfl) (by simp) ?_
    refine AllReadyH.cons rfl (fun K hK => ?_) AllReadyH.nil
    rw [if_pos (by rfl)]
    simp only [List.getElem_toArray, List.getElem_cons_succ, List.getElem_cons_zero]
    go_wp2_with fail
    refine (toAff_is c1 ts1 HK.out.2 _ _ (HC.out.2.later (LO_8.out.trans (hHeld.mono LO_8.out.size)))).mono ?_
    rintro e wb ⟨ub, rfl, gb, hbb⟩
    go_wp2_with fail
    refine hK.out _ _ (hHeld.trans (hbb.mono hHeld.size)) (fun hHeld => ?_)
    refine wpAnyH_ready (rs := [3]) (by kernel_rfl) (by simp) ?_
    refine AllReadyH.cons rfl (fun K hK => ?_) AllReadyH.nil
    rw [if_pos (by rfl)]
    simp only [List.getElem_toArray, List.getElem_cons_succ, List.getElem_cons_zero]
    go_wp2_with fail
    refine (eqAff_same c1 ts1 (by have := HK.out.2; omega) _ _ _ (AV.ofOwn8 (own_below8 O9_8.out hHeld)) gb.low).mono ?_
    rintro e wn1 ⟨rfl, hbc⟩
    go_wp2_with fail
    refine hK.out _ _ (hHeld.trans (hbc.mono hHeld.size)) (fun hHeld => ?_)
    refine wpAnyH_take (i := 4) (v := .bool false) rfl (by kernel_rfl) (by kernel_rfl) (by kernel_rfl) (fun _ _ _ h => h) (Or.inl ⟨by rfl, ?ym14⟩) hHeld ?_
    case ym14 => intro w hSw; go_simp
    simp only [Act.put, List.getElem_toArray, List.getElem_cons_succ, List.getElem_cons_zero, List.setIfInBounds_toArray, List.set_cons_zero, List.set_cons_succ]
    refine wpAnyH_done (by kernel_rfl) ?_ _
    clear gb hbb hbc
    have P0_9 := Lib.hid (heap_b8 P0_8.out hHeld)
    have P1_9 := Lib.hid (heap_b8 P1_8.out hHeld)
    have LO_9 := Lib.hid (LO_8.out.trans (hHeld.mono LO_8.out.size))
    have B6_9 := Lib.hid (heap_b8 B6_8.out hHeld)
    have O6_9 := Lib.hid (own_below8 O6_8.out hHeld)
    have O8_9 := Lib.hid (own_below8 O8_8.out hHeld)
    have O9_9 := Lib.hid (own_below8 O9_8.out hHeld)
    have B8_9 := Lib.hid (heap_b8 B8_8.out hHeld)
    have O10_9 := Lib.hid (own_below8 O10_8.out hHeld)
    have B9_9 := Lib.hid (heap_b8 B9_8.out hHeld)
    have B10_9 := Lib.hid (heap_b8 B10_8.out hHeld)
    clear P0_8 P1_8 LO_8 B6_8 O6_8 O8_8 O9_8 B8_8 O10_8 B9_8 B10_8 hHeld
    obtain ⟨⟨y0, y1⟩, _⟩ := blk2 B8_9.out
    go_wp2_with fail
    refine (markAff_r c0 ts0 1 _ (by rfl) (by omega) (by have := HK.out.1; omega) _ _ _ O8_9.out).mono ?_
    rintro e w11 ⟨r1, rfl, hr1, om, hg⟩
    have P0_10 := Lib.hid (heap_g8 P0_9.out hg (fun e => by have h1 := I8.out _ e; have h3 := JS.out; omega))
    have P1_10 := Lib.hid (heap_g8 P1_9.out hg (fun e => by have h1 := I8.out _ e; have h3 := JS.out; omega))
    have LO_10 := Lib.hid (low_g8 LO_9.out hg (Nat.le_refl _) (fun k e => by have h1 := I8.out _ e; have h3 := JS.out; omega))
    have B6_10 := Lib.hid (heap_g8 B6_9.out hg (fun e => by have h1 := I8.out _ e; have h3 := JS.out; omega))
    have O6_10 := Lib.hid (own_g8 O6_9.out hg (fun k e1 e2 => by have h1 := I8.out _ e2; have h2 := I6.out _ e1; have h3 := JS.out; omega))
    have O9_10 := Lib.hid (own_g8 O9_9.out hg (fun k e1 e2 => by have h1 := I8.out _ e2; have h2 := I9.out _ e1; have h3 := JS.out; omega))
    have B8_10 := Lib.hid (heap_g8 B8_9.out hg (fun e => by have h1 := I8.out _ e; have h3 := JS.out; omega))
    have O10_10 := Lib.hid (own_g8 O10_9.out hg (fun k e1 e2 => by have h1 := I8.out _ e2; have h2 := I10.out _ e1; have h3 := JS.out; omega))
    have B9_10 := Lib.hid (heap_g8 B9_9.out hg (fun e => by have h1 := I8.out _ e; have h3 := JS.out; omega))
    have B10_10 := Lib.hid (heap_g8 B10_9.out hg (fun e => by have h1 := I8.out _ e; have h3 := JS.out; omega))
    clear P0_9 P1_9 LO_9 B6_9 O6_9 O9_9 B8_9 O10_9 B9_9 B10_9 y0 y1
    have N8 := Lib.hid om
    clear om hg
    clear O8_9
    obtain ⟨⟨y0, y1⟩, _⟩ := blk2 B9_10.out
    go_wp2_with fail
    refine (markAff_r c1 ts1 (1 + 2 * ts0.length) _ (by have := hr1.out; omega) (by omega) (by have h1 := HK.out.1; have h2 := HK.out.2; omega) _ _ _ O9_10.out).mono ?_
    rintro e w12 ⟨r2, rfl, hr2, om, hg⟩
    have P0_11 := Lib.hid (heap_g8 P0_10.out hg (fun e => by have h1 := I9.out _ e; have h3 := JS.out; omega))
    have P1_11 := Lib.hid (heap_g8 P1_10.out hg (fun e => by have h1 := I9.out _ e; have h3 := JS.out; omega))
    have LO_11 := Lib.hid (low_g8 LO_10.out hg (Nat.le_refl _) (fun k e => by have h1 := I9.out _ e; have h3 := JS.out; omega))
    have B6_11 := Lib.hid (heap_g8 B6_10.out hg (fun e => by have h1 := I9.out _ e; have h3 := JS.out; omega))
    have O6_11 := Lib.hid (own_g8 O6_10.out hg (fun k e1 e2 => by have h1 := I9.out _ e2; have h2 := I6.out _ e1; have h3 := JS.out; omega))
    have B8_11 := Lib.hid (heap_g8 B8_10.out hg (fun e => by have h1 := I9.out _ e; have h3 := JS.out; omega))
    have O10_11 := Lib.hid (own_g8 O10_10.out hg (fun k e1 e2 => by have h1 := I9.out _ e2; have h2 := I10.out _ e1; have h3 := JS.out; omega))
    have B9_11 := Lib.hid (heap_g8 B9_10.out hg (fun e => by have h1 := I9.out _ e; have h3 := JS.out; omega))
    have B10_11 := Lib.hid (heap_g8 B10_10.out hg (fun e => by have h1 := I9.out _ e; have h3 := JS.out; omega))
    clear P0_10 P1_10 LO_10 B6_10 O6_10 B8_10 O10_10 B9_10 B10_10 y0 y1
    have hr2n : ¬ r2 < 0 := by have := hr2.out; omega
    clear om hg O9_10 N8
    obtain ⟨⟨y0, y1⟩, _⟩ := blk2 B10_11.out
    obtain ⟨⟨y2, y3⟩, _⟩ := blk2 B6_11.out
    go_wp2_with fail
    refine (eqAff_same dd L (by omega) _ _ _ (AV.ofOwn8 O10_11.out) (AV.ofOwn8 O6_11.out)).mono ?_
    rintro e w13 ⟨rfl, hb⟩
    have P0_12 := Lib.hid (heap_b8 P0_11.out hb)
    have P1_12 := Lib.hid (heap_b8 P1_11.out hb)
    have LO_12 := Lib.hid (LO_11.out.trans (hb.mono LO_11.out.size))
    have B6_12 := Lib.hid (heap_b8 B6_11.out hb)
    have O6_12 := Lib.hid (own_below8 O6_11.out hb)
    have B8_12 := Lib.hid (heap_b8 B8_11.out hb)
    have O10_12 := Lib.hid (own_below8 O10_11.out hb)
    have B9_12 := Lib.hid (heap_b8 B9_11.out hb)
    have B10_12 := Lib.hid (heap_b8 B10_11.out hb)
    clear P0_11 P1_11 LO_11 B6_11 O6_11 B8_11 O10_11 B9_11 B10_11 hb y0 y1 y2 y3
    obtain ⟨⟨y0, y1⟩, _⟩ := blk2 B10_12.out
    go_wp2_with fail
    refine (markAff_r dd L 1 _ (by rfl) (by omega) (by omega) _ _ _ O10_12.out).mono ?_
    rintro e w14 ⟨r3, rfl, hr3, om, hg⟩
    have P0_13 := Lib.hid (heap_g8 P0_12.out hg (fun e => by have h1 := I10.out _ e; have h3 := JS.out; omega))
    have P1_13 := Lib.hid (heap_g8 P1_12.out hg (fun e => by have h1 := I10.out _ e; have h3 := JS.out; omega))
    have LO_13 := Lib.hid (low_g8 LO_12.out hg (Nat.le_refl _) (fun k e => by have h1 := I10.out _ e; have h3 := JS.out; omega))
    have B6_13 := Lib.hid (heap_g8 B6_12.out hg (fun e => by have h1 := I10.out _ e; have h3 := JS.out; omega))
    have O6_13 := Lib.hid (own_g8 O6_12.out hg (fun k e1 e2 => by have h1 := I10.out _ e2; have h2 := I6.out _ e1; have h3 := JS.out; omega))
    have B8_13 := Lib.hid (heap_g8 B8_12.out hg (fun e => by have h1 := I10.out _ e; have h3 := JS.out; omega))
    have B9_13 := Lib.hid (heap_g8 B9_12.out hg (fun e => by have h1 := I10.out _ e; have h3 := JS.out; omega))
    have B10_13 := Lib.hid (heap_g8 B10_12.out hg (fun e => by have h1 := I10.out _ e; have h3 := JS.out; omega))
    clear P0_12 P1_12 LO_12 B6_12 O6_12 B8_12 B9_12 B10_12 y0 y1
    have O11 := Lib.hid om
    have hr3n : ¬ r3 < 0 := by have := hr3.out; omega
    clear om hg O10_12
    obtain ⟨⟨y0, y1⟩, _⟩ := blk2 B10_13.out
    go_wp2_with fail
    refine (heldAff_r dd L.length 1 r3 _ hr3.out (by rfl) (by omega) (by omega) _ _ (slack8 O11.out (marks8_len _ _).symm)).mono ?_
    rintro e w15 ⟨rfl, hb⟩
    have P0_14 := Lib.hid (heap_b8 P0_13.out hb)
    have P1_14 := Lib.hid (heap_b8 P1_13.out hb)
    have LO_14 := Lib.hid (LO_13.out.trans (hb.mono LO_13.out.size))
    have B6_14 := Lib.hid (heap_b8 B6_13.out hb)
    have O6_14 := Lib.hid (own_below8 O6_13.out hb)
    have B8_14 := Lib.hid (heap_b8 B8_13.out hb)
    have B9_14 := Lib.hid (heap_b8 B9_13.out hb)
    have B10_14 := Lib.hid (heap_b8 B10_13.out hb)
    have O11_14 := Lib.hid (own_below8 O11.out hb)
    clear P0_13 P1_13 LO_13 B6_13 O6_13 B8_13 B9_13 B10_13 O11 hb y0 y1
    go_wp2_with fail
    go_cut [15, 16] from 15 to 101 (fun x6 x7 wxi => ∃ (p : Nat) (a : Option Addr) (c : Nat), x6 = .pointer (some ⟨p, 0, Option.none⟩) ∧ x7 = .bool ok ∧ wxi.heap[p]? = some (.cells #[.int .i64 dd, .slice a L.length c] 26) ∧ wxi.ownsRow w15.heap.size 59 2 (.slice a L.length c) L.length (acells L) ∧ w15.heap.size ≤ p ∧ Below w15.heap.size w15 wxi)
    case first =>
      have bd : Below w15.heap.size w15 w15.drew := (Below.refl _ w15).drew
      refine wp_region_held_drew (S := Below w15.heap.size w15) (by kernel_rfl) bd (fun hHeld => ?_)
      obtain ⟨wd, Wd⟩ : ∃ wd, Hid (wd = w15.drew) := ⟨_, rfl⟩
      rw [← Wd.out] at hHeld ⊢
      clear Wd bd
      refine wpAnyH_take (i := 0) (v := .agg #[.int .i64 c0, .slice a0 ts0.length k0]) rfl (by kernel_rfl) (by kernel_rfl) (by kernel_rfl) (fun _ _ _ h => h) (Or.inl ⟨by rfl, ?yi0⟩) hHeld ?_
      case yi0 => intro w hSw; obtain ⟨⟨j0, j1⟩, _⟩ := blk2 ((hSw.block _ (lt_of_heap P0_14.out)).trans P0_14.out); go_simp
      simp only [Act.put, List.getElem_toArray, List.getElem_cons_succ, List.getElem_cons_zero, List.setIfInBounds_toArray, List.set_cons_zero, List.set_cons_succ]
      refine wpAnyH_take (i := 2) (v := .agg #[.int .i64 c1, .slice a1 ts1.length k1]) rfl (by kernel_rfl) (by kernel_rfl) (by kernel_rfl) (fun _ _ _ h => h) (Or.inl ⟨by rfl, ?yi2⟩) hHeld ?_
      case yi2 => intro w hSw; obtain ⟨⟨j0, j1⟩, _⟩ := blk2 ((hSw.block _ (lt_of_heap P1_14.out)).trans P1_14.out); go_simp
      simp only [Act.put, List.getElem_toArray, List.getElem_cons_succ, List.getElem_cons_zero, List.setIfInBounds_toArray, List.set_cons_zero, List.set_cons_succ]
      refine wpAnyH_ready (rs := [1, 8]) (by kernel_rfl) (by simp) ?_
      refine AllReadyH.cons rfl (fun K hK => ?_) (AllReadyH.cons rfl (fun K hK => ?_) AllReadyH.nil)
      ·
        rw [if_pos (by rfl)]
        simp only [List.getElem_toArray, List.getElem_cons_succ, List.getElem_cons_zero]
        go_wp2_with fail
        refine (toAff_own c0 ts0 HK.out.1 _ _ (HC.out.1.later (LO_14.out.trans (hHeld.mono LO_14.out.size)))).mono ?_
        rintro e vi1 ⟨uvi1, rfl, own5, hb5⟩
        obtain ⟨x0a, x0c, rfl⟩ := ownShape own5
        have G0vi1 := Lib.hid own5
        clear own5
        go_wp2_with fail
        refine hK.out _ _ (hHeld.trans (hb5.mono hHeld.size)) (fun hHeld => ?_)
        refine wpAnyH_ready (rs := [3, 8]) (by kernel_rfl) (by simp) ?_
        refine AllReadyH.cons rfl (fun K hK => ?_) (AllReadyH.cons rfl (fun K hK => ?_) AllReadyH.nil)
        ·
          rw [if_pos (by rfl)]
          simp only [List.getElem_toArray, List.getElem_cons_succ, List.getElem_cons_zero]
          go_wp2_with fail
          refine (toAff_own c1 ts1 HK.out.2 _ _ (HC.out.2.later (LO_14.out.trans (hHeld.mono LO_14.out.size)))).mono ?_
          rintro e vi2 ⟨uvi2, rfl, own5, hb5⟩
          obtain ⟨x1a, x1c, rfl⟩ := ownShape own5
          have G0vi2 := Lib.hid (own_below8 G0vi1.out hb5)
          have G1vi2 := Lib.hid own5
          clear own5
          go_wp2_with fail
          refine hK.out _ _ (hHeld.trans (hb5.mono hHeld.size)) (fun hHeld => ?_)
          refine wpAnyH_ready (rs := [4, 8]) (by kernel_rfl) (by simp) ?_
          refine AllReadyH.cons rfl (fun K hK => ?_) (AllReadyH.cons rfl (fun K hK => ?_) AllReadyH.nil)
          ·
            rw [if_pos (by rfl)]
            simp only [List.getElem_toArray, List.getElem_cons_succ, List.getElem_cons_zero]
            go_wp2_with fail
            refine (HI2.out.2.2 _ _ _ (AV.ofOwn8 G0vi2.out) (AV.ofOwn8 G1vi2.out) (capOwn8 G0vi2.out) (capOwn8 G1vi2.out)).mono ?_
            rintro e vi3 ⟨uvi3, rfl, own5, hb5⟩
            obtain ⟨xra, xrc, rfl⟩ := ownShape own5
            have GRvi3 := Lib.hid (ownMono8 (B := _) (B' := w15.heap.size) hHeld.size own5)
            clear own5
            go_wp2_with fail
            refine hK.out _ _ (hHeld.trans (hb5.mono hHeld.size)) (fun hHeld => ?_)
            refine wpAnyH_take (i := 5) (v := .tuple #[.agg #[.int .i64 dd, .slice xra L.length xrc], .bool ok]) rfl (by kernel_rfl) (by kernel_rfl) (by kernel_rfl) (fun _ _ _ h => h) (Or.inl ⟨by rfl, ?yvi35⟩) hHeld ?_
            case yvi35 => intro w hSw; go_simp
            simp only [Act.put, List.getElem_toArray, List.getElem_cons_succ, List.getElem_cons_zero, List.setIfInBounds_toArray, List.set_cons_zero, List.set_cons_succ]
            refine wpAnyH_take (i := 6) (v := .agg #[.int .i64 dd, .slice xra L.length xrc]) rfl (by kernel_rfl) (by kernel_rfl) (by kernel_rfl) (fun _ _ _ h => h) (Or.inl ⟨by rfl, ?yvi36⟩) hHeld ?_
            case yvi36 => intro w hSw; go_simp
            simp only [Act.put, List.getElem_toArray, List.getElem_cons_succ, List.getElem_cons_zero, List.setIfInBounds_toArray, List.set_cons_zero, List.set_cons_succ]
            refine wpAnyH_take (i := 7) (v := .bool ok) rfl (by kernel_rfl) (by kernel_rfl) (by kernel_rfl) (fun _ _ _ h => h) (Or.inl ⟨by rfl, ?yvi37⟩) hHeld ?_
            case yvi37 => intro w hSw; go_simp
            simp only [Act.put, List.getElem_toArray, List.getElem_cons_succ, List.getElem_cons_zero, List.setIfInBounds_toArray, List.set_cons_zero, List.set_cons_succ]
            refine wpAnyH_ready (rs := [8]) (by kernel_rfl) (by simp) ?_
            refine AllReadyH.cons rfl (fun K hK => ?_) AllReadyH.nil
            rw [if_pos (by rfl)]
            simp only [List.getElem_toArray, List.getElem_cons_succ, List.getElem_cons_zero]
            go_wp2_with fail
            have hpvi3 : w15.heap.size ≤ vi3.heap.size := hHeld.size
            refine hK.out _ _ (hHeld.trans ((alloc_below vi3 _).mono hHeld.size)) (fun hHeld => ?_)
            have hb5 := alloc_below vi3 (.cells #[.int .i64 0, .slice Option.none 0 0] 26)
            have hh5 := heap_last vi3 (.cells #[.int .i64 0, .slice Option.none 0 0] 26)
            obtain ⟨vi4, Wvi4⟩ : ∃ wz, Hid (wz = vi3.alloc (.cells #[.int .i64 0, .slice Option.none 0 0] 26)) := ⟨_, rfl⟩
            rw [← Wvi4.out] at hHeld hb5 hh5 ⊢
            have GRvi4 := Lib.hid (own_below8 GRvi3.out hb5)
            have PBvi4 := Lib.hid hh5
            clear hb5 hh5 Wvi4
            obtain ⟨⟨e0, e1⟩, f0, f1⟩ := blk2 PBvi4.out
            refine wpAnyH_ready (rs := [9]) (by kernel_rfl) (by simp) ?_
            refine AllReadyH.cons rfl (fun K hK => ?_) AllReadyH.nil
            rw [if_pos (by rfl)]
            simp only [List.getElem_toArray, List.getElem_cons_succ, List.getElem_cons_zero]
            go_wp2_with fail
            have h0 := Go.heap_setCell_same _ _ 0 _ _ (.int .i64 dd) PBvi4.out
            have h1 := Go.heap_setCell_same _ _ 1 _ _ (.slice xra L.length xrc) h0
            have F9 := Lib.hid ((hHeld.setCell (p := ⟨vi3.heap.size, 0, Option.none⟩) hpvi3 (.int .i64 dd)).setCell (p := ⟨vi3.heap.size, 1, Option.none⟩) hpvi3 (.slice xra L.length xrc))
            have O9 := Lib.hid (own_later8 GRvi4.out (fun g c _ hh => (Below.heap_setCell _ ⟨vi3.heap.size, 1, Option.none⟩ (.slice xra L.length xrc) _ (ne_types8 hh PBvi4.out)).trans (Below.heap_setCell _ ⟨vi3.heap.size, 0, Option.none⟩ (.int .i64 dd) _ (ne_types8 hh PBvi4.out))))
            have H9 := Lib.hid h1
            clear h0 h1
            refine hK.out _ _ F9.out (fun hHeld => ?_)
            refine wpAnyH_take (i := 10) (v := .bool ok) rfl (by kernel_rfl) (by kernel_rfl) (by kernel_rfl) (fun _ _ _ h => h) (Or.inl ⟨by rfl, ?yvi610⟩) hHeld ?_
            case yvi610 => intro w hSw; go_simp
            simp only [Act.put, List.getElem_toArray, List.getElem_cons_succ, List.getElem_cons_zero, List.setIfInBounds_toArray, List.set_cons_zero, List.set_cons_succ]
            refine wpAnyH_done (by kernel_rfl) ?_ _
            clear hHeld e0 e1 f0 f1
            go_wp2_with fail
            go_meet
            exact ⟨_, _, _, rfl, rfl, H9.out, O9.out, hpvi3, F9.out⟩
          ·
            rw [if_pos (by rfl)]
            simp only [List.getElem_toArray, List.getElem_cons_succ, List.getElem_cons_zero]
            go_wp2_with fail
            have hpvi2 : w15.heap.size ≤ vi2.heap.size := hHeld.size
            refine hK.out _ _ (hHeld.trans ((alloc_below vi2 _).mono hHeld.size)) (fun hHeld => ?_)
            have hb5 := alloc_below vi2 (.cells #[.int .i64 0, .slice Option.none 0 0] 26)
            have hh5 := heap_last vi2 (.cells #[.int .i64 0, .slice Option.none 0 0] 26)
            obtain ⟨vi7, Wvi7⟩ : ∃ wz, Hid (wz = vi2.alloc (.cells #[.int .i64 0, .slice Option.none 0 0] 26)) := ⟨_, rfl⟩
            rw [← Wvi7.out] at hHeld hb5 hh5 ⊢
            have G0vi7 := Lib.hid (own_below8 G0vi2.out hb5)
            have G1vi7 := Lib.hid (own_below8 G1vi2.out hb5)
            have PBvi7 := Lib.hid hh5
            clear hb5 hh5 Wvi7
            refine wpAnyH_ready (rs := [4]) (by kernel_rfl) (by simp) ?_
            refine AllReadyH.cons rfl (fun K hK => ?_) AllReadyH.nil
            rw [if_pos (by rfl)]
            simp only [List.getElem_toArray, List.getElem_cons_succ, List.getElem_cons_zero]
            go_wp2_with fail
            refine (HI2.out.2.2 _ _ _ (AV.ofOwn8 G0vi7.out) (AV.ofOwn8 G1vi7.out) (capOwn8 G0vi7.out) (capOwn8 G1vi7.out)).mono ?_
            rintro e vi8 ⟨uvi8, rfl, own5, hb5⟩
            obtain ⟨xra, xrc, rfl⟩ := ownShape own5
            have PBvi8 := Lib.hid (heap_b8 PBvi7.out hb5)
            have GRvi8 := Lib.hid (ownMono8 (B := _) (B' := w15.heap.size) hHeld.size own5)
            clear own5
            go_wp2_with fail
            refine hK.out _ _ (hHeld.trans (hb5.mono hHeld.size)) (fun hHeld => ?_)
            refine wpAnyH_take (i := 5) (v := .tuple #[.agg #[.int .i64 dd, .slice xra L.length xrc], .bool ok]) rfl (by kernel_rfl) (by kernel_rfl) (by kernel_rfl) (fun _ _ _ h => h) (Or.inl ⟨by rfl, ?yvi85⟩) hHeld ?_
            case yvi85 => intro w hSw; go_simp
            simp only [Act.put, List.getElem_toArray, List.getElem_cons_succ, List.getElem_cons_zero, List.setIfInBounds_toArray, List.set_cons_zero, List.set_cons_succ]
            refine wpAnyH_take (i := 6) (v := .agg #[.int .i64 dd, .slice xra L.length xrc]) rfl (by kernel_rfl) (by kernel_rfl) (by kernel_rfl) (fun _ _ _ h => h) (Or.inl ⟨by rfl, ?yvi86⟩) hHeld ?_
            case yvi86 => intro w hSw; go_simp
            simp only [Act.put, List.getElem_toArray, List.getElem_cons_succ, List.getElem_cons_zero, List.setIfInBounds_toArray, List.set_cons_zero, List.set_cons_succ]
            refine wpAnyH_take (i := 7) (v := .bool ok) rfl (by kernel_rfl) (by kernel_rfl) (by kernel_rfl) (fun _ _ _ h => h) (Or.inl ⟨by rfl, ?yvi87⟩) hHeld ?_
            case yvi87 => intro w hSw; go_simp
            simp only [Act.put, List.getElem_toArray, List.getElem_cons_succ, List.getElem_cons_zero, List.setIfInBounds_toArray, List.set_cons_zero, List.set_cons_succ]
            obtain ⟨⟨e0, e1⟩, f0, f1⟩ := blk2 PBvi8.out
            refine wpAnyH_ready (rs := [9]) (by kernel_rfl) (by simp) ?_
            refine AllReadyH.cons rfl (fun K hK => ?_) AllReadyH.nil
            rw [if_pos (by rfl)]
            simp only [List.getElem_toArray, List.getElem_cons_succ, List.getElem_cons_zero]
            go_wp2_with fail
            have h0 := Go.heap_setCell_same _ _ 0 _ _ (.int .i64 dd) PBvi8.out
            have h1 := Go.heap_setCell_same _ _ 1 _ _ (.slice xra L.length xrc) h0
            have F9 := Lib.hid ((hHeld.setCell (p := ⟨vi2.heap.size, 0, Option.none⟩) hpvi2 (.int .i64 dd)).setCell (p := ⟨vi2.heap.size, 1, Option.none⟩) hpvi2 (.slice xra L.length xrc))
            have O9 := Lib.hid (own_later8 GRvi8.out (fun g c _ hh => (Below.heap_setCell _ ⟨vi2.heap.size, 1, Option.none⟩ (.slice xra L.length xrc) _ (ne_types8 hh PBvi8.out)).trans (Below.heap_setCell _ ⟨vi2.heap.size, 0, Option.none⟩ (.int .i64 dd) _ (ne_types8 hh PBvi8.out))))
            have H9 := Lib.hid h1
            clear h0 h1
            refine hK.out _ _ F9.out (fun hHeld => ?_)
            refine wpAnyH_take (i := 10) (v := .bool ok) rfl (by kernel_rfl) (by kernel_rfl) (by kernel_rfl) (fun _ _ _ h => h) (Or.inl ⟨by rfl, ?yvi1010⟩) hHeld ?_
            case yvi1010 => intro w hSw; go_simp
            simp only [Act.put, List.getElem_toArray, List.getElem_cons_succ, List.getElem_cons_zero, List.setIfInBounds_toArray, List.set_cons_zero, List.set_cons_succ]
            refine wpAnyH_done (by kernel_rfl) ?_ _
            clear hHeld e0 e1 f0 f1
            go_wp2_with fail
            go_meet
            exact ⟨_, _, _, rfl, rfl, H9.out, O9.out, hpvi2, F9.out⟩
        ·
          rw [if_pos (by rfl)]
          simp only [List.getElem_toArray, List.getElem_cons_succ, List.getElem_cons_zero]
          go_wp2_with fail
          have hpvi1 : w15.heap.size ≤ vi1.heap.size := hHeld.size
          refine hK.out _ _ (hHeld.trans ((alloc_below vi1 _).mono hHeld.size)) (fun hHeld => ?_)
          have hb5 := alloc_below vi1 (.cells #[.int .i64 0, .slice Option.none 0 0] 26)
          have hh5 := heap_last vi1 (.cells #[.int .i64 0, .slice Option.none 0 0] 26)
          obtain ⟨vi11, Wvi11⟩ : ∃ wz, Hid (wz = vi1.alloc (.cells #[.int .i64 0, .slice Option.none 0 0] 26)) := ⟨_, rfl⟩
          rw [← Wvi11.out] at hHeld hb5 hh5 ⊢
          have G0vi11 := Lib.hid (own_below8 G0vi1.out hb5)
          have PBvi11 := Lib.hid hh5
          clear hb5 hh5 Wvi11
          refine wpAnyH_ready (rs := [3]) (by kernel_rfl) (by simp) ?_
          refine AllReadyH.cons rfl (fun K hK => ?_) AllReadyH.nil
          rw [if_pos (by rfl)]
          simp only [List.getElem_toArray, List.getElem_cons_succ, List.getElem_cons_zero]
          go_wp2_with fail
          refine (toAff_own c1 ts1 HK.out.2 _ _ (HC.out.2.later (LO_14.out.trans (hHeld.mono LO_14.out.size)))).mono ?_
          rintro e vi12 ⟨uvi12, rfl, own5, hb5⟩
          obtain ⟨x1a, x1c, rfl⟩ := ownShape own5
          have G0vi12 := Lib.hid (own_below8 G0vi11.out hb5)
          have PBvi12 := Lib.hid (heap_b8 PBvi11.out hb5)
          have G1vi12 := Lib.hid own5
          clear own5
          go_wp2_with fail
          refine hK.out _ _ (hHeld.trans (hb5.mono hHeld.size)) (fun hHeld => ?_)
          refine wpAnyH_ready (rs := [4]) (by kernel_rfl) (by simp) ?_
          refine AllReadyH.cons rfl (fun K hK => ?_) AllReadyH.nil
          rw [if_pos (by rfl)]
          simp only [List.getElem_toArray, List.getElem_cons_succ, List.getElem_cons_zero]
          go_wp2_with fail
          refine (HI2.out.2.2 _ _ _ (AV.ofOwn8 G0vi12.out) (AV.ofOwn8 G1vi12.out) (capOwn8 G0vi12.out) (capOwn8 G1vi12.out)).mono ?_
          rintro e vi13 ⟨uvi13, rfl, own5, hb5⟩
          obtain ⟨xra, xrc, rfl⟩ := ownShape own5
          have PBvi13 := Lib.hid (heap_b8 PBvi12.out hb5)
          have GRvi13 := Lib.hid (ownMono8 (B := _) (B' := w15.heap.size) hHeld.size own5)
          clear own5
          go_wp2_with fail
          refine hK.out _ _ (hHeld.trans (hb5.mono hHeld.size)) (fun hHeld => ?_)
          refine wpAnyH_take (i := 5) (v := .tuple #[.agg #[.int .i64 dd, .slice xra L.length xrc], .bool ok]) rfl (by kernel_rfl) (by kernel_rfl) (by kernel_rfl) (fun _ _ _ h => h) (Or.inl ⟨by rfl, ?yvi135⟩) hHeld ?_
          case yvi135 => intro w hSw; go_simp
          simp only [Act.put, List.getElem_toArray, List.getElem_cons_succ, List.getElem_cons_zero, List.setIfInBounds_toArray, List.set_cons_zero, List.set_cons_succ]
          refine wpAnyH_take (i := 6) (v := .agg #[.int .i64 dd, .slice xra L.length xrc]) rfl (by kernel_rfl) (by kernel_rfl) (by kernel_rfl) (fun _ _ _ h => h) (Or.inl ⟨by rfl, ?yvi136⟩) hHeld ?_
          case yvi136 => intro w hSw; go_simp
          simp only [Act.put, List.getElem_toArray, List.getElem_cons_succ, List.getElem_cons_zero, List.setIfInBounds_toArray, List.set_cons_zero, List.set_cons_succ]
          refine wpAnyH_take (i := 7) (v := .bool ok) rfl (by kernel_rfl) (by kernel_rfl) (by kernel_rfl) (fun _ _ _ h => h) (Or.inl ⟨by rfl, ?yvi137⟩) hHeld ?_
          case yvi137 => intro w hSw; go_simp
          simp only [Act.put, List.getElem_toArray, List.getElem_cons_succ, List.getElem_cons_zero, List.setIfInBounds_toArray, List.set_cons_zero, List.set_cons_succ]
          obtain ⟨⟨e0, e1⟩, f0, f1⟩ := blk2 PBvi13.out
          refine wpAnyH_ready (rs := [9]) (by kernel_rfl) (by simp) ?_
          refine AllReadyH.cons rfl (fun K hK => ?_) AllReadyH.nil
          rw [if_pos (by rfl)]
          simp only [List.getElem_toArray, List.getElem_cons_succ, List.getElem_cons_zero]
          go_wp2_with fail
          have h0 := Go.heap_setCell_same _ _ 0 _ _ (.int .i64 dd) PBvi13.out
          have h1 := Go.heap_setCell_same _ _ 1 _ _ (.slice xra L.length xrc) h0
          have F9 := Lib.hid ((hHeld.setCell (p := ⟨vi1.heap.size, 0, Option.none⟩) hpvi1 (.int .i64 dd)).setCell (p := ⟨vi1.heap.size, 1, Option.none⟩) hpvi1 (.slice xra L.length xrc))
          have O9 := Lib.hid (own_later8 GRvi13.out (fun g c _ hh => (Below.heap_setCell _ ⟨vi1.heap.size, 1, Option.none⟩ (.slice xra L.length xrc) _ (ne_types8 hh PBvi13.out)).trans (Below.heap_setCell _ ⟨vi1.heap.size, 0, Option.none⟩ (.int .i64 dd) _ (ne_types8 hh PBvi13.out))))
          have H9 := Lib.hid h1
          clear h0 h1
          refine hK.out _ _ F9.out (fun hHeld => ?_)
          refine wpAnyH_take (i := 10) (v := .bool ok) rfl (by kernel_rfl) (by kernel_rfl) (by kernel_rfl) (fun _ _ _ h => h) (Or.inl ⟨by rfl, ?yvi1510⟩) hHeld ?_
          case yvi1510 => intro w hSw; go_simp
          simp only [Act.put, List.getElem_toArray, List.getElem_cons_succ, List.getElem_cons_zero, List.setIfInBounds_toArray, List.set_cons_zero, List.set_cons_succ]
          refine wpAnyH_done (by kernel_rfl) ?_ _
          clear hHeld e0 e1 f0 f1
          go_wp2_with fail
          go_meet
          exact ⟨_, _, _, rfl, rfl, H9.out, O9.out, hpvi1, F9.out⟩
      ·
        rw [if_pos (by rfl)]
        simp only [List.getElem_toArray, List.getElem_cons_succ, List.getElem_cons_zero]
        go_wp2_with fail
        have hpwd : w15.heap.size ≤ wd.heap.size := hHeld.size
        refine hK.out _ _ (hHeld.trans ((alloc_below wd _).mono hHeld.size)) (fun hHeld => ?_)
        have hb5 := alloc_below wd (.cells #[.int .i64 0, .slice Option.none 0 0] 26)
        have hh5 := heap_last wd (.cells #[.int .i64 0, .slice Option.none 0 0] 26)
        obtain ⟨vi16, Wvi16⟩ : ∃ wz, Hid (wz = wd.alloc (.cells #[.int .i64 0, .slice Option.none 0 0] 26)) := ⟨_, rfl⟩
        rw [← Wvi16.out] at hHeld hb5 hh5 ⊢
        have PBvi16 := Lib.hid hh5
        clear hb5 hh5 Wvi16
        refine wpAnyH_ready (rs := [1]) (by kernel_rfl) (by simp) ?_
        refine AllReadyH.cons rfl (fun K hK => ?_) AllReadyH.nil
        rw [if_pos (by rfl)]
        simp only [List.getElem_toArray, List.getElem_cons_succ, List.getElem_cons_zero]
        go_wp2_with fail
        refine (toAff_own c0 ts0 HK.out.1 _ _ (HC.out.1.later (LO_14.out.trans (hHeld.mono LO_14.out.size)))).mono ?_
        rintro e vi17 ⟨uvi17, rfl, own5, hb5⟩
        obtain ⟨x0a, x0c, rfl⟩ := ownShape own5
        have PBvi17 := Lib.hid (heap_b8 PBvi16.out hb5)
        have G0vi17 := Lib.hid own5
        clear own5
        go_wp2_with fail
        refine hK.out _ _ (hHeld.trans (hb5.mono hHeld.size)) (fun hHeld => ?_)
        refine wpAnyH_ready (rs := [3]) (by kernel_rfl) (by simp) ?_
        refine AllReadyH.cons rfl (fun K hK => ?_) AllReadyH.nil
        rw [if_pos (by rfl)]
        simp only [List.getElem_toArray, List.getElem_cons_succ, List.getElem_cons_zero]
        go_wp2_with fail
        refine (toAff_own c1 ts1 HK.out.2 _ _ (HC.out.2.later (LO_14.out.trans (hHeld.mono LO_14.out.size)))).mono ?_
        rintro e vi18 ⟨uvi18, rfl, own5, hb5⟩
        obtain ⟨x1a, x1c, rfl⟩ := ownShape own5
        have PBvi18 := Lib.hid (heap_b8 PBvi17.out hb5)
        have G0vi18 := Lib.hid (own_below8 G0vi17.out hb5)
        have G1vi18 := Lib.hid own5
        clear own5
        go_wp2_with fail
        refine hK.out _ _ (hHeld.trans (hb5.mono hHeld.size)) (fun hHeld => ?_)
        refine wpAnyH_ready (rs := [4]) (by kernel_rfl) (by simp) ?_
        refine AllReadyH.cons rfl (fun K hK => ?_) AllReadyH.nil
        rw [if_pos (by rfl)]
        simp only [List.getElem_toArray, List.getElem_cons_succ, List.getElem_cons_zero]
        go_wp2_with fail
        refine (HI2.out.2.2 _ _ _ (AV.ofOwn8 G0vi18.out) (AV.ofOwn8 G1vi18.out) (capOwn8 G0vi18.out) (capOwn8 G1vi18.out)).mono ?_
        rintro e vi19 ⟨uvi19, rfl, own5, hb5⟩
        obtain ⟨xra, xrc, rfl⟩ := ownShape own5
        have PBvi19 := Lib.hid (heap_b8 PBvi18.out hb5)
        have GRvi19 := Lib.hid (ownMono8 (B := _) (B' := w15.heap.size) hHeld.size own5)
        clear own5
        go_wp2_with fail
        refine hK.out _ _ (hHeld.trans (hb5.mono hHeld.size)) (fun hHeld => ?_)
        refine wpAnyH_take (i := 5) (v := .tuple #[.agg #[.int .i64 dd, .slice xra L.length xrc], .bool ok]) rfl (by kernel_rfl) (by kernel_rfl) (by kernel_rfl) (fun _ _ _ h => h) (Or.inl ⟨by rfl, ?yvi195⟩) hHeld ?_
        case yvi195 => intro w hSw; go_simp
        simp only [Act.put, List.getElem_toArray, List.getElem_cons_succ, List.getElem_cons_zero, List.setIfInBounds_toArray, List.set_cons_zero, List.set_cons_succ]
        refine wpAnyH_take (i := 6) (v := .agg #[.int .i64 dd, .slice xra L.length xrc]) rfl (by kernel_rfl) (by kernel_rfl) (by kernel_rfl) (fun _ _ _ h => h) (Or.inl ⟨by rfl, ?yvi196⟩) hHeld ?_
        case yvi196 => intro w hSw; go_simp
        simp only [Act.put, List.getElem_toArray, List.getElem_cons_succ, List.getElem_cons_zero, List.setIfInBounds_toArray, List.set_cons_zero, List.set_cons_succ]
        refine wpAnyH_take (i := 7) (v := .bool ok) rfl (by kernel_rfl) (by kernel_rfl) (by kernel_rfl) (fun _ _ _ h => h) (Or.inl ⟨by rfl, ?yvi197⟩) hHeld ?_
        case yvi197 => intro w hSw; go_simp
        simp only [Act.put, List.getElem_toArray, List.getElem_cons_succ, List.getElem_cons_zero, List.setIfInBounds_toArray, List.set_cons_zero, List.set_cons_succ]
        obtain ⟨⟨e0, e1⟩, f0, f1⟩ := blk2 PBvi19.out
        refine wpAnyH_ready (rs := [9]) (by kernel_rfl) (by simp) ?_
        refine AllReadyH.cons rfl (fun K hK => ?_) AllReadyH.nil
        rw [if_pos (by rfl)]
        simp only [List.getElem_toArray, List.getElem_cons_succ, List.getElem_cons_zero]
        go_wp2_with fail
        have h0 := Go.heap_setCell_same _ _ 0 _ _ (.int .i64 dd) PBvi19.out
        have h1 := Go.heap_setCell_same _ _ 1 _ _ (.slice xra L.length xrc) h0
        have F9 := Lib.hid ((hHeld.setCell (p := ⟨wd.heap.size, 0, Option.none⟩) hpwd (.int .i64 dd)).setCell (p := ⟨wd.heap.size, 1, Option.none⟩) hpwd (.slice xra L.length xrc))
        have O9 := Lib.hid (own_later8 GRvi19.out (fun g c _ hh => (Below.heap_setCell _ ⟨wd.heap.size, 1, Option.none⟩ (.slice xra L.length xrc) _ (ne_types8 hh PBvi19.out)).trans (Below.heap_setCell _ ⟨wd.heap.size, 0, Option.none⟩ (.int .i64 dd) _ (ne_types8 hh PBvi19.out))))
        have H9 := Lib.hid h1
        clear h0 h1
        refine hK.out _ _ F9.out (fun hHeld => ?_)
        refine wpAnyH_take (i := 10) (v := .bool ok) rfl (by kernel_rfl) (by kernel_rfl) (by kernel_rfl) (fun _ _ _ h => h) (Or.inl ⟨by rfl, ?yvi2110⟩) hHeld ?_
        case yvi2110 => intro w hSw; go_simp
        simp only [Act.put, List.getElem_toArray, List.getElem_cons_succ, List.getElem_cons_zero, List.setIfInBounds_toArray, List.set_cons_zero, List.set_cons_succ]
        refine wpAnyH_done (by kernel_rfl) ?_ _
        clear hHeld e0 e1 f0 f1
        go_wp2_with fail
        go_meet
        exact ⟨_, _, _, rfl, rfl, H9.out, O9.out, hpwd, F9.out⟩
    case rest =>
      obtain ⟨p15, rd, re, rfl, rfl, hb15, ho15, hp15, hb⟩ := hcut
      have P0_15 := Lib.hid (heap_b8 P0_14.out hb)
      have P1_15 := Lib.hid (heap_b8 P1_14.out hb)
      have LO_15 := Lib.hid (LO_14.out.trans (hb.mono LO_14.out.size))
      have B6_15 := Lib.hid (heap_b8 B6_14.out hb)
      have O6_15 := Lib.hid (own_below8 O6_14.out hb)
      have B8_15 := Lib.hid (heap_b8 B8_14.out hb)
      have B9_15 := Lib.hid (heap_b8 B9_14.out hb)
      have B10_15 := Lib.hid (heap_b8 B10_14.out hb)
      have O11_15 := Lib.hid (own_below8 O11_14.out hb)
      clear P0_14 P1_14 LO_14 B6_14 O6_14 B8_14 B9_14 B10_14 O11_14 
      have B15 := Lib.hid hb15
      have O15 := Lib.hid ho15
      clear hb hb15 ho15 hp15
      obtain ⟨⟨y0, y1⟩, _⟩ := blk2 B15.out
      obtain ⟨⟨y2, y3⟩, _⟩ := blk2 B6_15.out
      go_wp2_with fail
      refine (eqAff_same dd L (by omega) _ _ _ (AV.ofOwn8 O15.out) (AV.ofOwn8 O6_15.out)).mono ?_
      rintro e w17 ⟨rfl, hb⟩
      have P0_16 := Lib.hid (heap_b8 P0_15.out hb)
      have P1_16 := Lib.hid (heap_b8 P1_15.out hb)
      have LO_16 := Lib.hid (LO_15.out.trans (hb.mono LO_15.out.size))
      have B6_16 := Lib.hid (heap_b8 B6_15.out hb)
      have O6_16 := Lib.hid (own_below8 O6_15.out hb)
      have B8_16 := Lib.hid (heap_b8 B8_15.out hb)
      have B9_16 := Lib.hid (heap_b8 B9_15.out hb)
      have B10_16 := Lib.hid (heap_b8 B10_15.out hb)
      have O11_16 := Lib.hid (own_below8 O11_15.out hb)
      have B15_16 := Lib.hid (heap_b8 B15.out hb)
      have O15_16 := Lib.hid (own_below8 O15.out hb)
      clear P0_15 P1_15 LO_15 B6_15 O6_15 B8_15 B9_15 B10_15 O11_15 B15 O15 hb y0 y1 y2 y3
      obtain ⟨⟨y0, y1⟩, _⟩ := blk2 B10_16.out
      go_wp2_with fail
      refine (heldAff_r dd L.length 1 r3 _ hr3.out (by rfl) (by omega) (by omega) _ _ (slack8 O11_16.out (marks8_len _ _).symm)).mono ?_
      rintro e w18 ⟨rfl, hb⟩
      have P0_17 := Lib.hid (heap_b8 P0_16.out hb)
      have P1_17 := Lib.hid (heap_b8 P1_16.out hb)
      have LO_17 := Lib.hid (LO_16.out.trans (hb.mono LO_16.out.size))
      have B6_17 := Lib.hid (heap_b8 B6_16.out hb)
      have O6_17 := Lib.hid (own_below8 O6_16.out hb)
      have B8_17 := Lib.hid (heap_b8 B8_16.out hb)
      have B9_17 := Lib.hid (heap_b8 B9_16.out hb)
      have B10_17 := Lib.hid (heap_b8 B10_16.out hb)
      have O11_17 := Lib.hid (own_below8 O11_16.out hb)
      have B15_17 := Lib.hid (heap_b8 B15_16.out hb)
      have O15_17 := Lib.hid (own_below8 O15_16.out hb)
      clear P0_16 P1_16 LO_16 B6_16 O6_16 B8_16 B9_16 B10_16 O11_16 B15_16 O15_16 hb y0 y1
      go_wp2
      go_ret
      exact ⟨rfl, LO_17.out⟩

/-- Both sides make the same of them. -/
theorem both (c0 c1 : Int) (ts0 ts1 : List AR) (b1 : -9223372036854775808 ≤ c1 ∧ c1 ≤ 9223372036854775807) (e1 : ∀ t ∈ ts1, t.s.size ≤ 9223372036854775807 ∧ (-9223372036854775808 ≤ t.n ∧ t.n ≤ 9223372036854775807)) (ok : Bool) (dd : Int) (L : List AR)
    (hok : sumOk8 c0 c1 1 ts0 ts1 (sumA8 ts0 ts1 1) = ok) (hdd : (if ok = true then IntKind.i64.wrap (c0 + IntKind.i64.wrap (1 * c1)) else 0) = dd) (hL : (if ok = true then sumA8 ts0 ts1 1 else []) = L) (hin : asize ts0 + asize ts1 ≤ 1048576) :
    L.length ≤ 1048576 ∧ (∀ w' ua ub, AV w' 0 ua ts0 → AV w' 0 ub ts1 → Calls Try.prog 17 #[.agg #[.int .i64 c0, ua], .agg #[.int .i64 c1, ub]] w' (Out8 w' ok dd L)) ∧
      (∀ w' ua ub, AV w' 0 ua ts0 → AV w' 0 ub ts1 → Cap8 ua → Cap8 ub → Calls Try.prog 9 #[.agg #[.int .i64 c0, ua], .agg #[.int .i64 c1, ub]] w' (Out8 w' ok dd L)) := by
  have h0 : ts0.length + abytes ts0 + (ts1.length + abytes ts1) ≤ 1048576 := hin
  have nm0 : NmB8 ts0 := fun t h => by have := abytes_mem8 h; omega
  have nm1 : NmB8 ts1 := fun t h => by have := abytes_mem8 h; omega
  refine ⟨?_, fun w' ua ub h1 h2 => spec_AddA c0 c1 ts0 ts1 (by omega) (by omega) nm0 nm1 ua ub w' h1 h2 (sumA8_nm _ nm0 nm1) ok dd L hok hdd hL, fun w' ua ub h1 h2 k1 k2 => ?_⟩
  · have := sumA8_len ts0 ts1 1
    rw [← hL]; split
    · omega
    · simp
  · obtain ⟨s1, s2⟩ := add_same8 c0 c1 ts0 ts1 b1 (fun t h => (e1 t h).2)
    refine (impl_AddA c0 c1 ts0 ts1 (by omega) (by omega) nm0 nm1 ua ub w' h1 h2 k1).mono fun e w'' h => ?_
    have q := Out8.of h
    have e1 : subOk8 c0 (IntKind.i64.wrap (-c1)) ts0 (ts1.map negT8) = ok := s1.trans hok
    rw [e1] at q s2
    cases ok with
    | false => rw [← hdd, ← hL]; exact q
    | true =>
      obtain ⟨t1, t2⟩ := s2 rfl
      rw [t1, t2] at q
      rw [← hdd, ← hL]; exact q
set_option maxHeartbeats 4000000 in
set_option maxRecDepth 100000 in
theorem lifted (os : Os) (started : os.Started) (H : Type) (enc : TypeId × Value → H) :
    ReturnsInHanded {} Try.checked os 5 .any (Rows.fnExactAddASpec.pre6 enc Try.prog Try.f5 Rows.fnExactAddARow.domain false) (Rows.fnExactAddASpec.post enc Try.prog Try.f5 false true false false) := by
  refine returnsInHanded_of_change (C := Try.checked) own started (by kernel_rfl) Try.func5
    (ChangeSpec.witness6 (enc := enc) (C := Try.checked) false ⟨#[], #[.agg #[.int .i64 0, .slice none 0 0], .agg #[.int .i64 0, .slice none 0 0]], []⟩ 8 (by kernel_rfl) (by kernel_rfl) (by kernel_rfl) (by kernel_rfl)) ?_
  intro W base args ds gs before hval0 hW hcnd _
  have hW' := hW
  obtain ⟨p, q, hA0, hV, rfl, hfz, hnd⟩ := hW'
  have hA : DataW.TrodAll enc Try.prog W 0 (fun _ => true) true Try.f5.params.toList args.toList ds p := hA0
  have hval : ∀ (j : Nat) t v, Try.f5.params[j]? = some t → args[j]? = some v → Value.okWide Try.prog W .any base t v := hval0
  rw [Try.params5] at hA hval
  obtain ⟨v0, vs0, d0, ds0, p0, q0, hargs, rfl, rfl, h0, r0⟩ := trodAll_cons hA
  obtain ⟨v1, vs1, d1, ds1, p1, q1, rfl, rfl, rfl, h1, r1⟩ := trodAll_cons r0
  obtain ⟨rfl, rfl, rfl⟩ := trodAll_nil r1
  obtain rfl : args = #[v0, v1] := by cases args; simp_all
  obtain ⟨rfl, rfl⟩ := trodVars_none hV
  obtain ⟨cs0, rfl, _⟩ := okWide_struct Try.underlying46 (hval 0 46 v0 rfl rfl)
  obtain ⟨cs1, rfl, _⟩ := okWide_struct Try.underlying46 (hval 1 46 v1 rfl rfl)
  have k0 := h0
  have lt0 : ∀ x ∈ p0, x.block < W.heap.size := by obtain ⟨m, hm⟩ := k0; exact DataW.trod_lt m _ _ _ hm
  have k1 := h1
  have lt1 : ∀ x ∈ p1, x.block < W.heap.size := by obtain ⟨m, hm⟩ := k1; exact DataW.trod_lt m _ _ _ hm
  obtain ⟨c0, va0, ts0, hcs0, b0, e0, m0, f0⟩ : ∃ (c : Int) (va : Value) (ts : List AR), cs0 = #[.int .i64 c, va] ∧ (-9223372036854775808 ≤ c ∧ c ≤ 9223372036854775807) ∧ (∀ t ∈ ts, t.s.size ≤ 9223372036854775807 ∧ (-9223372036854775808 ≤ t.n ∧ t.n ≤ 9223372036854775807)) ∧ ts.length ≤ 9223372036854775807 ∧ AV W 0 va ts := by
    obtain ⟨fuel, hf⟩ := h0
    obtain ⟨c, va, ts, e, g0, g1, g2, g3⟩ := open_affB hf
    have e2 : cs0.toList = [.int .i64 c, va] := by simpa [Value.cells] using e
    exact ⟨c, va, ts, by rw [← e2], g0, g1, g2, g3⟩
  subst hcs0
  obtain ⟨c1, va1, ts1, hcs1, b1, e1, m1, f1⟩ : ∃ (c : Int) (va : Value) (ts : List AR), cs1 = #[.int .i64 c, va] ∧ (-9223372036854775808 ≤ c ∧ c ≤ 9223372036854775807) ∧ (∀ t ∈ ts, t.s.size ≤ 9223372036854775807 ∧ (-9223372036854775808 ≤ t.n ∧ t.n ≤ 9223372036854775807)) ∧ ts.length ≤ 9223372036854775807 ∧ AV W 0 va ts := by
    obtain ⟨fuel, hf⟩ := h1
    obtain ⟨c, va, ts, e, g0, g1, g2, g3⟩ := open_affB hf
    have e2 : cs1.toList = [.int .i64 c, va] := by simpa [Value.cells] using e
    exact ⟨c, va, ts, by rw [← e2], g0, g1, g2, g3⟩
  subst hcs1
  clear hA0 hval0
  refine (walk c0 c1 ts0 ts1 va0 va1 _ _ _ ⟨⟨fun t h => (e0 t h).1, m0⟩, ⟨fun t h => (e1 t h).1, m1⟩⟩ W f0 f1 (fun hin => both c0 c1 ts0 ts1 b1 e1 _ _ _ rfl rfl rfl hin)).mono fun e W' ⟨he, bel⟩ => ?_
  subst he
  exact ⟨_, rfl, _, _, _, [], _, [], hW, trodAll_mk1 (shut_bool Try.underlying4 _), (trodAll_cons_mk (Below.trod laidOut (by kernel_rfl) (of_decide_eq_true (by kernel_rfl)) k0 bel lt0) (trodAll_cons_mk (Below.trod laidOut (by kernel_rfl) (of_decide_eq_true (by kernel_rfl)) k1 bel lt1) trodAll_mk0)), rfl, bel.frame _, fun h => by cases h⟩

theorem over : Rows.fnExactAddARow.holds Try.pinned (OpenSpec.ofChange Rows.fnExactAddASpec) :=
  OpenClaim.holds_of_wide 5 Try.f5 rfl rfl rfl rfl rfl rfl rfl ⟨rfl, rfl, rfl, rfl, rfl⟩ rfl rfl rfl rfl rfl (by kernel_rfl) Try.func5 (by kernel_rfl)
    (of_decide_eq_true (by kernel_rfl)) (by unfold Func.isWrapper; first | (rw [if_pos (by decide +kernel)]; kernel_rfl) | (rw [if_neg (by decide +kernel)]; exact ⟨rfl, rfl⟩))
    (fun os started H enc _ => lifted os started H enc)

end Go.Proofs.Ytfacenfiocdbgaa.fnExactAddA
namespace Go.Proofs.Ytfacenfiocdbgaa
/-- THE STATEMENT -/
theorem fnExactAddA_holds : Rows.FnExactAddASaid := fnExactAddA.over
#print axioms fnExactAddA_holds
end Go.Proofs.Ytfacenfiocdbgaa
