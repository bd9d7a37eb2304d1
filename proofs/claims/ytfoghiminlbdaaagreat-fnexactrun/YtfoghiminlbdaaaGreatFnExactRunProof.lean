/-
  PROVED: at the landed commit laws.FnExactRun returns true for every program and every fuel: impl.Run answers as the specification's Run, writes into no argument and keeps nothing of one; its answer owns its memory; no condition.
-/
import Derived.Test.YtfoghiminlbdaaaGreatZp
import Derived.Test.YtfoghiminlbdaaaGreatRows
import Derived.Test.YtfoghiminlbdaaaGreatP03ofRun
import Derived.Test.YtfoghiminlbdaaaGreatP06ofRun
import Derived.WalkKit
import Derived.ProofKit
import Derived.OpenShut
import Derived.ShutString
import Derived.ChangeOld
import Derived.Below
import Derived.Test.YtfoghiminlbdaaaGreatP29ofRun
import Derived.Test.YtfoghiminlbdaaaGreatRunTopI
import Derived.Test.YtfoghiminlbdaaaGreatP18ofRun
namespace Go.Proofs.YtfoghiminlbdaaaGreat.fnExactRun
open Go.ChangeShapes Go.WideShapes Go.ChangeAt Go.RowKit
set_option linter.unusedSimpArgs false
set_option linter.unusedVariables false
theorem own : ownKnob Tryz.prog.godebug = none := by kernel_rfl
theorem laidOut : laidOutB Tryz.prog = true := by kernel_rfl
set_option maxHeartbeats 4000000 in
set_option maxRecDepth 100000 in
theorem walk (ts : List AR) (F : SF) (fuel : Int) (A : List (List Int)) (V O : List Int) (en : Int)
    (hts : ∀ t ∈ ts, t.s.size ≤ 9223372036854775807) (hM : ts.length ≤ 9223372036854775807) (hF : sok F) (hS : slen F ≤ 9223372036854775807) (va vb : Value) (w : World) (ha : AV w 0 va ts) (hb : SV w 0 F vb)
    (hin : asize ts + ssize F ≤ 1048576 → StoL A V O ∧ 1 + (totA A + V.length + O.length) ≤ 20000000 ∧ 1 + 2 * (ts.length : Int) + (smk F : Int) ≤ 20000000 ∧
      (∀ w va vb, AV w 0 va ts → SV w 0 F vb → Calls Tryz.prog 11 #[.agg #[va, vb], .int .i64 fuel] w (SpecSto w A V O en)) ∧
      (∀ w va vb, AV w 0 va ts → SV w 0 F vb → Calls Tryz.prog 8 #[.agg #[va, vb], .int .i64 fuel] w (OutSto w A V O en))) :
    Calls Tryz.prog 5 #[.agg #[va, vb], .int .i64 fuel] w fun e w' => e = .returned (.bool true) ∧ Below w.heap.size w w' := by
  have HX := Lib.hid (And.intro hts (And.intro hM (And.intro hF hS)))
  have HIN := Lib.hid hin
  have T0 := Lib.hid (Pt.start 53 ha hb)
  clear hts hM hF hS ha hb hin
  go_enter Tryz.func5, Tryz.ntmps5
  go_wp2_with (refine wpList_load_mid rfl 53 _ rfl w.heap.size 0 rfl _ _ T0.out.rg Tryz.underlying53 rfl sizeLP ?_)
  refine (szProg_is ts F HX.out.1 HX.out.2.1 HX.out.2.2.1 HX.out.2.2.2 va vb _ T0.out.av T0.out.sv).mono ?_
  rintro e w1 ⟨rfl, hb1⟩
  have T1 := Lib.hid (T0.out.later hb1)
  clear hb1 T0
  by_cases hd : (1048576 : Int) < ((asize ts + ssize F : Nat) : Int)
  · rw [if_pos hd]
    go_wp2
    go_ret
    exact ⟨rfl, T1.out.low⟩
  rw [if_neg hd]
  have kn : ts.length ≤ 1048576 := by unfold asize at hd; omega
  have ks : ssize F ≤ 1048576 := by omega
  have hn2 : ¬ (1048576 : Int) - ((asize ts + ssize F : Nat) : Int) < 0 := by omega
  have HK := Lib.hid (And.intro kn ks)
  have HIN := Lib.hid (HIN.out (by omega))
  clear hd kn ks
  go_wp2_with (refine wpList_load_mid rfl 53 _ rfl w.heap.size 0 rfl _ _ T1.out.rg Tryz.underlying53 rfl sizeLP ?_)
  refine (toProg_is ts F HK.out.1 HK.out.2 va vb _ T1.out.av T1.out.sv).mono ?_
  rintro e w2 ⟨ua, ub, rfl, g1, g2, hb2⟩
  have T2 := Lib.hid (T1.out.later hb2)
  have G1 := Lib.hid (And.intro g1 g2)
  clear hb2 T1 g1 g2
  go_wp2_with fail
  refine (HIN.out.2.2.2.1 _ ua ub G1.out.1 G1.out.2).mono ?_
  rintro e w3 ⟨xa, xv, xo, rfl, hx, hb3⟩
  have T3 := Lib.hid (T2.out.later hb3)
  have X3 := Lib.hid hx
  have ix := hx.a.isOne
  have iv := hx.v.isOne
  have io := hx.o.isOne
  clear hb3 T2 G1 hx
  -- w0 is put; the program is copied anew
  go_wp2_with (first | (refine store_abs rfl 33 _ _ rfl w3.heap.size 0 #[xa, xv, xo, .int .i64 en] rfl rfl ?ht0 sizeSto ?ho0 ?_; exact (thSto4 _ _ _ _ _ _); exact (one4 ix iv io rfl); intro W hW; have HW := Lib.hid (newSto4 hW); have T4 := Lib.hid (T3.out.later HW.out.2); have X4 := Lib.hid (X3.out.later HW.out.2); clear hW T3 X3) | (refine wpList_load_mid rfl 53 _ rfl w.heap.size 0 rfl _ _ T4.out.rg Tryz.underlying53 rfl sizeLP ?_))
  obtain ⟨n4, hn4⟩ : ∃ n4, n4 = w3.heap.size := ⟨_, rfl⟩
  rw [← hn4] at HW ⊢
  have R4 : Hid (W.heap[n4]? = some (.cells #[xa, xv, xo, .int .i64 en] 33 (0, 0))) := HW.out.1
  clear HW hn4
  refine (toProgF_is ts F HK.out.1 HK.out.2 va vb _ T4.out.av T4.out.sv).mono ?_
  rintro e w5 ⟨p1, p2, rfl, g1, g2, hb5⟩
  have C5 := Lib.hid hb5
  have C5s := Lib.hid hb5.size
  have G5 := Lib.hid (And.intro g1 g2)
  have j1 := g1.plain.isOne
  have j2 := g2.isOne
  clear hb5 g1 g2
  -- x0 is put
  go_wp2_with (first | (refine store_abs rfl 27 _ _ rfl w5.heap.size 0 #[p1, p2] rfl rfl ?ht1 sizeIP ?ho1 ?_; exact (thArr2 _ _ _ _); exact (oneP j1 j2); intro Wx hW; have HW := Lib.hid (newArr2 hW); have RX := Lib.hid (blk_range HW.out.1); clear hW) | (refine wpList_load_mid rfl 27 _ rfl w5.heap.size 0 rfl _ _ RX.out Tryz.underlying27 rfl sizeIP ?_))
  obtain ⟨n5, hn5⟩ : ∃ n5, n5 = w5.heap.size := ⟨_, rfl⟩
  rw [← hn5] at HW ⊢
  have R5 : Hid (Wx.heap[n5]? = some (.cells #[p1, p2] 27 (0, 0))) := HW.out.1
  have hb6 := HW.out.2
  rw [hn5] at hb6
  have hge5 : w5.heap.size ≤ n5 := by omega
  have C6 := Lib.hid (C5.out.trans (hb6.mono C5.out.size))
  have G6 : Hid (AVF Wx W.heap.size p1 ts ∧ SVF Wx W.heap.size F p2) := ⟨G5.out.1.later hb6, G5.out.2.later hb6⟩
  have K6 := Lib.hid (And.intro (AKV.of G5.out.1) (SKV.of G5.out.2))
  have M6 : Hid (Mk W.heap.size w5.heap.size w5 Wx) := Mk.of hb6
  have S6 := Lib.hid hb6.size
  have CC : Hid (W.heap.size ≤ w5.heap.size) := C5s.out
  clear HW hb6 C5 G5 RX hn5
  refine (HIN.out.2.2.2.2 _ p1 p2 G6.out.1.plain.low G6.out.2.plain.low).mono ?_
  rintro e w7 ⟨ya, yv, yo, rs, rfl, hrs, hy, hb7⟩
  have Y7 := Lib.hid hy
  have LB7 := Lib.hid hb7.size
  have k1 : ya.oneCell' = true := by obtain ⟨a, c, e⟩ := iownShape hy.out; rw [e]; rfl
  have k2 := (hy.own.row (r := (yv, V)) (by simp)).isOne
  have k3 := (hy.own.row (r := (yo, O)) (by simp)).isOne
  have C7 := Lib.hid (C6.out.trans (hb7.mono C6.out.size))
  have R57 := Lib.hid ((hb7.block _ (lt_heap R5.out)).trans R5.out)
  have M7 := Lib.hid (M6.out.trans (Mk.of hb7))
  have G7 : Hid (AVF w7 W.heap.size p1 ts ∧ SVF w7 W.heap.size F p2) := ⟨G6.out.1.later hb7, G6.out.2.later hb7⟩
  have HRS := Lib.hid hrs
  clear hy hb7 C6 R5 M6 G6 hrs
  obtain ⟨Bg, hBg⟩ : ∃ Bg, Bg = Wx.heap.size := ⟨_, rfl⟩
  rw [← hBg] at Y7 S6
  have hB5 : w5.heap.size ≤ Bg := S6.out
  have hWB : W.heap.size ≤ Bg := Nat.le_trans CC.out hB5
  have LB : Hid (Bg ≤ w7.heap.size) := by rw [hBg]; exact LB7.out
  clear S6 hBg
  -- g0 is put; both are the same
  go_wp2_with (first | (refine store_abs rfl 33 _ _ rfl w7.heap.size 0 #[ya, yv, yo, .int .i64 en] rfl rfl ?ht2 sizeSto ?ho2 ?_; exact (thSto4 _ _ _ _ _ _); exact (one4 k1 k2 k3 rfl); intro Wg hW; have HW := Lib.hid (newSto4 hW); have RG := Lib.hid (blk_range HW.out.1); have R4g := Lib.hid (blk_range (((C7.out.trans (HW.out.2.mono C7.out.size)).block _ (lt_heap R4.out)).trans R4.out)); clear hW) | (refine wpList_load_mid rfl 33 _ rfl w7.heap.size 0 rfl _ _ RG.out Tryz.underlying33 rfl sizeSto ?_) | (refine wpList_load_mid rfl 33 _ rfl n4 0 rfl _ _ R4g.out Tryz.underlying33 rfl sizeSto ?_))
  obtain ⟨n6, hn6⟩ : ∃ n6, n6 = w7.heap.size := ⟨_, rfl⟩
  rw [← hn6] at HW ⊢
  have R6 : Hid (Wg.heap[n6]? = some (.cells #[ya, yv, yo, .int .i64 en] 33 (0, 0))) := HW.out.1
  have hb8 := HW.out.2
  rw [hn6] at hb8
  have hge6 : w5.heap.size ≤ n6 := by have := LB.out; omega
  have Y8 := Lib.hid (Y7.out.later hb8)
  have C8 := Lib.hid (C7.out.trans (hb8.mono C7.out.size))
  have R58 := Lib.hid ((hb8.block _ (lt_heap R57.out)).trans R57.out)
  have M8 := Lib.hid (M7.out.trans (Mk.of hb8))
  have G8 : Hid (AVF Wg W.heap.size p1 ts ∧ SVF Wg W.heap.size F p2) := ⟨G7.out.1.later hb8, G7.out.2.later hb8⟩
  have LB8 : Hid (Bg ≤ Wg.heap.size) := Nat.le_trans LB.out hb8.size
  clear HW hb8 Y7 C7 R57 M7 G7 RG R4g hn6 LB
  have SY : Hid (∀ w', StoO w' Bg ya rs (yv, V) (yo, O) → StoV w' ya yv yo A V O) := fun w' h => by have := h.stoV; rw [HRS.out] at this; exact this
  refine (eqSto_same A V O en HIN.out.1 ya yv yo xa xv xo _ (SY.out _ Y8.out) (X4.out.later C8.out)).mono ?_
  rintro e w9 ⟨rfl, hb9⟩
  have Y9 := Lib.hid (Y8.out.later hb9)
  have C9 := Lib.hid (C8.out.trans (hb9.mono C8.out.size))
  have R59 := Lib.hid ((hb9.block _ (lt_heap R58.out)).trans R58.out)
  have R69 := Lib.hid ((hb9.block _ (lt_heap R6.out)).trans R6.out)
  have M9 := Lib.hid (M8.out.trans (Mk.of hb9))
  have G9 : Hid (AVF w9 W.heap.size p1 ts ∧ SVF w9 W.heap.size F p2) := ⟨G8.out.1.later hb9, G8.out.2.later hb9⟩
  have LB9 : Hid (Bg ≤ w9.heap.size) := Nat.le_trans LB8.out hb9.size
  clear hb9 Y8 C8 R58 M8 G8 R6 LB8
  -- nothing was written into the argument
  go_wp2_with fail
  have bd : Below w9.heap.size w9 w9.drew := (Below.refl _ w9).drew
  have Td := T4.out.later (C9.out.trans (bd.mono C9.out.size))
  have R5d := (bd.block _ (lt_heap R59.out)).trans R59.out
  refine wp_region_held_drew (S := fun w' => w'.rangeAt n5 0 [p1, p2] ∧ w'.rangeAt w.heap.size 0 [va, vb]) (by kernel_rfl) ⟨blk_range R5d, Td.rg⟩ (fun hHeld => ?_)
  refine wpAnyH_take (i := 0) (v := .agg #[p1, p2]) rfl (by kernel_rfl) (by kernel_rfl) (by kernel_rfl) (fun _ _ _ h => h) (yieldsIf_load_mid (by rfl) 27 _ rfl (n5) (0) rfl [p1, p2] _ (fun w h => h.1) Tryz.underlying27 rfl sizeIP) hHeld ?_
  simp only [Act.put, zp]
  refine wpAnyH_take (i := 1) (v := .agg #[va, vb]) rfl (by kernel_rfl) (by kernel_rfl) (by kernel_rfl) (fun _ _ _ h => h) (yieldsIf_load_mid (by rfl) 53 _ rfl (w.heap.size) (0) rfl [va, vb] _ (fun w h => h.2) Tryz.underlying53 rfl sizeLP) hHeld ?_
  simp only [Act.put, zp]
  refine wpAnyH_ready (rs := [2]) (by kernel_rfl) (by simp) ?_
  refine AllReadyH.cons rfl (fun K hK => ?_) AllReadyH.nil
  rw [if_pos (by rfl)]
  simp only [zq]
  go_wp2_with fail
  refine (toProg_is ts F HK.out.1 HK.out.2 va vb _ Td.av Td.sv).mono ?_
  rintro e wb ⟨ua, ub, rfl, ga, gb, hbb⟩
  go_wp2_with fail
  refine hK.out _ _ (⟨rangeAt_later hHeld.1 hbb, rangeAt_later hHeld.2 hbb⟩) (fun hHeld => ?_)
  have bdb := bd.trans (hbb.mono bd.size)
  refine wpAnyH_ready (rs := [3]) (by kernel_rfl) (by simp) ?_
  refine AllReadyH.cons rfl (fun K hK => ?_) AllReadyH.nil
  rw [if_pos (by rfl)]
  simp only [zq]
  go_wp2_with fail
  refine (eqProg_same ts F HK.out.1 HK.out.2 p1 p2 ua ub _ (G9.out.1.plain.low.later bdb) (G9.out.2.plain.low.later bdb) ga gb).mono ?_
  rintro e wc ⟨rfl, hbc⟩
  go_wp2_with fail
  refine hK.out _ _ (⟨rangeAt_later hHeld.1 hbc, rangeAt_later hHeld.2 hbc⟩) (fun hHeld => ?_)
  have hb10 := bdb.trans (hbc.mono bdb.size)
  clear bd Td R5d ga gb hbb hbc bdb
  refine wpAnyH_take (i := 4) (v := .bool false) rfl (by kernel_rfl) (by kernel_rfl) (by kernel_rfl) (fun _ _ _ h => h) (Or.inl ⟨by rfl, ?yb4⟩) hHeld ?_
  case yb4 => intro w hSw; go_simp
  simp only [Act.put, zp]
  refine wpAnyH_done (by kernel_rfl) ?_ _
  clear hHeld
  have Y10 := Lib.hid (Y9.out.later hb10)
  have C10 := Lib.hid (C9.out.trans (hb10.mono C9.out.size))
  have R510 := Lib.hid ((hb10.block _ (lt_heap R59.out)).trans R59.out)
  have R610 := Lib.hid ((hb10.block _ (lt_heap R69.out)).trans R69.out)
  have M10 := Lib.hid (M9.out.trans (Mk.of hb10))
  have LB10 : Hid (Bg ≤ wc.heap.size) := Nat.le_trans LB9.out hb10.size
  have RR5 := Lib.hid (blk_range R510.out)
  clear hb10 Y9 C9 R59 R69 M9 G9 LB9
  -- the argument is marked
  go_wp2_with (refine wpList_load_mid rfl 27 _ rfl n5 0 rfl _ _ RR5.out Tryz.underlying27 rfl sizeIP ?_)
  refine (markProg_is W.heap.size w5.heap.size ts.length F _ p1 p2 HIN.out.2.2.1 (K6.out.1.mk M10.out) (K6.out.2.mk M10.out)).mono ?_
  rintro e w11 ⟨r11, rfl, g11, m11⟩
  have hr11 : ¬ r11 < 0 := by omega
  have C11 := Lib.hid (C10.out.trans (m11.gap.below (Nat.le_refl _) C10.out.size))
  have Y11 : Hid (StoO w11 Bg ya rs (yv, V) (yo, O)) := ⟨ownM Y10.out.out m11.gap hB5, ⟨fun r hr => ownM (Y10.out.own.own r hr) m11.gap hB5, Y10.out.own.apart⟩⟩
  have R611 := Lib.hid ((m11.gap.block n6 (lt_heap R610.out) (.inr hge6)).trans R610.out)
  have LB11 : Hid (Bg ≤ w11.heap.size) := Nat.le_trans LB10.out m11.gap.size
  have RR6 := Lib.hid (blk_range R611.out)
  have RR4 := Lib.hid (blk_range ((C11.out.block _ (lt_heap R4.out)).trans R4.out))
  clear m11 C10 Y10 R510 R610 M10 LB10 RR5 K6 g11
  obtain ⟨⟨e60, e61, e62, e63⟩, _⟩ := blk4 R611.out
  obtain ⟨⟨e40, e41, e42, e43⟩, _⟩ := blk4 ((C11.out.block _ (lt_heap R4.out)).trans R4.out)
  go_wp2_with fail
  refine (eqSto_same A V O en HIN.out.1 ya yv yo xa xv xo _ (SY.out _ Y11.out) (X4.out.later C11.out)).mono ?_
  rintro e w12 ⟨rfl, hb12⟩
  have Y12 := Lib.hid (Y11.out.later hb12)
  have C12 := Lib.hid (C11.out.trans (hb12.mono C11.out.size))
  have R612 := Lib.hid ((hb12.block _ (lt_heap R611.out)).trans R611.out)
  have LB12 : Hid (Bg ≤ w12.heap.size) := Nat.le_trans LB11.out hb12.size
  have RR62 := Lib.hid (blk_range R612.out)
  clear hb12 Y11 C11 R611 RR6 RR4 LB11 e60 e61 e62 e63 e40 e41 e42 e43
  -- the answer is marked
  go_wp2_with (refine wpList_load_mid rfl 33 _ rfl n6 0 rfl _ _ RR62.out Tryz.underlying33 rfl sizeSto ?_)
  have htot : tot (rs ++ [(yv, V), (yo, O)]) = totA A + V.length + O.length := by rw [tot_two, tot_totA, HRS.out]
  have hlen : rs.length ≤ 100000000 := by have h1 := HIN.out.1.a; have h2 := congrArg List.length HRS.out; simp at h2; omega
  have hT2 : 1 + tot (rs ++ [(yv, V), (yo, O)]) ≤ 20000000 := by rw [htot]; exact HIN.out.2.1
  refine (markSto_is rs (yv, V) (yo, O) hT2 hlen Bg ya en _ LB12.out Y12.out).mono ?_
  rintro e w13 ⟨rfl, hm13, hb13, hk13⟩
  have C13 := Lib.hid (C12.out.trans (hb13.mono hWB))
  have R613 := Lib.hid (hk13 n6 _ _ (by decide) R612.out)
  have RR63 := Lib.hid (blk_range R613.out)
  have Z13 := Lib.hid hm13
  have HT2 := Lib.hid (And.intro hT2 hlen)
  obtain ⟨MM, hMM⟩ : ∃ MM : Nat, MM = 1 + tot (rs ++ [(yv, V), (yo, O)]) := ⟨_, rfl⟩
  rw [← hMM]
  have HMM := Lib.hid hMM
  have hnM : ¬ ((MM : Int) < 0) := by omega
  clear hm13 hb13 hk13 htot hlen hT2 C12 Y12 R612 RR62 LB12 hMM
  go_wp2_with (refine wpList_load_mid rfl 33 _ rfl n6 0 rfl _ _ RR63.out Tryz.underlying33 rfl sizeSto ?_)
  refine (heldSto_is rs (yv, V) (yo, O) HT2.out.1 HT2.out.2 Bg ya en _ Z13.out).mono ?_
  rintro e w14 ⟨rfl, hb14⟩
  rw [← HMM.out]
  have C14 := Lib.hid (C13.out.trans (hb14.mono C13.out.size))
  have R614 := Lib.hid ((hb14.block _ (lt_heap R613.out)).trans R613.out)
  have Z14 := Lib.hid (Z13.out.later hb14)
  have T14 := Lib.hid (T4.out.later C14.out)
  clear hb14 C13 R613 RR63 Z13
  go_wp2_with (refine wpList_load_mid rfl 53 _ rfl w.heap.size 0 rfl _ _ T14.out.rg Tryz.underlying53 rfl sizeLP ?_)
  refine (toProg_is ts F HK.out.1 HK.out.2 va vb _ T14.out.av T14.out.sv).mono ?_
  rintro e w15 ⟨ua, ub, rfl, g1, g2, hb15⟩
  have C15 := Lib.hid (C14.out.trans (hb15.mono C14.out.size))
  have R615 := Lib.hid ((hb15.block _ (lt_heap R614.out)).trans R614.out)
  have Z15 := Lib.hid (Z14.out.later hb15)
  have G15 := Lib.hid (And.intro g1 g2)
  clear hb15 C14 R614 Z14 T14 g1 g2
  go_wp2_with fail
  refine (HIN.out.2.2.2.2 _ ua ub G15.out.1 G15.out.2).mono ?_
  rintro e w16 ⟨za, zv, zo, qs, rfl, hqs, hz, hb16⟩
  have S16 : Hid (StoV w16 za zv zo A V O) := by have := hz.stoV; rw [hqs] at this; exact this
  have l1 := S16.out.a.isOne
  have l2 := S16.out.v.isOne
  have l3 := S16.out.o.isOne
  have C16 := Lib.hid (C15.out.trans (hb16.mono C15.out.size))
  have R616 := Lib.hid ((hb16.block _ (lt_heap R615.out)).trans R615.out)
  have Z16 := Lib.hid (Z15.out.later hb16)
  clear hz hb16 C15 R615 Z15 G15 hqs
  go_wp2_with (first | (refine store_abs rfl 33 _ _ rfl w16.heap.size 0 #[za, zv, zo, .int .i64 en] rfl rfl ?ht3 sizeSto ?ho3 ?_; exact (thSto4 _ _ _ _ _ _); exact (one4 l1 l2 l3 rfl); intro Wh hW; have HW := Lib.hid (newSto4 hW); have RH := Lib.hid (blk_range HW.out.1); have R4h := Lib.hid (blk_range (((C16.out.trans (HW.out.2.mono C16.out.size)).block _ (lt_heap R4.out)).trans R4.out)); clear hW) | (refine wpList_load_mid rfl 33 _ rfl w16.heap.size 0 rfl _ _ RH.out Tryz.underlying33 rfl sizeSto ?_) | (refine wpList_load_mid rfl 33 _ rfl n4 0 rfl _ _ R4h.out Tryz.underlying33 rfl sizeSto ?_))
  have hb17 := HW.out.2
  have C17 := Lib.hid (C16.out.trans (hb17.mono C16.out.size))
  have R617 := Lib.hid ((hb17.block _ (lt_heap R616.out)).trans R616.out)
  have Z17 := Lib.hid (Z16.out.later hb17)
  have S17 := Lib.hid (S16.out.later hb17)
  clear hb17 C16 R616 Z16 S16 HW RH R4h
  refine (eqSto_same A V O en HIN.out.1 za zv zo xa xv xo _ S17.out (X4.out.later C17.out)).mono ?_
  rintro e w18 ⟨rfl, hb18⟩
  have C18 := Lib.hid (C17.out.trans (hb18.mono C17.out.size))
  have R618 := Lib.hid ((hb18.block _ (lt_heap R617.out)).trans R617.out)
  have Z18 := Lib.hid (Z17.out.later hb18)
  have RR618 := Lib.hid (blk_range R618.out)
  clear hb18 C17 R617 Z17 S17
  go_wp2_with (refine wpList_load_mid rfl 33 _ rfl n6 0 rfl _ _ RR618.out Tryz.underlying33 rfl sizeSto ?_)
  refine (heldSto_is rs (yv, V) (yo, O) HT2.out.1 HT2.out.2 Bg ya en _ Z18.out).mono ?_
  rintro e w19 ⟨rfl, hb19⟩
  rw [← HMM.out]
  have C19 := Lib.hid (C18.out.trans (hb19.mono C18.out.size))
  clear hb19 C18 R618 Z18 RR618
  go_wp2
  go_ret
  exact ⟨rfl, (T4.out.later C19.out).low⟩
theorem abytes_mem {ts : List AR} {t : AR} (h : t ∈ ts) : t.s.size ≤ abytes ts := by
  induction ts with
  | nil => simp at h
  | cons u us ih =>
    rcases List.mem_cons.1 h with rfl | h
    · simp only [abytes]; omega
    · have := ih h; simp only [abytes]; omega
theorem totA_len : ∀ {A B : List (List Int)}, A.map List.length = B.map List.length → totA A = totA B
  | [], [], _ => rfl
  | [], _ :: _, h => by simp at h
  | _ :: _, [], h => by simp at h
  | x :: A, y :: B, h => by
    simp only [List.map_cons, List.cons.injEq] at h
    simp only [totA, h.1, totA_len h.2]
theorem inner (ts : List AR) (F : SF) (fuel : Int) (hin : asize ts + ssize F ≤ 1048576) : StoL (runR ts F fuel).2.A (runR ts F fuel).2.V (runR ts F fuel).2.O ∧ 1 + (totA (runR ts F fuel).2.A + (runR ts F fuel).2.V.length + (runR ts F fuel).2.O.length) ≤ 20000000 ∧ 1 + 2 * (ts.length : Int) + (smk F : Int) ≤ 20000000 ∧
      (∀ w va vb, AV w 0 va ts → SV w 0 F vb → Calls Tryz.prog 11 #[.agg #[va, vb], .int .i64 fuel] w (SpecSto w (runR ts F fuel).2.A (runR ts F fuel).2.V (runR ts F fuel).2.O ((runR ts F fuel).1 : Int))) ∧
      (∀ w va vb, AV w 0 va ts → SV w 0 F vb → Calls Tryz.prog 8 #[.agg #[va, vb], .int .i64 fuel] w (OutSto w (runR ts F fuel).2.A (runR ts F fuel).2.V (runR ts F fuel).2.O ((runR ts F fuel).1 : Int))) := by
  have kn : ts.length + ssize F ≤ 1048576 := by unfold asize at hin; omega
  have h3 := smk_le F
  have kt : ∀ t ∈ ts, t.s.size ≤ 1048576 := fun t ht => by have := abytes_mem ht; unfold asize at hin; omega
  have km : (sallE F).length ≤ 10000000 := by have := sallE_len F; omega
  have hb : StoL (runR ts F fuel).2.A (runR ts F fuel).2.V (runR ts F fuel).2.O ∧ 1 + (totA (runR ts F fuel).2.A + (runR ts F fuel).2.V.length + (runR ts F fuel).2.O.length) ≤ 20000000 := by
    by_cases hp : progB ts F = true
    · have e : runR ts F fuel = exec ts (nmS 1 F []) (fuelN fuel + 1) [] (.inl F) (run0 ts F fuel) := by rw [runR, if_pos hp]
      have f0 := run0_fine hp fuel
      have fx := exec_fine (fuelN fuel + 1) [] (.inl F) (run0 ts F fuel) (prog_ok hp) f0
      have lx := exec_like ts (nmS 1 F []) (fuelN fuel + 1) [] (.inl F) (run0 ts F fuel)
      rw [← e] at fx lx
      have h4 := totA_zrows ts
      have h5 := totA_len lx.a
      have h6 : totA (run0 ts F fuel).A = totA (zrows ts) := rfl
      have h7 := fx.rb.a
      have h8 := fx.rb.v
      have h9 := fx.o
      exact ⟨⟨by omega, fun xs hx => Nat.le_trans (fx.rb.b xs hx) (by omega), by omega, by omega⟩, by omega⟩
    · have e : runR ts F fuel = (1, ⟨[], [], [], 0⟩) := by rw [runR, if_neg hp]
      rw [e]
      exact ⟨⟨by simp, fun xs hx => by simp at hx, by simp, by simp⟩, by simp [totA]⟩
  exact ⟨hb.1, hb.2, by omega, fun w va vb ha hv => spec_Run ts (by omega) kt F (by omega) km fuel va vb w ha hv, fun w va vb ha hv => impl_Run ts (by omega) kt F (by omega) fuel va vb w ha hv⟩
set_option maxRecDepth 100000 in
theorem lifted (os : Os) (started : os.Started) (H : Type) (enc : TypeId × Value → H) :
    ReturnsInHanded {} Tryz.checked os 5 .any (Rows.fnExactRunSpec.pre6 enc Tryz.prog Tryz.f5 Rows.fnExactRunRow.domain false) (Rows.fnExactRunSpec.post enc Tryz.prog Tryz.f5 false true false false) := by
  refine returnsInHanded_of_change (C := Tryz.checked) own started (by kernel_rfl) Tryz.func5
    (ChangeSpec.witness6 (enc := enc) (C := Tryz.checked) false ⟨#[], #[.agg #[.slice none 0 0, .slice none 0 0], .int .i64 0], []⟩ 8 (by kernel_rfl) (by kernel_rfl) (by kernel_rfl) (by kernel_rfl)) ?_
  intro W base args ds gs before hval0 hW hcnd _
  have hW' := hW
  obtain ⟨p, q, hA0, hV, rfl, hfz, hnd⟩ := hW
  have hA : DataW.TrodAll enc Tryz.prog W 0 (fun _ => true) true Tryz.f5.params.toList args.toList ds p := hA0
  have hval : ∀ (j : Nat) t v, Tryz.f5.params[j]? = some t → args[j]? = some v → Value.okWide Tryz.prog W .any base t v := hval0
  rw [Tryz.params5] at hA hval
  obtain ⟨v0, vs0, d0, ds0, p0, q0, hargs, rfl, rfl, h0, r0⟩ := trodAll_cons hA
  obtain ⟨v1, vs1, d1, ds1, p1, q1, rfl, rfl, rfl, h1, r1⟩ := trodAll_cons r0
  obtain ⟨rfl, rfl, rfl⟩ := trodAll_nil r1
  obtain rfl : args = #[v0, v1] := by cases args; simp_all
  obtain ⟨rfl, rfl⟩ := trodVars_none hV
  obtain ⟨cs0, rfl, _⟩ := okWide_struct Tryz.underlying53 (hval 0 53 v0 rfl rfl)
  obtain ⟨fu, rfl⟩ := okWide_int Tryz.underlying3 (hval 1 3 v1 rfl rfl)
  have k0 := h0
  have k1 := h1
  have lt1 : ∀ x ∈ p1, x.block < W.heap.size := by obtain ⟨m, hm⟩ := k1; exact DataW.trod_lt m _ _ _ hm
  have lt0 : ∀ x ∈ p0, x.block < W.heap.size := by obtain ⟨m, hm⟩ := k0; exact DataW.trod_lt m _ _ _ hm
  obtain ⟨ts, F, va, vb, hcs, h2, h3, h4, h5, h6, h7⟩ : ∃ (ts : List AR) (F : SF) (va vb : Value), cs0 = #[va, vb] ∧ (∀ t ∈ ts, t.s.size ≤ 9223372036854775807) ∧ ts.length ≤ 9223372036854775807 ∧ sok F ∧ slen F ≤ 9223372036854775807 ∧ AV W 0 va ts ∧ SV W 0 F vb := by
    obtain ⟨fuel, hf⟩ := h0
    obtain ⟨ts, F, va, vb, e, h2, h3, h4, h5, h6, h7⟩ := open_prog hf
    have e2 : cs0.toList = [va, vb] := by simpa [Value.cells] using e
    exact ⟨ts, F, va, vb, by rw [← e2], h2, h3, h4, h5, h6, h7⟩
  subst hcs
  clear hA0 hval0
  refine (walk ts F fu (runR ts F fu).2.A (runR ts F fu).2.V (runR ts F fu).2.O ((runR ts F fu).1 : Int) h2 h3 h4 h5 va vb W h6 h7 (inner ts F fu)).mono fun e W' ⟨he, bel⟩ => ?_
  subst he
  exact ⟨_, rfl, _, _, _, [], _, [], hW', trodAll_mk1 (shut_bool Tryz.underlying4 _), (trodAll_cons_mk (Below.trod laidOut (by kernel_rfl) (of_decide_eq_true (by kernel_rfl)) k0 bel lt0) (trodAll_cons_mk (Below.trod laidOut (by kernel_rfl) (of_decide_eq_true (by kernel_rfl)) k1 bel lt1) trodAll_mk0)), rfl, bel.frame _, fun h => by cases h⟩
theorem over : Rows.fnExactRunRow.holds Tryz.pinned (OpenSpec.ofChange Rows.fnExactRunSpec) :=
  OpenClaim.holds_of_wide 5 Tryz.f5 rfl rfl rfl rfl rfl rfl rfl ⟨rfl, rfl, rfl, rfl, rfl⟩ rfl rfl rfl rfl rfl (by kernel_rfl) Tryz.func5 (by kernel_rfl)
    (of_decide_eq_true (by kernel_rfl)) (by unfold Func.isWrapper; first | (rw [if_pos (by decide +kernel)]; kernel_rfl) | (rw [if_neg (by decide +kernel)]; exact ⟨rfl, rfl⟩))
    (fun os started H enc _ => lifted os started H enc)
end Go.Proofs.YtfoghiminlbdaaaGreat.fnExactRun
namespace Go.Proofs.YtfoghiminlbdaaaGreat
/-- THE STATEMENT -/
theorem fnExactRun_holds : Rows.FnExactRunSaid := fnExactRun.over
#print axioms fnExactRun_holds
end Go.Proofs.YtfoghiminlbdaaaGreat
