/-
  l12Stmt, Counts of the specification.
-/
import Derived.Test.YthokildkedlkfaaCntSpec
namespace Go.Proofs.Ythokildkedlkfaa
open Go.RowKit Go.Lib
set_option linter.unusedSimpArgs false
set_option linter.unusedVariables false

theorem parts19 {w : World} {b : Nat} {hk : Int} {hs : ByteArray} {x1 x2 x3 x4 : X} {v1 v2 v3 v4 v : Value} (h : w.rangeAt b 0 (scells ⟨hk, hs, x1, x2, x3, x4⟩ v1 v2 v3 v4 v)) :
    w.rangeAt b 2 (xcells x1 v1) ∧ w.rangeAt b 6 (xcells x2 v2) ∧ w.rangeAt b 10 (xcells x3 v3) ∧ w.rangeAt b 14 (xcells x4 v4) := by
  have q : ∀ (o : Nat) (cs : List Value), (∀ j v', cs[j]? = some v' → (scells ⟨hk, hs, x1, x2, x3, x4⟩ v1 v2 v3 v4 v)[o + j]? = some v') → w.rangeAt b o cs := fun o cs hc j v' hj => by
    have := h (o + j) v' (hc j v' hj)
    rwa [Nat.zero_add] at this
  refine ⟨q 2 _ ?_, q 6 _ ?_, q 10 _ ?_, q 14 _ ?_⟩
  all_goals
    intro j v' hj
    match j, hj with
    | 0, hj => exact hj
    | 1, hj => exact hj
    | 2, hj => exact hj
    | 3, hj => exact hj
    | j + 4, hj => simp [xcells] at hj
theorem sizeIEC : (Try.prog.info? 26).map (·.size) = some 4 := by kernel_rfl
set_option maxHeartbeats 4000000 in
set_option maxRecDepth 100000 in
theorem l12Stmt_is (s : ByteArray) (hk0 : Int) (hs0 : ByteArray) (x1 x2 x3 x4 : X) (l : SF) (v1 v2 v3 v4 v : Value) (w : World) (hv : HV w 0 ⟨hk0, hs0, x1, x2, x3, x4⟩ v1 v2 v3 v4) (hsv : SV w 0 l v)
    (hbd : enodes x1.l + enodes x2.l + enodes x3.l + enodes x4.l + 4 + (sallE l).length ≤ 10000000) (hbs : snodes l + 1 ≤ 10000000)
    (ih : ∀ (w : World) (v : Value), SV w 0 l v → Calls Try.prog 13 #[v, .string s] w (CntP s l w)) :
    Calls Try.prog 44 #[sagg ⟨hk0, hs0, x1, x2, x3, x4⟩ v1 v2 v3 v4 v, .string s] w fun e w' => e = .returned (.tuple #[.int .i64 ((if hitS s (⟨hk0, hs0, x1, x2, x3, x4⟩, l) = true then 1 else 0) + setsF s l : Nat), .int .i64 (asksH s ⟨hk0, hs0, x1, x2, x3, x4⟩ + asksF s l : Nat)]) ∧ Below w.heap.size w w' := by
  obtain ⟨W1, hW1⟩ : ∃ W1, W1 = w.alloc (.cells (sarr ⟨hk0, hs0, x1, x2, x3, x4⟩ v1 v2 v3 v4 v) 29) := ⟨_, rfl⟩
  have hB0 : Below w.heap.size w W1 := by rw [hW1]; exact alloc_below _ _
  have hrg : W1.rangeAt w.heap.size 0 (scells ⟨hk0, hs0, x1, x2, x3, x4⟩ v1 v2 v3 v4 v) := by
    rw [hW1]; exact blk_range (arr := sarr ⟨hk0, hs0, x1, x2, x3, x4⟩ v1 v2 v3 v4 v) (t := 29) (fr := (0, 0)) (by show (w.heap.push _)[w.heap.size]? = _; simp)
  have RG := Lib.hid (fun (w' : World) (hb : Below W1.heap.size W1 w') => rangeAt_later hrg hb)
  have HV1 := Lib.hid (hv.later hB0)
  have HSV := Lib.hid (hsv.later hB0)
  have HB0 := Lib.hid hB0
  have HBD := Lib.hid hbd
  have HIH := Lib.hid ih
  obtain ⟨n0, hn0⟩ : ∃ n, asksF s l = n := ⟨_, rfl⟩
  obtain ⟨m0, hm0⟩ : ∃ n, setsF s l = n := ⟨_, rfl⟩
  obtain ⟨q1, hq1⟩ : ∃ n, asksX s x1 = n := ⟨_, rfl⟩
  obtain ⟨q2, hq2⟩ : ∃ n, asksX s x2 = n := ⟨_, rfl⟩
  obtain ⟨q3, hq3⟩ : ∃ n, asksX s x3 = n := ⟨_, rfl⟩
  obtain ⟨q4, hq4⟩ : ∃ n, asksX s x4 = n := ⟨_, rfl⟩
  have hsum : asksH s ⟨hk0, hs0, x1, x2, x3, x4⟩ + asksF s l = q1 + (q2 + (q3 + q4)) + n0 := by simp only [asksH, hq1, hq2, hq3, hq4, hn0]
  have hbnd : q1 + q2 + q3 + q4 + n0 ≤ 10000000 ∧ m0 + 1 ≤ 10000000 := by
    have h1 := asksX_le s x1; have h2 := asksX_le s x2; have h3 := asksX_le s x3; have h4 := asksX_le s x4; have h5 := asksF_le s l; have h6 := setsF_le s l
    omega
  have HQ1 := Lib.hid hq1
  have HQ2 := Lib.hid hq2
  have HQ3 := Lib.hid hq3
  have HQ4 := Lib.hid hq4
  have HQ0 := Lib.hid (And.intro hm0 hn0)
  obtain ⟨bb, hbb⟩ : ∃ b : Int, (n0 : Int) = b := ⟨_, rfl⟩
  obtain ⟨z1, hz1⟩ : ∃ z, IntKind.i64.wrap (bb + (q1 : Int)) = z := ⟨_, rfl⟩
  obtain ⟨z2, hz2⟩ : ∃ z, IntKind.i64.wrap (z1 + (q2 : Int)) = z := ⟨_, rfl⟩
  obtain ⟨z3, hz3⟩ : ∃ z, IntKind.i64.wrap (z2 + (q3 : Int)) = z := ⟨_, rfl⟩
  obtain ⟨z4, hz4⟩ : ∃ z, IntKind.i64.wrap (z3 + (q4 : Int)) = z := ⟨_, rfl⟩
  have HZ : Hid (z4 = ((q1 + (q2 + (q3 + q4)) + n0 : Nat) : Int)) := show _ = _ by
    have f1 : z1 = (n0 : Int) + (q1 : Int) := by rw [← hz1, ← hbb, IntKind.wrap_i64]; omega
    have f2 : z2 = (n0 : Int) + (q1 : Int) + (q2 : Int) := by rw [← hz2, f1, IntKind.wrap_i64]; omega
    have f3 : z3 = (n0 : Int) + (q1 : Int) + (q2 : Int) + (q3 : Int) := by rw [← hz3, f2, IntKind.wrap_i64]; omega
    rw [← hz4, f3, IntKind.wrap_i64]; omega
  have HM := Lib.hid hbnd.2
  rw [hsum, hm0]
  clear hv hsv hbd hbs ih hB0 hrg hn0 hm0 hq1 hq2 hq3 hq4 hsum hbnd
  by_cases hk : hk0 = 1
  · subst hk
    by_cases hs : hs0 = s
    · subst hs
      have e1 : (if hitS hs0 (⟨1, hs0, x1, x2, x3, x4⟩, l) = true then 1 else 0) + m0 = m0 + 1 := by simp [hitS]; omega
      rw [e1]
      obtain ⟨aa, haa⟩ : ∃ a, wrap64 ((m0 : Int) + 1) = a := ⟨_, rfl⟩
      have HA : Hid (aa = ((m0 + 1 : Nat) : Int)) := show _ = _ by rw [← haa]; have := HM.out; unfold wrap64; omega
      clear e1
      go_enter Try.func44, Try.ntmps44
      have r18 : W1.cell? ⟨w.heap.size, 18, Option.none⟩ = some v := (RG.out W1 (Below.refl _ _)) 18 _ rfl
      rw [hW1] at r18
      go_wp2_with fail
      rw [← hW1]
      refine (HIH.out _ v HSV.out).mono ?_
      rintro e w2 ⟨rfl, hb2⟩
      rw [HQ0.out.1, HQ0.out.2, hbb]
      have HB2 := Lib.hid (HB0.out.trans (hb2.mono HB0.out.size))
      have RX : Hid (∀ wz, Below w2.heap.size w2 wz → wz.rangeAt w.heap.size 2 (xcells x1 v1) ∧ wz.rangeAt w.heap.size 6 (xcells x2 v2) ∧ wz.rangeAt w.heap.size 10 (xcells x3 v3) ∧ wz.rangeAt w.heap.size 14 (xcells x4 v4)) := show ∀ _, _ from fun wz hz => parts19 (RG.out wz (hb2.trans (hz.mono hb2.size)))
      have HVX := Lib.hid (fun (wz : World) (hz : Below w2.heap.size w2 wz) => HV1.out.later (hb2.trans (hz.mono hb2.size)))
      have r0 : w2.cell? ⟨w.heap.size, 0, Option.none⟩ = some (.int .i64 1) := (RG.out w2 hb2) 0 _ rfl
      have r1 : w2.cell? ⟨w.heap.size, 1, Option.none⟩ = some (.string hs0) := (RG.out w2 hb2) 1 _ rfl
      clear hb2 r18 hW1
      go_wp2_with fail
      have bd : Below w2.heap.size w2 w2.drew := (Below.refl _ w2).drew
      refine wp_region_held_drew (S := Below w2.heap.size w2) (by kernel_rfl) bd (fun hHeld => ?_)
      clear bd
      refine wpAnyH_take (i := 0) (v := .int .i64 aa) rfl (by kernel_rfl) (by kernel_rfl) (by kernel_rfl) (fun _ _ _ h => h) (Or.inl ⟨by rfl, ?y40⟩) hHeld ?_
      case y40 => intro w hSw; go_simp
      simp only [Act.put, List.getElem_toArray, List.getElem_cons_succ, List.getElem_cons_zero, List.setIfInBounds_toArray, List.set_cons_zero, List.set_cons_succ]
      refine wpAnyH_take (i := 1) (v := .int .i64 bb) rfl (by kernel_rfl) (by kernel_rfl) (by kernel_rfl) (fun _ _ _ h => h) (Or.inl ⟨by rfl, ?y41⟩) hHeld ?_
      case y41 => intro w hSw; go_simp
      simp only [Act.put, List.getElem_toArray, List.getElem_cons_succ, List.getElem_cons_zero, List.setIfInBounds_toArray, List.set_cons_zero, List.set_cons_succ]
      refine wpAnyH_take (i := 2) (v := .pointer (some ⟨w.heap.size, 2, Option.none⟩)) rfl (by kernel_rfl) (by kernel_rfl) (by kernel_rfl) (fun _ _ _ h => h) (Or.inl ⟨by rfl, ?y42⟩) hHeld ?_
      case y42 => intro w hSw; go_simp
      simp only [Act.put, List.getElem_toArray, List.getElem_cons_succ, List.getElem_cons_zero, List.setIfInBounds_toArray, List.set_cons_zero, List.set_cons_succ]
      refine wpAnyH_take (i := 3) (v := xaggC x1 v1) rfl (by kernel_rfl) (by kernel_rfl) (by kernel_rfl) (fun _ _ _ h => h) (yieldsIf_load_mid (by rfl) 26 _ rfl (w.heap.size) (2) rfl (xcells x1 v1) _ (fun w h => (RX.out w h).1) Try.underlying26 rfl sizeIEC) hHeld ?_
      simp only [Act.put, List.getElem_toArray, List.getElem_cons_succ, List.getElem_cons_zero, List.setIfInBounds_toArray, List.set_cons_zero, List.set_cons_succ]
      refine wpAnyH_take (i := 4) (v := .string hs0) rfl (by kernel_rfl) (by kernel_rfl) (by kernel_rfl) (fun _ _ _ h => h) (Or.inl ⟨by rfl, ?y44⟩) hHeld ?_
      case y44 => intro w hSw; go_simp
      simp only [Act.put, List.getElem_toArray, List.getElem_cons_succ, List.getElem_cons_zero, List.setIfInBounds_toArray, List.set_cons_zero, List.set_cons_succ]
      refine wpAnyH_take (i := 7) (v := .pointer (some ⟨w.heap.size, 6, Option.none⟩)) rfl (by kernel_rfl) (by kernel_rfl) (by kernel_rfl) (fun _ _ _ h => h) (Or.inl ⟨by rfl, ?y47⟩) hHeld ?_
      case y47 => intro w hSw; go_simp
      simp only [Act.put, List.getElem_toArray, List.getElem_cons_succ, List.getElem_cons_zero, List.setIfInBounds_toArray, List.set_cons_zero, List.set_cons_succ]
      refine wpAnyH_take (i := 8) (v := xaggC x2 v2) rfl (by kernel_rfl) (by kernel_rfl) (by kernel_rfl) (fun _ _ _ h => h) (yieldsIf_load_mid (by rfl) 26 _ rfl (w.heap.size) (6) rfl (xcells x2 v2) _ (fun w h => (RX.out w h).2.1) Try.underlying26 rfl sizeIEC) hHeld ?_
      simp only [Act.put, List.getElem_toArray, List.getElem_cons_succ, List.getElem_cons_zero, List.setIfInBounds_toArray, List.set_cons_zero, List.set_cons_succ]
      refine wpAnyH_take (i := 9) (v := .string hs0) rfl (by kernel_rfl) (by kernel_rfl) (by kernel_rfl) (fun _ _ _ h => h) (Or.inl ⟨by rfl, ?y49⟩) hHeld ?_
      case y49 => intro w hSw; go_simp
      simp only [Act.put, List.getElem_toArray, List.getElem_cons_succ, List.getElem_cons_zero, List.setIfInBounds_toArray, List.set_cons_zero, List.set_cons_succ]
      refine wpAnyH_take (i := 12) (v := .pointer (some ⟨w.heap.size, 10, Option.none⟩)) rfl (by kernel_rfl) (by kernel_rfl) (by kernel_rfl) (fun _ _ _ h => h) (Or.inl ⟨by rfl, ?y412⟩) hHeld ?_
      case y412 => intro w hSw; go_simp
      simp only [Act.put, List.getElem_toArray, List.getElem_cons_succ, List.getElem_cons_zero, List.setIfInBounds_toArray, List.set_cons_zero, List.set_cons_succ]
      refine wpAnyH_take (i := 13) (v := xaggC x3 v3) rfl (by kernel_rfl) (by kernel_rfl) (by kernel_rfl) (fun _ _ _ h => h) (yieldsIf_load_mid (by rfl) 26 _ rfl (w.heap.size) (10) rfl (xcells x3 v3) _ (fun w h => (RX.out w h).2.2.1) Try.underlying26 rfl sizeIEC) hHeld ?_
      simp only [Act.put, List.getElem_toArray, List.getElem_cons_succ, List.getElem_cons_zero, List.setIfInBounds_toArray, List.set_cons_zero, List.set_cons_succ]
      refine wpAnyH_take (i := 14) (v := .string hs0) rfl (by kernel_rfl) (by kernel_rfl) (by kernel_rfl) (fun _ _ _ h => h) (Or.inl ⟨by rfl, ?y414⟩) hHeld ?_
      case y414 => intro w hSw; go_simp
      simp only [Act.put, List.getElem_toArray, List.getElem_cons_succ, List.getElem_cons_zero, List.setIfInBounds_toArray, List.set_cons_zero, List.set_cons_succ]
      refine wpAnyH_take (i := 17) (v := .pointer (some ⟨w.heap.size, 14, Option.none⟩)) rfl (by kernel_rfl) (by kernel_rfl) (by kernel_rfl) (fun _ _ _ h => h) (Or.inl ⟨by rfl, ?y417⟩) hHeld ?_
      case y417 => intro w hSw; go_simp
      simp only [Act.put, List.getElem_toArray, List.getElem_cons_succ, List.getElem_cons_zero, List.setIfInBounds_toArray, List.set_cons_zero, List.set_cons_succ]
      refine wpAnyH_take (i := 18) (v := xaggC x4 v4) rfl (by kernel_rfl) (by kernel_rfl) (by kernel_rfl) (fun _ _ _ h => h) (yieldsIf_load_mid (by rfl) 26 _ rfl (w.heap.size) (14) rfl (xcells x4 v4) _ (fun w h => (RX.out w h).2.2.2) Try.underlying26 rfl sizeIEC) hHeld ?_
      simp only [Act.put, List.getElem_toArray, List.getElem_cons_succ, List.getElem_cons_zero, List.setIfInBounds_toArray, List.set_cons_zero, List.set_cons_succ]
      refine wpAnyH_take (i := 19) (v := .string hs0) rfl (by kernel_rfl) (by kernel_rfl) (by kernel_rfl) (fun _ _ _ h => h) (Or.inl ⟨by rfl, ?y419⟩) hHeld ?_
      case y419 => intro w hSw; go_simp
      simp only [Act.put, List.getElem_toArray, List.getElem_cons_succ, List.getElem_cons_zero, List.setIfInBounds_toArray, List.set_cons_zero, List.set_cons_succ]
      refine wpAnyH_ready (rs := [5]) (by kernel_rfl) (by simp) ?_
      refine AllReadyH.cons rfl (fun K hK => ?_) AllReadyH.nil
      rw [if_pos (by rfl)]
      simp only [List.getElem_toArray, List.getElem_cons_succ, List.getElem_cons_zero]
      go_wp2_with fail
      refine (l12Asks_is hs0 x1 _ v1 (by have := HBD.out; omega) (HVX.out _ hHeld).e1).mono ?_
      rintro e wa1 ⟨rfl, hba⟩
      rw [show asksX hs0 x1 = q1 from HQ1.out]
      go_wp2_with fail
      refine hK.out _ _ (hHeld.trans (hba.mono hHeld.size)) (fun hHeld => ?_)
      clear hba
      refine wpAnyH_take (i := 6) (v := .int .i64 z1) rfl (by kernel_rfl) (by kernel_rfl) (by kernel_rfl) (fun _ _ _ h => h) (Or.inl ⟨by rfl, ?y46⟩) hHeld ?_
      case y46 => intro w hSw; go_simp; try exact hz1
      simp only [Act.put, List.getElem_toArray, List.getElem_cons_succ, List.getElem_cons_zero, List.setIfInBounds_toArray, List.set_cons_zero, List.set_cons_succ]
      refine wpAnyH_ready (rs := [10]) (by kernel_rfl) (by simp) ?_
      refine AllReadyH.cons rfl (fun K hK => ?_) AllReadyH.nil
      rw [if_pos (by rfl)]
      simp only [List.getElem_toArray, List.getElem_cons_succ, List.getElem_cons_zero]
      go_wp2_with fail
      refine (l12Asks_is hs0 x2 _ v2 (by have := HBD.out; omega) (HVX.out _ hHeld).e2).mono ?_
      rintro e wa2 ⟨rfl, hba⟩
      rw [show asksX hs0 x2 = q2 from HQ2.out]
      go_wp2_with fail
      refine hK.out _ _ (hHeld.trans (hba.mono hHeld.size)) (fun hHeld => ?_)
      clear hba
      refine wpAnyH_take (i := 11) (v := .int .i64 z2) rfl (by kernel_rfl) (by kernel_rfl) (by kernel_rfl) (fun _ _ _ h => h) (Or.inl ⟨by rfl, ?y411⟩) hHeld ?_
      case y411 => intro w hSw; go_simp; try exact hz2
      simp only [Act.put, List.getElem_toArray, List.getElem_cons_succ, List.getElem_cons_zero, List.setIfInBounds_toArray, List.set_cons_zero, List.set_cons_succ]
      refine wpAnyH_ready (rs := [15]) (by kernel_rfl) (by simp) ?_
      refine AllReadyH.cons rfl (fun K hK => ?_) AllReadyH.nil
      rw [if_pos (by rfl)]
      simp only [List.getElem_toArray, List.getElem_cons_succ, List.getElem_cons_zero]
      go_wp2_with fail
      refine (l12Asks_is hs0 x3 _ v3 (by have := HBD.out; omega) (HVX.out _ hHeld).e3).mono ?_
      rintro e wa3 ⟨rfl, hba⟩
      rw [show asksX hs0 x3 = q3 from HQ3.out]
      go_wp2_with fail
      refine hK.out _ _ (hHeld.trans (hba.mono hHeld.size)) (fun hHeld => ?_)
      clear hba
      refine wpAnyH_take (i := 16) (v := .int .i64 z3) rfl (by kernel_rfl) (by kernel_rfl) (by kernel_rfl) (fun _ _ _ h => h) (Or.inl ⟨by rfl, ?y416⟩) hHeld ?_
      case y416 => intro w hSw; go_simp; try exact hz3
      simp only [Act.put, List.getElem_toArray, List.getElem_cons_succ, List.getElem_cons_zero, List.setIfInBounds_toArray, List.set_cons_zero, List.set_cons_succ]
      refine wpAnyH_ready (rs := [20]) (by kernel_rfl) (by simp) ?_
      refine AllReadyH.cons rfl (fun K hK => ?_) AllReadyH.nil
      rw [if_pos (by rfl)]
      simp only [List.getElem_toArray, List.getElem_cons_succ, List.getElem_cons_zero]
      go_wp2_with fail
      refine (l12Asks_is hs0 x4 _ v4 (by have := HBD.out; omega) (HVX.out _ hHeld).e4).mono ?_
      rintro e wa4 ⟨rfl, hba⟩
      rw [show asksX hs0 x4 = q4 from HQ4.out]
      go_wp2_with fail
      refine hK.out _ _ (hHeld.trans (hba.mono hHeld.size)) (fun hHeld => ?_)
      clear hba
      refine wpAnyH_take (i := 21) (v := .int .i64 z4) rfl (by kernel_rfl) (by kernel_rfl) (by kernel_rfl) (fun _ _ _ h => h) (Or.inl ⟨by rfl, ?y421⟩) hHeld ?_
      case y421 => intro w hSw; go_simp; try exact hz4
      simp only [Act.put, List.getElem_toArray, List.getElem_cons_succ, List.getElem_cons_zero, List.setIfInBounds_toArray, List.set_cons_zero, List.set_cons_succ]
      refine wpAnyH_take (i := 22) (v := .int .i64 aa) rfl (by kernel_rfl) (by kernel_rfl) (by kernel_rfl) (fun _ _ _ h => h) (Or.inl ⟨by rfl, ?y422⟩) hHeld ?_
      case y422 => intro w hSw; go_simp
      simp only [Act.put, List.getElem_toArray, List.getElem_cons_succ, List.getElem_cons_zero, List.setIfInBounds_toArray, List.set_cons_zero, List.set_cons_succ]
      refine wpAnyH_take (i := 23) (v := .int .i64 z4) rfl (by kernel_rfl) (by kernel_rfl) (by kernel_rfl) (fun _ _ _ h => h) (Or.inl ⟨by rfl, ?y423⟩) hHeld ?_
      case y423 => intro w hSw; go_simp
      simp only [Act.put, List.getElem_toArray, List.getElem_cons_succ, List.getElem_cons_zero, List.setIfInBounds_toArray, List.set_cons_zero, List.set_cons_succ]
      refine wpAnyH_done (by kernel_rfl) ?_ _
      have B9 := Lib.hid (HB2.out.trans (hHeld.mono HB2.out.size))
      clear hHeld
      go_wp2
      exact bodyPost_ret (v := .tuple #[.int .i64 aa, .int .i64 z4]) (by simp [results, Try.results44, go_sem]) rfl ⟨by rw [show z4 = _ from HZ.out, show aa = _ from HA.out], B9.out⟩
    · have e1 : (if hitS s (⟨1, hs0, x1, x2, x3, x4⟩, l) = true then 1 else 0) + m0 = m0 := by simp [hitS, hs]
      rw [e1]
      obtain ⟨aa, haa⟩ : ∃ a : Int, (m0 : Int) = a := ⟨_, rfl⟩
      have HA : Hid (aa = (m0 : Int)) := haa.symm
      have hsb := str_ne hs
      clear e1
      go_enter Try.func44, Try.ntmps44
      have r18 : W1.cell? ⟨w.heap.size, 18, Option.none⟩ = some v := (RG.out W1 (Below.refl _ _)) 18 _ rfl
      rw [hW1] at r18
      go_wp2_with fail
      rw [← hW1]
      refine (HIH.out _ v HSV.out).mono ?_
      rintro e w2 ⟨rfl, hb2⟩
      rw [HQ0.out.1, HQ0.out.2, hbb]
      have HB2 := Lib.hid (HB0.out.trans (hb2.mono HB0.out.size))
      have RX : Hid (∀ wz, Below w2.heap.size w2 wz → wz.rangeAt w.heap.size 2 (xcells x1 v1) ∧ wz.rangeAt w.heap.size 6 (xcells x2 v2) ∧ wz.rangeAt w.heap.size 10 (xcells x3 v3) ∧ wz.rangeAt w.heap.size 14 (xcells x4 v4)) := show ∀ _, _ from fun wz hz => parts19 (RG.out wz (hb2.trans (hz.mono hb2.size)))
      have HVX := Lib.hid (fun (wz : World) (hz : Below w2.heap.size w2 wz) => HV1.out.later (hb2.trans (hz.mono hb2.size)))
      have r0 : w2.cell? ⟨w.heap.size, 0, Option.none⟩ = some (.int .i64 1) := (RG.out w2 hb2) 0 _ rfl
      have r1 : w2.cell? ⟨w.heap.size, 1, Option.none⟩ = some (.string hs0) := (RG.out w2 hb2) 1 _ rfl
      clear hb2 r18 hW1
      rw [haa]
      go_wp2_with fail
      have bd : Below w2.heap.size w2 w2.drew := (Below.refl _ w2).drew
      refine wp_region_held_drew (S := Below w2.heap.size w2) (by kernel_rfl) bd (fun hHeld => ?_)
      clear bd
      refine wpAnyH_take (i := 0) (v := .int .i64 aa) rfl (by kernel_rfl) (by kernel_rfl) (by kernel_rfl) (fun _ _ _ h => h) (Or.inl ⟨by rfl, ?y40⟩) hHeld ?_
      case y40 => intro w hSw; go_simp
      simp only [Act.put, List.getElem_toArray, List.getElem_cons_succ, List.getElem_cons_zero, List.setIfInBounds_toArray, List.set_cons_zero, List.set_cons_succ]
      refine wpAnyH_take (i := 1) (v := .int .i64 bb) rfl (by kernel_rfl) (by kernel_rfl) (by kernel_rfl) (fun _ _ _ h => h) (Or.inl ⟨by rfl, ?y41⟩) hHeld ?_
      case y41 => intro w hSw; go_simp
      simp only [Act.put, List.getElem_toArray, List.getElem_cons_succ, List.getElem_cons_zero, List.setIfInBounds_toArray, List.set_cons_zero, List.set_cons_succ]
      refine wpAnyH_take (i := 2) (v := .pointer (some ⟨w.heap.size, 2, Option.none⟩)) rfl (by kernel_rfl) (by kernel_rfl) (by kernel_rfl) (fun _ _ _ h => h) (Or.inl ⟨by rfl, ?y42⟩) hHeld ?_
      case y42 => intro w hSw; go_simp
      simp only [Act.put, List.getElem_toArray, List.getElem_cons_succ, List.getElem_cons_zero, List.setIfInBounds_toArray, List.set_cons_zero, List.set_cons_succ]
      refine wpAnyH_take (i := 3) (v := xaggC x1 v1) rfl (by kernel_rfl) (by kernel_rfl) (by kernel_rfl) (fun _ _ _ h => h) (yieldsIf_load_mid (by rfl) 26 _ rfl (w.heap.size) (2) rfl (xcells x1 v1) _ (fun w h => (RX.out w h).1) Try.underlying26 rfl sizeIEC) hHeld ?_
      simp only [Act.put, List.getElem_toArray, List.getElem_cons_succ, List.getElem_cons_zero, List.setIfInBounds_toArray, List.set_cons_zero, List.set_cons_succ]
      refine wpAnyH_take (i := 4) (v := .string s) rfl (by kernel_rfl) (by kernel_rfl) (by kernel_rfl) (fun _ _ _ h => h) (Or.inl ⟨by rfl, ?y44⟩) hHeld ?_
      case y44 => intro w hSw; go_simp
      simp only [Act.put, List.getElem_toArray, List.getElem_cons_succ, List.getElem_cons_zero, List.setIfInBounds_toArray, List.set_cons_zero, List.set_cons_succ]
      refine wpAnyH_take (i := 7) (v := .pointer (some ⟨w.heap.size, 6, Option.none⟩)) rfl (by kernel_rfl) (by kernel_rfl) (by kernel_rfl) (fun _ _ _ h => h) (Or.inl ⟨by rfl, ?y47⟩) hHeld ?_
      case y47 => intro w hSw; go_simp
      simp only [Act.put, List.getElem_toArray, List.getElem_cons_succ, List.getElem_cons_zero, List.setIfInBounds_toArray, List.set_cons_zero, List.set_cons_succ]
      refine wpAnyH_take (i := 8) (v := xaggC x2 v2) rfl (by kernel_rfl) (by kernel_rfl) (by kernel_rfl) (fun _ _ _ h => h) (yieldsIf_load_mid (by rfl) 26 _ rfl (w.heap.size) (6) rfl (xcells x2 v2) _ (fun w h => (RX.out w h).2.1) Try.underlying26 rfl sizeIEC) hHeld ?_
      simp only [Act.put, List.getElem_toArray, List.getElem_cons_succ, List.getElem_cons_zero, List.setIfInBounds_toArray, List.set_cons_zero, List.set_cons_succ]
      refine wpAnyH_take (i := 9) (v := .string s) rfl (by kernel_rfl) (by kernel_rfl) (by kernel_rfl) (fun _ _ _ h => h) (Or.inl ⟨by rfl, ?y49⟩) hHeld ?_
      case y49 => intro w hSw; go_simp
      simp only [Act.put, List.getElem_toArray, List.getElem_cons_succ, List.getElem_cons_zero, List.setIfInBounds_toArray, List.set_cons_zero, List.set_cons_succ]
      refine wpAnyH_take (i := 12) (v := .pointer (some ⟨w.heap.size, 10, Option.none⟩)) rfl (by kernel_rfl) (by kernel_rfl) (by kernel_rfl) (fun _ _ _ h => h) (Or.inl ⟨by rfl, ?y412⟩) hHeld ?_
      case y412 => intro w hSw; go_simp
      simp only [Act.put, List.getElem_toArray, List.getElem_cons_succ, List.getElem_cons_zero, List.setIfInBounds_toArray, List.set_cons_zero, List.set_cons_succ]
      refine wpAnyH_take (i := 13) (v := xaggC x3 v3) rfl (by kernel_rfl) (by kernel_rfl) (by kernel_rfl) (fun _ _ _ h => h) (yieldsIf_load_mid (by rfl) 26 _ rfl (w.heap.size) (10) rfl (xcells x3 v3) _ (fun w h => (RX.out w h).2.2.1) Try.underlying26 rfl sizeIEC) hHeld ?_
      simp only [Act.put, List.getElem_toArray, List.getElem_cons_succ, List.getElem_cons_zero, List.setIfInBounds_toArray, List.set_cons_zero, List.set_cons_succ]
      refine wpAnyH_take (i := 14) (v := .string s) rfl (by kernel_rfl) (by kernel_rfl) (by kernel_rfl) (fun _ _ _ h => h) (Or.inl ⟨by rfl, ?y414⟩) hHeld ?_
      case y414 => intro w hSw; go_simp
      simp only [Act.put, List.getElem_toArray, List.getElem_cons_succ, List.getElem_cons_zero, List.setIfInBounds_toArray, List.set_cons_zero, List.set_cons_succ]
      refine wpAnyH_take (i := 17) (v := .pointer (some ⟨w.heap.size, 14, Option.none⟩)) rfl (by kernel_rfl) (by kernel_rfl) (by kernel_rfl) (fun _ _ _ h => h) (Or.inl ⟨by rfl, ?y417⟩) hHeld ?_
      case y417 => intro w hSw; go_simp
      simp only [Act.put, List.getElem_toArray, List.getElem_cons_succ, List.getElem_cons_zero, List.setIfInBounds_toArray, List.set_cons_zero, List.set_cons_succ]
      refine wpAnyH_take (i := 18) (v := xaggC x4 v4) rfl (by kernel_rfl) (by kernel_rfl) (by kernel_rfl) (fun _ _ _ h => h) (yieldsIf_load_mid (by rfl) 26 _ rfl (w.heap.size) (14) rfl (xcells x4 v4) _ (fun w h => (RX.out w h).2.2.2) Try.underlying26 rfl sizeIEC) hHeld ?_
      simp only [Act.put, List.getElem_toArray, List.getElem_cons_succ, List.getElem_cons_zero, List.setIfInBounds_toArray, List.set_cons_zero, List.set_cons_succ]
      refine wpAnyH_take (i := 19) (v := .string s) rfl (by kernel_rfl) (by kernel_rfl) (by kernel_rfl) (fun _ _ _ h => h) (Or.inl ⟨by rfl, ?y419⟩) hHeld ?_
      case y419 => intro w hSw; go_simp
      simp only [Act.put, List.getElem_toArray, List.getElem_cons_succ, List.getElem_cons_zero, List.setIfInBounds_toArray, List.set_cons_zero, List.set_cons_succ]
      refine wpAnyH_ready (rs := [5]) (by kernel_rfl) (by simp) ?_
      refine AllReadyH.cons rfl (fun K hK => ?_) AllReadyH.nil
      rw [if_pos (by rfl)]
      simp only [List.getElem_toArray, List.getElem_cons_succ, List.getElem_cons_zero]
      go_wp2_with fail
      refine (l12Asks_is s x1 _ v1 (by have := HBD.out; omega) (HVX.out _ hHeld).e1).mono ?_
      rintro e wa1 ⟨rfl, hba⟩
      rw [show asksX s x1 = q1 from HQ1.out]
      go_wp2_with fail
      refine hK.out _ _ (hHeld.trans (hba.mono hHeld.size)) (fun hHeld => ?_)
      clear hba
      refine wpAnyH_take (i := 6) (v := .int .i64 z1) rfl (by kernel_rfl) (by kernel_rfl) (by kernel_rfl) (fun _ _ _ h => h) (Or.inl ⟨by rfl, ?y46⟩) hHeld ?_
      case y46 => intro w hSw; go_simp; try exact hz1
      simp only [Act.put, List.getElem_toArray, List.getElem_cons_succ, List.getElem_cons_zero, List.setIfInBounds_toArray, List.set_cons_zero, List.set_cons_succ]
      refine wpAnyH_ready (rs := [10]) (by kernel_rfl) (by simp) ?_
      refine AllReadyH.cons rfl (fun K hK => ?_) AllReadyH.nil
      rw [if_pos (by rfl)]
      simp only [List.getElem_toArray, List.getElem_cons_succ, List.getElem_cons_zero]
      go_wp2_with fail
      refine (l12Asks_is s x2 _ v2 (by have := HBD.out; omega) (HVX.out _ hHeld).e2).mono ?_
      rintro e wa2 ⟨rfl, hba⟩
      rw [show asksX s x2 = q2 from HQ2.out]
      go_wp2_with fail
      refine hK.out _ _ (hHeld.trans (hba.mono hHeld.size)) (fun hHeld => ?_)
      clear hba
      refine wpAnyH_take (i := 11) (v := .int .i64 z2) rfl (by kernel_rfl) (by kernel_rfl) (by kernel_rfl) (fun _ _ _ h => h) (Or.inl ⟨by rfl, ?y411⟩) hHeld ?_
      case y411 => intro w hSw; go_simp; try exact hz2
      simp only [Act.put, List.getElem_toArray, List.getElem_cons_succ, List.getElem_cons_zero, List.setIfInBounds_toArray, List.set_cons_zero, List.set_cons_succ]
      refine wpAnyH_ready (rs := [15]) (by kernel_rfl) (by simp) ?_
      refine AllReadyH.cons rfl (fun K hK => ?_) AllReadyH.nil
      rw [if_pos (by rfl)]
      simp only [List.getElem_toArray, List.getElem_cons_succ, List.getElem_cons_zero]
      go_wp2_with fail
      refine (l12Asks_is s x3 _ v3 (by have := HBD.out; omega) (HVX.out _ hHeld).e3).mono ?_
      rintro e wa3 ⟨rfl, hba⟩
      rw [show asksX s x3 = q3 from HQ3.out]
      go_wp2_with fail
      refine hK.out _ _ (hHeld.trans (hba.mono hHeld.size)) (fun hHeld => ?_)
      clear hba
      refine wpAnyH_take (i := 16) (v := .int .i64 z3) rfl (by kernel_rfl) (by kernel_rfl) (by kernel_rfl) (fun _ _ _ h => h) (Or.inl ⟨by rfl, ?y416⟩) hHeld ?_
      case y416 => intro w hSw; go_simp; try exact hz3
      simp only [Act.put, List.getElem_toArray, List.getElem_cons_succ, List.getElem_cons_zero, List.setIfInBounds_toArray, List.set_cons_zero, List.set_cons_succ]
      refine wpAnyH_ready (rs := [20]) (by kernel_rfl) (by simp) ?_
      refine AllReadyH.cons rfl (fun K hK => ?_) AllReadyH.nil
      rw [if_pos (by rfl)]
      simp only [List.getElem_toArray, List.getElem_cons_succ, List.getElem_cons_zero]
      go_wp2_with fail
      refine (l12Asks_is s x4 _ v4 (by have := HBD.out; omega) (HVX.out _ hHeld).e4).mono ?_
      rintro e wa4 ⟨rfl, hba⟩
      rw [show asksX s x4 = q4 from HQ4.out]
      go_wp2_with fail
      refine hK.out _ _ (hHeld.trans (hba.mono hHeld.size)) (fun hHeld => ?_)
      clear hba
      refine wpAnyH_take (i := 21) (v := .int .i64 z4) rfl (by kernel_rfl) (by kernel_rfl) (by kernel_rfl) (fun _ _ _ h => h) (Or.inl ⟨by rfl, ?y421⟩) hHeld ?_
      case y421 => intro w hSw; go_simp; try exact hz4
      simp only [Act.put, List.getElem_toArray, List.getElem_cons_succ, List.getElem_cons_zero, List.setIfInBounds_toArray, List.set_cons_zero, List.set_cons_succ]
      refine wpAnyH_take (i := 22) (v := .int .i64 aa) rfl (by kernel_rfl) (by kernel_rfl) (by kernel_rfl) (fun _ _ _ h => h) (Or.inl ⟨by rfl, ?y422⟩) hHeld ?_
      case y422 => intro w hSw; go_simp
      simp only [Act.put, List.getElem_toArray, List.getElem_cons_succ, List.getElem_cons_zero, List.setIfInBounds_toArray, List.set_cons_zero, List.set_cons_succ]
      refine wpAnyH_take (i := 23) (v := .int .i64 z4) rfl (by kernel_rfl) (by kernel_rfl) (by kernel_rfl) (fun _ _ _ h => h) (Or.inl ⟨by rfl, ?y423⟩) hHeld ?_
      case y423 => intro w hSw; go_simp
      simp only [Act.put, List.getElem_toArray, List.getElem_cons_succ, List.getElem_cons_zero, List.setIfInBounds_toArray, List.set_cons_zero, List.set_cons_succ]
      refine wpAnyH_done (by kernel_rfl) ?_ _
      have B9 := Lib.hid (HB2.out.trans (hHeld.mono HB2.out.size))
      clear hHeld
      go_wp2
      exact bodyPost_ret (v := .tuple #[.int .i64 aa, .int .i64 z4]) (by simp [results, Try.results44, go_sem]) rfl ⟨by rw [show z4 = _ from HZ.out, show aa = _ from HA.out], B9.out⟩
  · have e1 : (if hitS s (⟨hk0, hs0, x1, x2, x3, x4⟩, l) = true then 1 else 0) + m0 = m0 := by simp [hitS, hk]
    rw [e1]
    obtain ⟨aa, haa⟩ : ∃ a : Int, (m0 : Int) = a := ⟨_, rfl⟩
    have HA : Hid (aa = (m0 : Int)) := haa.symm
    have hkb := int_ne hk
    clear e1
    go_enter Try.func44, Try.ntmps44
    have r18 : W1.cell? ⟨w.heap.size, 18, Option.none⟩ = some v := (RG.out W1 (Below.refl _ _)) 18 _ rfl
    rw [hW1] at r18
    go_wp2_with fail
    rw [← hW1]
    refine (HIH.out _ v HSV.out).mono ?_
    rintro e w2 ⟨rfl, hb2⟩
    rw [HQ0.out.1, HQ0.out.2, hbb]
    have HB2 := Lib.hid (HB0.out.trans (hb2.mono HB0.out.size))
    have RX : Hid (∀ wz, Below w2.heap.size w2 wz → wz.rangeAt w.heap.size 2 (xcells x1 v1) ∧ wz.rangeAt w.heap.size 6 (xcells x2 v2) ∧ wz.rangeAt w.heap.size 10 (xcells x3 v3) ∧ wz.rangeAt w.heap.size 14 (xcells x4 v4)) := show ∀ _, _ from fun wz hz => parts19 (RG.out wz (hb2.trans (hz.mono hb2.size)))
    have HVX := Lib.hid (fun (wz : World) (hz : Below w2.heap.size w2 wz) => HV1.out.later (hb2.trans (hz.mono hb2.size)))
    have r0 : w2.cell? ⟨w.heap.size, 0, Option.none⟩ = some (.int .i64 hk0) := (RG.out w2 hb2) 0 _ rfl
    have r1 : w2.cell? ⟨w.heap.size, 1, Option.none⟩ = some (.string hs0) := (RG.out w2 hb2) 1 _ rfl
    clear hb2 r18 hW1
    rw [haa]
    go_wp2_with fail
    have bd : Below w2.heap.size w2 w2.drew := (Below.refl _ w2).drew
    refine wp_region_held_drew (S := Below w2.heap.size w2) (by kernel_rfl) bd (fun hHeld => ?_)
    clear bd
    refine wpAnyH_take (i := 0) (v := .int .i64 aa) rfl (by kernel_rfl) (by kernel_rfl) (by kernel_rfl) (fun _ _ _ h => h) (Or.inl ⟨by rfl, ?y40⟩) hHeld ?_
    case y40 => intro w hSw; go_simp
    simp only [Act.put, List.getElem_toArray, List.getElem_cons_succ, List.getElem_cons_zero, List.setIfInBounds_toArray, List.set_cons_zero, List.set_cons_succ]
    refine wpAnyH_take (i := 1) (v := .int .i64 bb) rfl (by kernel_rfl) (by kernel_rfl) (by kernel_rfl) (fun _ _ _ h => h) (Or.inl ⟨by rfl, ?y41⟩) hHeld ?_
    case y41 => intro w hSw; go_simp
    simp only [Act.put, List.getElem_toArray, List.getElem_cons_succ, List.getElem_cons_zero, List.setIfInBounds_toArray, List.set_cons_zero, List.set_cons_succ]
    refine wpAnyH_take (i := 2) (v := .pointer (some ⟨w.heap.size, 2, Option.none⟩)) rfl (by kernel_rfl) (by kernel_rfl) (by kernel_rfl) (fun _ _ _ h => h) (Or.inl ⟨by rfl, ?y42⟩) hHeld ?_
    case y42 => intro w hSw; go_simp
    simp only [Act.put, List.getElem_toArray, List.getElem_cons_succ, List.getElem_cons_zero, List.setIfInBounds_toArray, List.set_cons_zero, List.set_cons_succ]
    refine wpAnyH_take (i := 3) (v := xaggC x1 v1) rfl (by kernel_rfl) (by kernel_rfl) (by kernel_rfl) (fun _ _ _ h => h) (yieldsIf_load_mid (by rfl) 26 _ rfl (w.heap.size) (2) rfl (xcells x1 v1) _ (fun w h => (RX.out w h).1) Try.underlying26 rfl sizeIEC) hHeld ?_
    simp only [Act.put, List.getElem_toArray, List.getElem_cons_succ, List.getElem_cons_zero, List.setIfInBounds_toArray, List.set_cons_zero, List.set_cons_succ]
    refine wpAnyH_take (i := 4) (v := .string s) rfl (by kernel_rfl) (by kernel_rfl) (by kernel_rfl) (fun _ _ _ h => h) (Or.inl ⟨by rfl, ?y44⟩) hHeld ?_
    case y44 => intro w hSw; go_simp
    simp only [Act.put, List.getElem_toArray, List.getElem_cons_succ, List.getElem_cons_zero, List.setIfInBounds_toArray, List.set_cons_zero, List.set_cons_succ]
    refine wpAnyH_take (i := 7) (v := .pointer (some ⟨w.heap.size, 6, Option.none⟩)) rfl (by kernel_rfl) (by kernel_rfl) (by kernel_rfl) (fun _ _ _ h => h) (Or.inl ⟨by rfl, ?y47⟩) hHeld ?_
    case y47 => intro w hSw; go_simp
    simp only [Act.put, List.getElem_toArray, List.getElem_cons_succ, List.getElem_cons_zero, List.setIfInBounds_toArray, List.set_cons_zero, List.set_cons_succ]
    refine wpAnyH_take (i := 8) (v := xaggC x2 v2) rfl (by kernel_rfl) (by kernel_rfl) (by kernel_rfl) (fun _ _ _ h => h) (yieldsIf_load_mid (by rfl) 26 _ rfl (w.heap.size) (6) rfl (xcells x2 v2) _ (fun w h => (RX.out w h).2.1) Try.underlying26 rfl sizeIEC) hHeld ?_
    simp only [Act.put, List.getElem_toArray, List.getElem_cons_succ, List.getElem_cons_zero, List.setIfInBounds_toArray, List.set_cons_zero, List.set_cons_succ]
    refine wpAnyH_take (i := 9) (v := .string s) rfl (by kernel_rfl) (by kernel_rfl) (by kernel_rfl) (fun _ _ _ h => h) (Or.inl ⟨by rfl, ?y49⟩) hHeld ?_
    case y49 => intro w hSw; go_simp
    simp only [Act.put, List.getElem_toArray, List.getElem_cons_succ, List.getElem_cons_zero, List.setIfInBounds_toArray, List.set_cons_zero, List.set_cons_succ]
    refine wpAnyH_take (i := 12) (v := .pointer (some ⟨w.heap.size, 10, Option.none⟩)) rfl (by kernel_rfl) (by kernel_rfl) (by kernel_rfl) (fun _ _ _ h => h) (Or.inl ⟨by rfl, ?y412⟩) hHeld ?_
    case y412 => intro w hSw; go_simp
    simp only [Act.put, List.getElem_toArray, List.getElem_cons_succ, List.getElem_cons_zero, List.setIfInBounds_toArray, List.set_cons_zero, List.set_cons_succ]
    refine wpAnyH_take (i := 13) (v := xaggC x3 v3) rfl (by kernel_rfl) (by kernel_rfl) (by kernel_rfl) (fun _ _ _ h => h) (yieldsIf_load_mid (by rfl) 26 _ rfl (w.heap.size) (10) rfl (xcells x3 v3) _ (fun w h => (RX.out w h).2.2.1) Try.underlying26 rfl sizeIEC) hHeld ?_
    simp only [Act.put, List.getElem_toArray, List.getElem_cons_succ, List.getElem_cons_zero, List.setIfInBounds_toArray, List.set_cons_zero, List.set_cons_succ]
    refine wpAnyH_take (i := 14) (v := .string s) rfl (by kernel_rfl) (by kernel_rfl) (by kernel_rfl) (fun _ _ _ h => h) (Or.inl ⟨by rfl, ?y414⟩) hHeld ?_
    case y414 => intro w hSw; go_simp
    simp only [Act.put, List.getElem_toArray, List.getElem_cons_succ, List.getElem_cons_zero, List.setIfInBounds_toArray, List.set_cons_zero, List.set_cons_succ]
    refine wpAnyH_take (i := 17) (v := .pointer (some ⟨w.heap.size, 14, Option.none⟩)) rfl (by kernel_rfl) (by kernel_rfl) (by kernel_rfl) (fun _ _ _ h => h) (Or.inl ⟨by rfl, ?y417⟩) hHeld ?_
    case y417 => intro w hSw; go_simp
    simp only [Act.put, List.getElem_toArray, List.getElem_cons_succ, List.getElem_cons_zero, List.setIfInBounds_toArray, List.set_cons_zero, List.set_cons_succ]
    refine wpAnyH_take (i := 18) (v := xaggC x4 v4) rfl (by kernel_rfl) (by kernel_rfl) (by kernel_rfl) (fun _ _ _ h => h) (yieldsIf_load_mid (by rfl) 26 _ rfl (w.heap.size) (14) rfl (xcells x4 v4) _ (fun w h => (RX.out w h).2.2.2) Try.underlying26 rfl sizeIEC) hHeld ?_
    simp only [Act.put, List.getElem_toArray, List.getElem_cons_succ, List.getElem_cons_zero, List.setIfInBounds_toArray, List.set_cons_zero, List.set_cons_succ]
    refine wpAnyH_take (i := 19) (v := .string s) rfl (by kernel_rfl) (by kernel_rfl) (by kernel_rfl) (fun _ _ _ h => h) (Or.inl ⟨by rfl, ?y419⟩) hHeld ?_
    case y419 => intro w hSw; go_simp
    simp only [Act.put, List.getElem_toArray, List.getElem_cons_succ, List.getElem_cons_zero, List.setIfInBounds_toArray, List.set_cons_zero, List.set_cons_succ]
    refine wpAnyH_ready (rs := [5]) (by kernel_rfl) (by simp) ?_
    refine AllReadyH.cons rfl (fun K hK => ?_) AllReadyH.nil
    rw [if_pos (by rfl)]
    simp only [List.getElem_toArray, List.getElem_cons_succ, List.getElem_cons_zero]
    go_wp2_with fail
    refine (l12Asks_is s x1 _ v1 (by have := HBD.out; omega) (HVX.out _ hHeld).e1).mono ?_
    rintro e wa1 ⟨rfl, hba⟩
    rw [show asksX s x1 = q1 from HQ1.out]
    go_wp2_with fail
    refine hK.out _ _ (hHeld.trans (hba.mono hHeld.size)) (fun hHeld => ?_)
    clear hba
    refine wpAnyH_take (i := 6) (v := .int .i64 z1) rfl (by kernel_rfl) (by kernel_rfl) (by kernel_rfl) (fun _ _ _ h => h) (Or.inl ⟨by rfl, ?y46⟩) hHeld ?_
    case y46 => intro w hSw; go_simp; try exact hz1
    simp only [Act.put, List.getElem_toArray, List.getElem_cons_succ, List.getElem_cons_zero, List.setIfInBounds_toArray, List.set_cons_zero, List.set_cons_succ]
    refine wpAnyH_ready (rs := [10]) (by kernel_rfl) (by simp) ?_
    refine AllReadyH.cons rfl (fun K hK => ?_) AllReadyH.nil
    rw [if_pos (by rfl)]
    simp only [List.getElem_toArray, List.getElem_cons_succ, List.getElem_cons_zero]
    go_wp2_with fail
    refine (l12Asks_is s x2 _ v2 (by have := HBD.out; omega) (HVX.out _ hHeld).e2).mono ?_
    rintro e wa2 ⟨rfl, hba⟩
    rw [show asksX s x2 = q2 from HQ2.out]
    go_wp2_with fail
    refine hK.out _ _ (hHeld.trans (hba.mono hHeld.size)) (fun hHeld => ?_)
    clear hba
    refine wpAnyH_take (i := 11) (v := .int .i64 z2) rfl (by kernel_rfl) (by kernel_rfl) (by kernel_rfl) (fun _ _ _ h => h) (Or.inl ⟨by rfl, ?y411⟩) hHeld ?_
    case y411 => intro w hSw; go_simp; try exact hz2
    simp only [Act.put, List.getElem_toArray, List.getElem_cons_succ, List.getElem_cons_zero, List.setIfInBounds_toArray, List.set_cons_zero, List.set_cons_succ]
    refine wpAnyH_ready (rs := [15]) (by kernel_rfl) (by simp) ?_
    refine AllReadyH.cons rfl (fun K hK => ?_) AllReadyH.nil
    rw [if_pos (by rfl)]
    simp only [List.getElem_toArray, List.getElem_cons_succ, List.getElem_cons_zero]
    go_wp2_with fail
    refine (l12Asks_is s x3 _ v3 (by have := HBD.out; omega) (HVX.out _ hHeld).e3).mono ?_
    rintro e wa3 ⟨rfl, hba⟩
    rw [show asksX s x3 = q3 from HQ3.out]
    go_wp2_with fail
    refine hK.out _ _ (hHeld.trans (hba.mono hHeld.size)) (fun hHeld => ?_)
    clear hba
    refine wpAnyH_take (i := 16) (v := .int .i64 z3) rfl (by kernel_rfl) (by kernel_rfl) (by kernel_rfl) (fun _ _ _ h => h) (Or.inl ⟨by rfl, ?y416⟩) hHeld ?_
    case y416 => intro w hSw; go_simp; try exact hz3
    simp only [Act.put, List.getElem_toArray, List.getElem_cons_succ, List.getElem_cons_zero, List.setIfInBounds_toArray, List.set_cons_zero, List.set_cons_succ]
    refine wpAnyH_ready (rs := [20]) (by kernel_rfl) (by simp) ?_
    refine AllReadyH.cons rfl (fun K hK => ?_) AllReadyH.nil
    rw [if_pos (by rfl)]
    simp only [List.getElem_toArray, List.getElem_cons_succ, List.getElem_cons_zero]
    go_wp2_with fail
    refine (l12Asks_is s x4 _ v4 (by have := HBD.out; omega) (HVX.out _ hHeld).e4).mono ?_
    rintro e wa4 ⟨rfl, hba⟩
    rw [show asksX s x4 = q4 from HQ4.out]
    go_wp2_with fail
    refine hK.out _ _ (hHeld.trans (hba.mono hHeld.size)) (fun hHeld => ?_)
    clear hba
    refine wpAnyH_take (i := 21) (v := .int .i64 z4) rfl (by kernel_rfl) (by kernel_rfl) (by kernel_rfl) (fun _ _ _ h => h) (Or.inl ⟨by rfl, ?y421⟩) hHeld ?_
    case y421 => intro w hSw; go_simp; try exact hz4
    simp only [Act.put, List.getElem_toArray, List.getElem_cons_succ, List.getElem_cons_zero, List.setIfInBounds_toArray, List.set_cons_zero, List.set_cons_succ]
    refine wpAnyH_take (i := 22) (v := .int .i64 aa) rfl (by kernel_rfl) (by kernel_rfl) (by kernel_rfl) (fun _ _ _ h => h) (Or.inl ⟨by rfl, ?y422⟩) hHeld ?_
    case y422 => intro w hSw; go_simp
    simp only [Act.put, List.getElem_toArray, List.getElem_cons_succ, List.getElem_cons_zero, List.setIfInBounds_toArray, List.set_cons_zero, List.set_cons_succ]
    refine wpAnyH_take (i := 23) (v := .int .i64 z4) rfl (by kernel_rfl) (by kernel_rfl) (by kernel_rfl) (fun _ _ _ h => h) (Or.inl ⟨by rfl, ?y423⟩) hHeld ?_
    case y423 => intro w hSw; go_simp
    simp only [Act.put, List.getElem_toArray, List.getElem_cons_succ, List.getElem_cons_zero, List.setIfInBounds_toArray, List.set_cons_zero, List.set_cons_succ]
    refine wpAnyH_done (by kernel_rfl) ?_ _
    have B9 := Lib.hid (HB2.out.trans (hHeld.mono HB2.out.size))
    clear hHeld
    go_wp2
    exact bodyPost_ret (v := .tuple #[.int .i64 aa, .int .i64 z4]) (by simp [results, Try.results44, go_sem]) rfl ⟨by rw [show z4 = _ from HZ.out, show aa = _ from HA.out], B9.out⟩
end Go.Proofs.Ythokildkedlkfaa
