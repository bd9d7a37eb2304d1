/-
  The contract of stmtAsTold at what prints.
-/
import Derived.Test.YtkilmefpaojkfaaGreatAstStmt
namespace Go.Proofs.YtkilmefpaojkfaaGreat
open Go.RowKit Go.Lib
set_option linter.unusedSimpArgs false
set_option linter.unusedVariables false

set_option maxHeartbeats 4000000 in
set_option maxRecDepth 100000 in
theorem told_4 (d : Nat) (hd : d ≤ 100) (h : SH) (l : SF) (hk : h.k = 4) (h9 : small9 h)
    
    (w : World) (v1 v2 v3 v4 v : Value) (hv : HV w 0 h v1 v2 v3 v4) (hl : SV w 0 l v) :
    Calls Tryz.prog 88 #[sagg h v1 v2 v3 v4 v, .int .i64 (d : Int)] w fun e w' => e = .returned (.bool (toldSt d h l)) ∧ Below w.heap.size w w' := by
  have T0 := Lib.hid (Bxs.start 57 hv hl)
  obtain ⟨va1, vc1, rfl⟩ := hv.e1.shape
  obtain ⟨va2, vc2, rfl⟩ := hv.e2.shape
  obtain ⟨va3, vc3, rfl⟩ := hv.e3.shape
  obtain ⟨va4, vc4, rfl⟩ := hv.e4.shape
  obtain ⟨va, vc, rfl⟩ := hl.shape
  have H9 := Lib.hid h9
  have HK := Lib.hid hk
  have hdI : (d : Int) ≤ 100 := by omega
  obtain ⟨tn, htn⟩ : ∃ t, (decide (h.s.size = 0)) = t := ⟨_, rfl⟩
  obtain ⟨te, hte⟩ : ∃ t, (expOk h.x2) = t := ⟨_, rfl⟩
  obtain ⟨tz, htz⟩ : ∃ t, (noX h.x1 && (noX h.x3 && noX h.x4)) = t := ⟨_, rfl⟩
  have HH : Hid ((decide (h.s.size = 0)) = tn ∧ (expOk h.x2) = te ∧ (noX h.x1 && (noX h.x3 && noX h.x4)) = tz) := ⟨htn, hte, htz⟩
  have HT : Hid (toldSt d h l = ((tn && (te && tz)) && (decide (slen l = 0)))) := show toldSt d h l = _ by
    have e1 : headOk h = (tn && (te && tz)) := by rw [← htn, ← hte, ← htz]; simp [headOk, hk, Bool.and_assoc]
    unfold toldSt; rw [e1]; simp [hk]
  clear htn hte htz hv hl h9
  have e1 : (h.k == 1) = false := by rw [hk]; rfl
  have e2 : (h.k == 2) = false := by rw [hk]; rfl
  have e3 : (h.k == 3) = false := by rw [hk]; rfl
  have e4 : (h.k == 4) = true := by rw [hk]; rfl
  clear hk
  have T1 := T0
  cases tn with
  | false =>
    have hs := str_full (by simpa using HH.out.1)
    go_enter Tryz.func88, Tryz.ntmps88
    go_wp2
    go_ret
    exact retB (by rw [HT.out]; rfl) T1.out.low
  | true =>
  have hs := str_empty (by simpa using HH.out.1)
  go_enter Tryz.func88, Tryz.ntmps88
  go_wp2_with fail
  have V1 := laid1 55 T1.out.hv.e2
  have hsz : (w.alloc (.cells (sarr h (.slice va1 (elen h.x1.l) vc1) (.slice va2 (elen h.x2.l) vc2) (.slice va3 (elen h.x3.l) vc3) (.slice va4 (elen h.x4.l) vc4) (.slice va (slen l) vc)) 57)).heap.size = w.heap.size + 1 := by simp
  rw [hsz] at V1
  clear hsz
  have h2q : enodes (.node 0 0 h.x2.h h.x2.l .nil : EF) ≤ 9000000 := by have := H9.out; simp only [small9] at this; simp only [enodes]; omega
  refine (expsOk_is _ h2q _ _ V1).mono ?_
  rintro e w2 ⟨rfl, hb2⟩
  rw [show eall (.node 0 0 h.x2.h h.x2.l .nil : EF) = te by rw [← HH.out.2.1]; simp [eall]]
  have T2 := Lib.hid ((T1.out.later (alloc_below _ _)).later hb2)
  clear hb2 T1 V1 h2q 
  cases te with
  | false =>
    go_wp2
    go_ret
    exact retB (by rw [HT.out]; rfl) T2.out.low
  | true =>
  have c10 := part1 T2.out.rg 0 _ rfl
  have c11 := part1 T2.out.rg 1 _ rfl
  have c12 := part1 T2.out.rg 2 _ rfl
  have c13 := part1 T2.out.rg 3 _ rfl
  have c30 := part3 T2.out.rg 0 _ rfl
  have c31 := part3 T2.out.rg 1 _ rfl
  have c32 := part3 T2.out.rg 2 _ rfl
  have c33 := part3 T2.out.rg 3 _ rfl
  have c40 := part4 T2.out.rg 0 _ rfl
  have c41 := part4 T2.out.rg 1 _ rfl
  have c42 := part4 T2.out.rg 2 _ rfl
  have c43 := part4 T2.out.rg 3 _ rfl
  simp only [Nat.add_zero, Nat.reduceAdd] at c10 c11 c12 c13 c30 c31 c32 c33 c40 c41 c42 c43
  go_wp2_with fail
  have V2 := laid3 55 T2.out.hv.e1 T2.out.hv.e3 T2.out.hv.e4
  refine (noExps_is _ (by simp [elen]) _ _ V2).mono ?_
  rintro e w3 ⟨rfl, hb3⟩
  rw [show enone (.node 0 0 h.x1.h h.x1.l (.node 0 0 h.x3.h h.x3.l (.node 0 0 h.x4.h h.x4.l .nil)) : EF) = tz by rw [← HH.out.2.2]; simp [enone]]
  have T3 := Lib.hid ((T2.out.later (alloc_below _ _)).later hb3)
  clear hb3 T2 V2 c10 c11 c12 c13 c30 c31 c32 c33 c40 c41 c42 c43
  cases tz with
  | false =>
    go_wp2
    go_ret
    exact retB (by rw [HT.out]; rfl) T3.out.low
  | true =>
  have c18 := part5 T3.out.rg
  by_cases hz : slen l = 0
  · have h1 : ((slen l : Int) == 0) = true := by rw [beq_iff_eq]; omega
    have Hz := Lib.hid hz
    clear hz
    go_wp2
    go_ret
    exact retB (by rw [HT.out, decide_eq_true Hz.out]; rfl) T3.out.low
  · have h1 : ((slen l : Int) == 0) = false := int_ne (by omega)
    have Hz := Lib.hid hz
    clear hz
    go_wp2
    go_ret
    exact retB (by rw [HT.out, decide_eq_false Hz.out]; rfl) T3.out.low
end Go.Proofs.YtkilmefpaojkfaaGreat
