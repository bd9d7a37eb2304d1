/-
  The contracts of the landed code's stmtAsTold, bodyAsTold and StmtOk.
-/
import Derived.Test.YtkilmefpaojkfaaGreatAstStmt4
namespace Go.Proofs.YtkilmefpaojkfaaGreat
open Go.RowKit Go.Lib
set_option linter.unusedSimpArgs false
set_option linter.unusedVariables false

set_option maxHeartbeats 4000000 in
set_option maxRecDepth 100000 in
theorem told_30 (h : SH) (l : SF) (hk : h.k = 3) (h9 : small9 h)
    (w : World) (v1 v2 v3 v4 v : Value) (hv : HV w 0 h v1 v2 v3 v4) (hl : SV w 0 l v) :
    Calls Tryz.prog 88 #[sagg h v1 v2 v3 v4 v, .int .i64 0] w fun e w' => e = .returned (.bool (toldSt 0 h l)) ∧ Below w.heap.size w w' := by
  have T0 := Lib.hid (Bxs.start 57 hv hl)
  obtain ⟨va1, vc1, rfl⟩ := hv.e1.shape
  obtain ⟨va2, vc2, rfl⟩ := hv.e2.shape
  obtain ⟨va3, vc3, rfl⟩ := hv.e3.shape
  obtain ⟨va4, vc4, rfl⟩ := hv.e4.shape
  obtain ⟨va, vc, rfl⟩ := hl.shape
  have H9 := Lib.hid h9
  have HK := Lib.hid hk
  obtain ⟨tn, htn⟩ : ∃ t, (nameOk h.s.data.toList) = t := ⟨_, rfl⟩
  obtain ⟨te, hte⟩ : ∃ t, (expOk h.x3 && expOk h.x4) = t := ⟨_, rfl⟩
  obtain ⟨tz, htz⟩ : ∃ t, (noX h.x1 && noX h.x2) = t := ⟨_, rfl⟩
  have HH : Hid ((nameOk h.s.data.toList) = tn ∧ (expOk h.x3 && expOk h.x4) = te ∧ (noX h.x1 && noX h.x2) = tz) := ⟨htn, hte, htz⟩
  have HT : Hid (toldSt 0 h l = ((tn && (te && tz)) && false)) := show toldSt 0 h l = _ by
    have e1 : headOk h = (tn && (te && tz)) := by rw [← htn, ← hte, ← htz]; simp [headOk, hk, Bool.and_assoc]
    unfold toldSt; rw [e1]; simp [hk]
  clear htn hte htz hv hl h9
  have e1 : (h.k == 1) = false := by rw [hk]; rfl
  have e2 : (h.k == 2) = false := by rw [hk]; rfl
  have e3 : (h.k == 3) = true := by rw [hk]; rfl
  have e4 : (h.k == 4) = false := by rw [hk]; rfl
  clear hk
  go_enter Tryz.func88, Tryz.ntmps88
  go_wp2_with fail
  refine (impl_NameOk h.s tn HH.out.1 _).mono ?_
  rintro e w1 ⟨rfl, hb1⟩
  have T1 := Lib.hid (T0.out.later hb1)
  clear hb1 T0
  cases tn with
  | false =>
    go_wp2
    go_ret
    exact retB (by rw [HT.out]; rfl) T1.out.low
  | true =>
  have c30 := part3 T1.out.rg 0 _ rfl
  have c31 := part3 T1.out.rg 1 _ rfl
  have c32 := part3 T1.out.rg 2 _ rfl
  have c33 := part3 T1.out.rg 3 _ rfl
  have c40 := part4 T1.out.rg 0 _ rfl
  have c41 := part4 T1.out.rg 1 _ rfl
  have c42 := part4 T1.out.rg 2 _ rfl
  have c43 := part4 T1.out.rg 3 _ rfl
  simp only [Nat.add_zero, Nat.reduceAdd] at c30 c31 c32 c33 c40 c41 c42 c43
  go_wp2_with fail
  have V1 := laid2 55 T1.out.hv.e3 T1.out.hv.e4
  have h2q : enodes (.node 0 0 h.x3.h h.x3.l (.node 0 0 h.x4.h h.x4.l .nil) : EF) ≤ 9000000 := by have := H9.out; simp only [small9] at this; simp only [enodes]; omega
  refine (expsOk_is _ h2q _ _ V1).mono ?_
  rintro e w2 ⟨rfl, hb2⟩
  rw [show eall (.node 0 0 h.x3.h h.x3.l (.node 0 0 h.x4.h h.x4.l .nil) : EF) = te by rw [← HH.out.2.1]; simp [eall]]
  have T2 := Lib.hid ((T1.out.later (alloc_below _ _)).later hb2)
  clear hb2 T1 V1 h2q c30 c31 c32 c33 c40 c41 c42 c43
  cases te with
  | false =>
    go_wp2
    go_ret
    exact retB (by rw [HT.out]; rfl) T2.out.low
  | true =>
  have c10 := part1 T2.out.rg 0 _ rfl
  have c11 := part1 T2.out.rg 1 _ rfl
  have c12 := part1 T2.out.rg 2 _ rfl
  have c13 := part1 T2.out.rg 3 _ rfl
  have c20 := part2 T2.out.rg 0 _ rfl
  have c21 := part2 T2.out.rg 1 _ rfl
  have c22 := part2 T2.out.rg 2 _ rfl
  have c23 := part2 T2.out.rg 3 _ rfl
  simp only [Nat.add_zero, Nat.reduceAdd] at c10 c11 c12 c13 c20 c21 c22 c23
  go_wp2_with fail
  have V2 := laid2 55 T2.out.hv.e1 T2.out.hv.e2
  refine (noExps_is _ (by simp [elen]) _ _ V2).mono ?_
  rintro e w3 ⟨rfl, hb3⟩
  rw [show enone (.node 0 0 h.x1.h h.x1.l (.node 0 0 h.x2.h h.x2.l .nil) : EF) = tz by rw [← HH.out.2.2]; simp [enone]]
  have T3 := Lib.hid ((T2.out.later (alloc_below _ _)).later hb3)
  clear hb3 T2 V2 c10 c11 c12 c13 c20 c21 c22 c23
  cases tz with
  | false =>
    go_wp2
    go_ret
    exact retB (by rw [HT.out]; rfl) T3.out.low
  | true =>
  go_wp2
  go_ret
  exact retB (by rw [HT.out]; rfl) T3.out.low
set_option maxHeartbeats 1000000 in
set_option maxRecDepth 100000 in
theorem told_0 (d : Nat) (h : SH) (l : SF) (hk : ¬ (1 ≤ h.k ∧ h.k ≤ 4)) (w : World) (v1 v2 v3 v4 v : Value) :
    Calls Tryz.prog 88 #[sagg h v1 v2 v3 v4 v, .int .i64 (d : Int)] w fun e w' => e = .returned (.bool (toldSt d h l)) ∧ Below w.heap.size w w' := by
  have hf : Hid (toldSt d h l = false) := show toldSt d h l = false by
    have : headOk h = false := by
      unfold headOk
      rw [if_neg (by omega), if_neg (by omega), if_neg (by omega), if_neg (by omega)]
    simp [toldSt, this]
  have e1 : (h.k == 1) = false := int_ne (by omega)
  have e2 : (h.k == 2) = false := int_ne (by omega)
  have e3 : (h.k == 3) = false := int_ne (by omega)
  have e4 : (h.k == 4) = false := int_ne (by omega)
  clear hk
  go_enter Tryz.func88, Tryz.ntmps88
  go_wp2
  go_ret
  exact retB hf.out (alloc_below _ _)
theorem stmtAsTold_of (d : Nat) (hd : d ≤ 100) (h : SH) (l : SF) (h9 : small9 h)
    (ih : 1 ≤ d → ∀ (w : World) (v : Value), SV w 0 l v → Calls Tryz.prog 108 #[v, .int .i64 ((d : Int) - 1)] w fun e w' => e = .returned (.bool (bodyTold (d - 1) l)) ∧ Below w.heap.size w w')
    (w : World) (v1 v2 v3 v4 v : Value) (hv : HV w 0 h v1 v2 v3 v4) (hl : SV w 0 l v) :
    Calls Tryz.prog 88 #[.agg (scells h v1 v2 v3 v4 v).toArray, .int .i64 (d : Int)] w fun e w' => e = .returned (.bool (toldSt d h l)) ∧ Below w.heap.size w w' := by
  by_cases hk : 1 ≤ h.k ∧ h.k ≤ 4
  · obtain e | e | e | e : h.k = 1 ∨ h.k = 2 ∨ h.k = 3 ∨ h.k = 4 := by omega
    · exact told_1 d hd h l e h9 w v1 v2 v3 v4 v hv hl
    · exact told_2 d hd h l e h9 w v1 v2 v3 v4 v hv hl
    · cases d with
      | zero => exact told_30 h l e h9 w v1 v2 v3 v4 v hv hl
      | succ d => exact told_3 (d + 1) hd h l e h9 (ih (by omega)) (by omega) w v1 v2 v3 v4 v hv hl
    · exact told_4 d hd h l e h9 w v1 v2 v3 v4 v hv hl
  · exact told_0 d h l hk w v1 v2 v3 v4 v
set_option maxHeartbeats 2000000 in
set_option maxRecDepth 100000 in
theorem bodyAsTold_step (d : Nat) (hd : d ≤ 100) (F : SF) (hF : all9 F)
    (ih : ∀ (h : SH) (l : SF), small9 h → all9 l → snodes l < snodes F → ∀ (w : World) (v1 v2 v3 v4 v : Value), HV w 0 h v1 v2 v3 v4 → SV w 0 l v → Calls Tryz.prog 88 #[.agg (scells h v1 v2 v3 v4 v).toArray, .int .i64 (d : Int)] w fun e w' => e = .returned (.bool (toldSt d h l)) ∧ Below w.heap.size w w')
    (w : World) (v : Value) (hv : SV w 0 F v) :
    Calls Tryz.prog 108 #[v, .int .i64 (d : Int)] w fun e w' => e = .returned (.bool (bodyTold d F)) ∧ Below w.heap.size w w' := by
  obtain ⟨b, o, ao, cap, rfl, hao, _, hin⟩ := hv
  have Hih := Lib.hid ih
  clear ih
  by_cases h0 : slen F = 0
  · have hf : Hid (bodyTold d F = false) := show bodyTold d F = false by simp [bodyTold, h0]
    have h1 : ((slen F : Int) == 0) = true := by rw [beq_iff_eq]; omega
    clear h0 hao hin
    go_enter Tryz.func108, Tryz.ntmps108
    go_wp2
    go_ret
    exact retB hf.out (Below.refl _ _)
  have h1 : ((slen F : Int) == 0) = false := int_ne (by omega)
  by_cases h6 : 6 < slen F
  · have hf : Hid (bodyTold d F = false) := show bodyTold d F = false by simp [bodyTold]; omega
    have h2 : (6 : Int) < (slen F : Int) := by omega
    clear h0 h6 hao hin
    go_enter Tryz.func108, Tryz.ntmps108
    go_wp2
    go_ret
    exact retB hf.out (Below.refl _ _)
  have h2 : ¬ (6 : Int) < (slen F : Int) := by omega
  have hB : Hid (bodyTold d F = toldS d F) := show bodyTold d F = toldS d F by unfold bodyTold; rw [decide_eq_true (by omega), decide_eq_true (by omega)]; rfl
  clear h0 h6
  go_enter Tryz.func108, Tryz.ntmps108
  go_wp2
  go_loopw [17] (fun i wr => ∃ (R : SF) (k : Nat), i = .int .i64 (k : Int) ∧ Hid (k + slen R = slen F ∧ snodes R ≤ snodes F ∧ SIn w 0 R b (o + k * 19) ∧ toldS d F = toldS d R ∧ all9 R) ∧ Below w.heap.size w wr) (fun i _ => slen F - (RowKit.intOf i).toNat)
  case atStart => exact ⟨F, 0, rfl, ⟨by omega, Nat.le_refl _, by simpa using hin, rfl, hF⟩, Below.refl _ _⟩
  case round =>
    obtain ⟨R, k, rfl, hr, hbw⟩ := hrel
    obtain ⟨e1, e2, e3, e4, e5⟩ := hr.out
    cases R with
    | nil =>
      have hk : ¬ (k : Int) < (slen F : Int) := by simp only [slen] at e1; omega
      have hf : Hid (toldS d F = true) := e4
      clear e4 hr
      go_wp2
      go_ret
      exact retB (by rw [hB.out, hf.out]) hbw
    | node p q h l r =>
      have hlt : (k : Int) < (slen F : Int) := by simp only [slen] at e1; omega
      have hne : ¬ F = .nil := by intro e; subst e; simp only [slen] at e1; omega
      obtain rfl : ao = some ⟨b, o, Option.none⟩ := hao.resolve_right hne
      obtain ⟨v1, v2, v3, v4, u, hu, hul, hrg⟩ := (SIn_node.1 e3).1.range
      have Hrg := Lib.hid (rangeAt_later hrg hbw)
      have i1 := hu.e1.isOne
      have i2 := hu.e2.isOne
      have i3 := hu.e3.isOne
      have i4 := hu.e4.isOne
      have i5 := hul.isOne
      have HU := Lib.hid (And.intro hu hul)
      rw [toldS_node] at e4
      simp only [snodes] at e2
      have He : Hid ((k + 1 + slen r = slen F ∧ snodes r ≤ snodes F ∧ SIn w 0 r b (o + (k + 1) * 19)) ∧ toldS d F = (toldSt d h l && toldS d r) ∧ all9 r) := ⟨⟨by simp only [slen] at e1; omega, by omega, by rw [show o + (k + 1) * 19 = o + k * 19 + 19 by omega]; exact (SIn_node.1 e3).2⟩, e4, e5.2.2⟩
      obtain ⟨tv, htv⟩ : ∃ t, toldSt d h l = t := ⟨_, rfl⟩
      have Htv := Lib.hid htv
      have Hq : Hid (∀ w, HV w 0 h v1 v2 v3 v4 → SV w 0 l u → Calls Tryz.prog 88 #[.agg (scells h v1 v2 v3 v4 u).toArray, .int .i64 (d : Int)] w fun e w' => e = .returned (.bool tv) ∧ Below w.heap.size w w') := fun w a b => by rw [← htv]; exact Hih.out h l e5.1 e5.2.1 (by omega) w v1 v2 v3 v4 u a b
      clear hr e1 e2 e3 e4 e5 hne hao hu hul hrg hin htv
      go_wp2_with (first | (refine wpList_load_mid rfl 57 _ rfl b (o + k * 19) rfl _ _ Hrg.out Tryz.underlying57 rfl sizeIS ?_) | (refine store_abs rfl 57 _ _ rfl _ _ _ rfl rfl ?ht sizeIS ?ho ?_; exact (newthere wr _); exact (oneS h v1 v2 v3 v4 u i1 i2 i3 i4 i5); intro W1 hW; have HW1 := Lib.hid (newblkS h v1 v2 v3 v4 u hW); clear hW) | (refine wpList_load_mid rfl 57 _ rfl wr.heap.size 0 rfl _ _ HW1.out.1 Tryz.underlying57 rfl sizeIS ?_))
      have hbW := hbw.trans (HW1.out.2.mono hbw.size)
      refine (Hq.out _ (HU.out.1.later hbW) (HU.out.2.later hbW)).mono ?_
      rintro e w2 ⟨rfl, hb2⟩
      have hbw2 := hbW.trans (hb2.mono hbW.size)
      clear hb2 HW1 Hrg hbw i1 i2 i3 i4 i5 hbW
      cases tv with
      | false =>
        have hf : Hid (toldS d F = false) := show toldS d F = false by rw [He.out.2.1, Htv.out]; rfl
        go_wp2
        go_ret
        exact retB (by rw [hB.out, hf.out]) hbw2
      | true =>
        go_wp2
        go_roundw
        case rel => exact ⟨r, k + 1, by go_num, ⟨He.out.1.1, He.out.1.2.1, He.out.1.2.2, by rw [He.out.2.1, Htv.out]; rfl, He.out.2.2⟩, hbw2⟩
        case measure => simp [RowKit.intOf]; omega
theorem stmtAsTold_all : ∀ (d : Nat), d ≤ 100 → ∀ (h : SH) (l : SF), small9 h → all9 l → ∀ (w : World) (v1 v2 v3 v4 v : Value), HV w 0 h v1 v2 v3 v4 → SV w 0 l v → Calls Tryz.prog 88 #[.agg (scells h v1 v2 v3 v4 v).toArray, .int .i64 (d : Int)] w fun e w' => e = .returned (.bool (toldSt d h l)) ∧ Below w.heap.size w w'
  | 0, hd, h, l, h9, _, w, v1, v2, v3, v4, v, hv, hl => stmtAsTold_of 0 hd h l h9 (fun h => absurd h (by omega)) w v1 v2 v3 v4 v hv hl
  | d + 1, hd, h, l, h9, hl9, w, v1, v2, v3, v4, v, hv, hl => by
    refine stmtAsTold_of (d + 1) hd h l h9 (fun _ w v hs => ?_) w v1 v2 v3 v4 v hv hl
    have := bodyAsTold_step d (by omega) l hl9 (fun h l a b _ w v1 v2 v3 v4 v c e => stmtAsTold_all d (by omega) h l a b w v1 v2 v3 v4 v c e) w v hs
    rw [show ((d + 1 : Nat) : Int) - 1 = (d : Int) by omega]
    exact this
/-- A load of many cells behind a guard that is met. -/
theorem load_if {P : Program} {ops : Array Oper} {rest : List Oper} {op : Oper} {a : Act} {w : World} {Q : Exit → Act → World → Prop} (hw : Region.wanted op (yielded ops a.tmps) = true) (ty : TypeId) (x : Operand) (ho : op.op = .load ty x)
    (b o : Nat) (hx : a.eval x = .pointer (some ⟨b, o, none⟩)) (cs : List Value) (d : TypeDesc) (hc : w.rangeAt b o cs)
    (hu : P.underlying ty = some d) (hd : d.isRow = true) (hi : (P.info? ty).map (·.size) = some cs.length)
    (h : wpList P ops Q rest (a.put op.dst (.agg cs.toArray)) w) : wpList P ops Q (op :: rest) a w :=
  wpList_step fun _ hK => by rw [if_pos hw]; exact wp_load_mid ty x ho b o hx cs d hc hu hd hi (hK _ _ h)
def stmtOk (h : SH) (l : SF) : Bool := toldSt 3 h l && decide (snodes l + 1 ≤ 40)
set_option maxHeartbeats 1000000 in
set_option maxRecDepth 100000 in
theorem impl_StmtOk (h : SH) (l : SF) (h9 : small9 h) (hl9 : all9 l) (hn : snodes l ≤ 9000000) (w : World) (v1 v2 v3 v4 v : Value) (hv : HV w 0 h v1 v2 v3 v4) (hl : SV w 0 l v) :
    Calls Tryz.prog 61 #[.agg (scells h v1 v2 v3 v4 v).toArray] w fun e w' => e = .returned (.bool (stmtOk h l)) ∧ Below w.heap.size w w' := by
  show Calls Tryz.prog 61 #[sagg h v1 v2 v3 v4 v] w _
  have T0 := Lib.hid (Bxs.start 57 hv hl)
  have R0 : Hid ((w.alloc (.cells (sarr h v1 v2 v3 v4 v) 57)).rangeAt w.heap.size 0 (sarr h v1 v2 v3 v4 v).toList) := T0.out.rg
  have HN := Lib.hid hn
  obtain ⟨tv, htv⟩ : ∃ t, toldSt 3 h l = t := ⟨_, rfl⟩
  have Htv := Lib.hid htv
  have Hq : Hid (∀ w, HV w 0 h v1 v2 v3 v4 → SV w 0 l v → Calls Tryz.prog 88 #[sagg h v1 v2 v3 v4 v, .int .i64 3] w fun e w' => e = .returned (.bool tv) ∧ Below w.heap.size w w') := fun w a b => by rw [← htv]; exact stmtAsTold_all 3 (by omega) h l h9 hl9 w v1 v2 v3 v4 v a b
  obtain ⟨va1, vc1, rfl⟩ := hv.e1.shape
  obtain ⟨va2, vc2, rfl⟩ := hv.e2.shape
  obtain ⟨va3, vc3, rfl⟩ := hv.e3.shape
  obtain ⟨va4, vc4, rfl⟩ := hv.e4.shape
  obtain ⟨va, vc, rfl⟩ := hl.shape
  clear hv hl htv h9 hl9 hn
  go_enter Tryz.func61, Tryz.ntmps61
  go_wp2_with (refine wpList_load_mid rfl 57 _ rfl w.heap.size 0 rfl _ _ R0.out Tryz.underlying57 rfl sizeIS ?_)
  refine (Hq.out _ T0.out.hv T0.out.sv).mono ?_
  rintro e w1 ⟨rfl, hb1⟩
  have T1 := Lib.hid (T0.out.later hb1)
  have R1 := Lib.hid (rangeAt_later R0.out hb1)
  clear hb1 T0 R0 Hq
  cases tv with
  | false =>
    go_wp2
    go_ret
    exact retB (by rw [stmtOk, Htv.out]; rfl) T1.out.low
  | true =>
  go_wp2_with (refine load_if (by rfl) 57 _ rfl w.heap.size 0 rfl _ _ R1.out Tryz.underlying57 rfl sizeIS ?_)
  have b1 := alloc_below w1 (.cells (sarr h (.slice va1 (elen h.x1.l) vc1) (.slice va2 (elen h.x2.l) vc2) (.slice va3 (elen h.x3.l) vc3) (.slice va4 (elen h.x4.l) vc4) (.slice va (slen l) vc)) 57)
  have g1 := T1.out.hv.later b1
  have V1 := SV.laid0 (F := .node 0 0 h l .nil) (SRow.one g1.e1 g1.e2 g1.e3 g1.e4 (T1.out.sv.later b1)) (new_range w1 (sarr h (.slice va1 (elen h.x1.l) vc1) (.slice va2 (elen h.x2.l) vc2) (.slice va3 (elen h.x3.l) vc3) (.slice va4 (elen h.x4.l) vc4) (.slice va (slen l) vc)) 57) 1
  refine (impl_Size (.node 0 0 h l .nil) (by have := HN.out; simp only [snodes]; omega) _ _ V1).mono ?_
  rintro e w2 ⟨rfl, hb2⟩
  have hB := ((T1.out.later b1).later hb2).low
  have hen : (snodes (.node 0 0 h l .nil : SF) : Int) = (snodes l : Int) + 1 := by simp only [snodes]; omega
  rw [hen]
  clear hb2 V1 hen b1 g1 R1 T1
  by_cases h6 : (snodes l : Int) + 1 ≤ 40
  · go_wp2
    go_ret
    exact retB (by rw [stmtOk, Htv.out, decide_eq_true (by omega)]; rfl) hB
  · go_wp2
    go_ret
    exact retB (by rw [stmtOk, Htv.out]; simp; omega) hB
end Go.Proofs.YtkilmefpaojkfaaGreat
