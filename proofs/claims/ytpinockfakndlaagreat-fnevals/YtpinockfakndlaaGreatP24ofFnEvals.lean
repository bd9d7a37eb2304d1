/-
  Texts in one: AstBody, AstStm.
-/
import Derived.Test.YtpinockfakndlaaGreatP23ofFnEvals
/-
  The contracts of the landed code's stmtAsTold, bodyAsTold and StmtOk.
-/
namespace Go.Proofs.YtpinockfakndlaaGreat
open Go.RowKit Go.Lib
set_option linter.unusedSimpArgs false
set_option linter.unusedVariables false

set_option maxHeartbeats 4000000 in
set_option maxRecDepth 100000 in
theorem told_30 (h : SH) (l : SF) (hk : h.k = 3) (h9 : small9 h)
    (w : World) (v1 v2 v3 v4 v : Value) (hv : HV w 0 h v1 v2 v3 v4) (hl : SV w 0 l v) :
    Calls Tryz.prog 138 #[sagg h v1 v2 v3 v4 v, .int .i64 0] w fun e w' => e = .returned (.bool (toldSt 0 h l)) ∧ Below w.heap.size w w' := by
  have T0 := Lib.hid (Bxs.start 98 hv hl)
  obtain ⟨va1, vc1, rfl⟩ := hv.e1.shape
  obtain ⟨va2, vc2, rfl⟩ := hv.e2.shape
  obtain ⟨va3, vc3, rfl⟩ := hv.e3.shape
  obtain ⟨va4, vc4, rfl⟩ := hv.e4.shape
  obtain ⟨va, vc, rfl⟩ := hl.shape
  have H9 := Lib.hid h9
  have HK := Lib.hid hk
  obtain ⟨tn, htn⟩ : ∃ t, (nameOk h.s.data.toList) = t := ⟨_, rfl⟩
  obtain ⟨te, hte⟩ : ∃ t, (expOk h.x3 && expOk h.x4) = t := ⟨_, rfl⟩
  obtain ⟨tz, htz⟩ : ∃ t, (noX h.x1 && noX h.x2) = t := ⟨_, rfl⟩
  have HH : Hid ((nameOk h.s.data.toList) = tn ∧ (expOk h.x3 && expOk h.x4) = te ∧ (noX h.x1 && noX h.x2) = tz) := ⟨htn, hte, htz⟩
  have HT : Hid (toldSt 0 h l = ((tn && (te && tz)) && false)) := show toldSt 0 h l = _ by
    have e1 : headOk h = (tn && (te && tz)) := by rw [← htn, ← hte, ← htz]; simp [headOk, hk, Bool.and_assoc]
    unfold toldSt; rw [e1]; simp [hk]
  clear htn hte htz hv hl h9
  have e1 : (h.k == 1) = false := by rw [hk]; rfl
  have e2 : (h.k == 2) = false := by rw [hk]; rfl
  have e3 : (h.k == 3) = true := by rw [hk]; rfl
  have e4 : (h.k == 4) = false := by rw [hk]; rfl
  clear hk
  go_enter Tryz.func138, Tryz.ntmps138
  go_wp2_with fail
  refine (impl_NameOk h.s tn HH.out.1 _).mono ?_
  rintro e w1 ⟨rfl, hb1⟩
  have T1 := Lib.hid (T0.out.later hb1)
  clear hb1 T0
  cases tn with
  | false =>
    go_wp2
    go_ret
    exact retB (by rw [HT.out]; rfl) T1.out.low
  | true =>
  have c30 := part3 T1.out.rg 0 _ rfl
  have c31 := part3 T1.out.rg 1 _ rfl
  have c32 := part3 T1.out.rg 2 _ rfl
  have c33 := part3 T1.out.rg 3 _ rfl
  have c40 := part4 T1.out.rg 0 _ rfl
  have c41 := part4 T1.out.rg 1 _ rfl
  have c42 := part4 T1.out.rg 2 _ rfl
  have c43 := part4 T1.out.rg 3 _ rfl
  simp only [Nat.add_zero, Nat.reduceAdd] at c30 c31 c32 c33 c40 c41 c42 c43
  go_wp2_with fail
  have V1 := laid2 43 T1.out.hv.e3 T1.out.hv.e4
  have h2q : enodes (.node 0 0 h.x3.h h.x3.l (.node 0 0 h.x4.h h.x4.l .nil) : EF) ≤ 9000000 := by have := H9.out; simp only [small9] at this; simp only [enodes]; omega
  refine (expsOk_is _ h2q _ _ V1).mono ?_
  rintro e w2 ⟨rfl, hb2⟩
  rw [show eall (.node 0 0 h.x3.h h.x3.l (.node 0 0 h.x4.h h.x4.l .nil) : EF) = te by rw [← HH.out.2.1]; simp [eall]]
  have T2 := Lib.hid ((T1.out.later (alloc_below _ _)).later hb2)
  clear hb2 T1 V1 h2q c30 c31 c32 c33 c40 c41 c42 c43
  cases te with
  | false =>
    go_wp2
    go_ret
    exact retB (by rw [HT.out]; rfl) T2.out.low
  | true =>
  have c10 := part1 T2.out.rg 0 _ rfl
  have c11 := part1 T2.out.rg 1 _ rfl
  have c12 := part1 T2.out.rg 2 _ rfl
  have c13 := part1 T2.out.rg 3 _ rfl
  have c20 := part2 T2.out.rg 0 _ rfl
  have c21 := part2 T2.out.rg 1 _ rfl
  have c22 := part2 T2.out.rg 2 _ rfl
  have c23 := part2 T2.out.rg 3 _ rfl
  simp only [Nat.add_zero, Nat.reduceAdd] at c10 c11 c12 c13 c20 c21 c22 c23
  go_wp2_with fail
  have V2 := laid2 43 T2.out.hv.e1 T2.out.hv.e2
  refine (noExps_is _ (by simp [elen]) _ _ V2).mono ?_
  rintro e w3 ⟨rfl, hb3⟩
  rw [show enone (.node 0 0 h.x1.h h.x1.l (.node 0 0 h.x2.h h.x2.l .nil) : EF) = tz by rw [← HH.out.2.2]; simp [enone]]
  have T3 := Lib.hid ((T2.out.later (alloc_below _ _)).later hb3)
  clear hb3 T2 V2 c10 c11 c12 c13 c20 c21 c22 c23
  cases tz with
  | false =>
    go_wp2
    go_ret
    exact retB (by rw [HT.out]; rfl) T3.out.low
  | true =>
  go_wp2
  go_ret
  exact retB (by rw [HT.out]; rfl) T3.out.low
set_option maxHeartbeats 1000000 in
set_option maxRecDepth 100000 in
theorem told_0 (d : Nat) (h : SH) (l : SF) (hk : ¬ (1 ≤ h.k ∧ h.k ≤ 4)) (w : World) (v1 v2 v3 v4 v : Value) :
    Calls Tryz.prog 138 #[sagg h v1 v2 v3 v4 v, .int .i64 (d : Int)] w fun e w' => e = .returned (.bool (toldSt d h l)) ∧ Below w.heap.size w w' := by
  have hf : Hid (toldSt d h l = false) := show toldSt d h l = false by
    have : headOk h = false := by
      unfold headOk
      rw [if_neg (by omega), if_neg (by omega), if_neg (by omega), if_neg (by omega)]
    simp [toldSt, this]
  have e1 : (h.k == 1) = false := int_ne (by omega)
  have e2 : (h.k == 2) = false := int_ne (by omega)
  have e3 : (h.k == 3) = false := int_ne (by omega)
  have e4 : (h.k == 4) = false := int_ne (by omega)
  clear hk
  go_enter Tryz.func138, Tryz.ntmps138
  go_wp2
  go_ret
  exact retB hf.out (alloc_below _ _)
theorem stmtAsTold_of (d : Nat) (hd : d ≤ 100) (h : SH) (l : SF) (h9 : small9 h)
    (ih : 1 ≤ d → ∀ (w : World) (v : Value), SV w 0 l v → Calls Tryz.prog 161 #[v, .int .i64 ((d : Int) - 1)] w fun e w' => e = .returned (.bool (bodyTold (d - 1) l)) ∧ Below w.heap.size w w')
    (w : World) (v1 v2 v3 v4 v : Value) (hv : HV w 0 h v1 v2 v3 v4) (hl : SV w 0 l v) :
    Calls Tryz.prog 138 #[.agg (scells h v1 v2 v3 v4 v).toArray, .int .i64 (d : Int)] w fun e w' => e = .returned (.bool (toldSt d h l)) ∧ Below w.heap.size w w' := by
  by_cases hk : 1 ≤ h.k ∧ h.k ≤ 4
  · obtain e | e | e | e : h.k = 1 ∨ h.k = 2 ∨ h.k = 3 ∨ h.k = 4 := by omega
    · exact told_1 d hd h l e h9 w v1 v2 v3 v4 v hv hl
    · exact told_2 d hd h l e h9 w v1 v2 v3 v4 v hv hl
    · cases d with
      | zero => exact told_30 h l e h9 w v1 v2 v3 v4 v hv hl
      | succ d => exact told_3 (d + 1) hd h l e h9 (ih (by omega)) (by omega) w v1 v2 v3 v4 v hv hl
    · exact told_4 d hd h l e h9 w v1 v2 v3 v4 v hv hl
  · exact told_0 d h l hk w v1 v2 v3 v4 v
set_option maxHeartbeats 2000000 in
set_option maxRecDepth 100000 in
theorem bodyAsTold_step (d : Nat) (hd : d ≤ 100) (F : SF) (hF : all9 F)
    (ih : ∀ (h : SH) (l : SF), small9 h → all9 l → snodes l < snodes F → ∀ (w : World) (v1 v2 v3 v4 v : Value), HV w 0 h v1 v2 v3 v4 → SV w 0 l v → Calls Tryz.prog 138 #[.agg (scells h v1 v2 v3 v4 v).toArray, .int .i64 (d : Int)] w fun e w' => e = .returned (.bool (toldSt d h l)) ∧ Below w.heap.size w w')
    (w : World) (v : Value) (hv : SV w 0 F v) :
    Calls Tryz.prog 161 #[v, .int .i64 (d : Int)] w fun e w' => e = .returned (.bool (bodyTold d F)) ∧ Below w.heap.size w w' := by
  obtain ⟨b, o, ao, cap, rfl, hao, _, hin⟩ := hv
  have Hih := Lib.hid ih
  clear ih
  by_cases h0 : slen F = 0
  · have hf : Hid (bodyTold d F = false) := show bodyTold d F = false by simp [bodyTold, h0]
    have h1 : ((slen F : Int) == 0) = true := by rw [beq_iff_eq]; omega
    clear h0 hao hin
    go_enter Tryz.func161, Tryz.ntmps161
    go_wp2
    go_ret
    exact retB hf.out (Below.refl _ _)
  have h1 : ((slen F : Int) == 0) = false := int_ne (by omega)
  by_cases h6 : 6 < slen F
  · have hf : Hid (bodyTold d F = false) := show bodyTold d F = false by simp [bodyTold]; omega
    have h2 : (6 : Int) < (slen F : Int) := by omega
    clear h0 h6 hao hin
    go_enter Tryz.func161, Tryz.ntmps161
    go_wp2
    go_ret
    exact retB hf.out (Below.refl _ _)
  have h2 : ¬ (6 : Int) < (slen F : Int) := by omega
  have hB : Hid (bodyTold d F = toldS d F) := show bodyTold d F = toldS d F by unfold bodyTold; rw [decide_eq_true (by omega), decide_eq_true (by omega)]; rfl
  clear h0 h6
  go_enter Tryz.func161, Tryz.ntmps161
  go_wp2
  go_loopw [17] (fun i wr => ∃ (R : SF) (k : Nat), i = .int .i64 (k : Int) ∧ Hid (k + slen R = slen F ∧ snodes R ≤ snodes F ∧ SIn w 0 R b (o + k * 19) ∧ toldS d F = toldS d R ∧ all9 R) ∧ Below w.heap.size w wr) (fun i _ => slen F - (RowKit.intOf i).toNat)
  case atStart => exact ⟨F, 0, rfl, ⟨by omega, Nat.le_refl _, by simpa using hin, rfl, hF⟩, Below.refl _ _⟩
  case round =>
    obtain ⟨R, k, rfl, hr, hbw⟩ := hrel
    obtain ⟨e1, e2, e3, e4, e5⟩ := hr.out
    cases R with
    | nil =>
      have hk : ¬ (k : Int) < (slen F : Int) := by simp only [slen] at e1; omega
      have hf : Hid (toldS d F = true) := e4
      clear e4 hr
      go_wp2
      go_ret
      exact retB (by rw [hB.out, hf.out]) hbw
    | node p q h l r =>
      have hlt : (k : Int) < (slen F : Int) := by simp only [slen] at e1; omega
      have hne : ¬ F = .nil := by intro e; subst e; simp only [slen] at e1; omega
      obtain rfl : ao = some ⟨b, o, Option.none⟩ := hao.resolve_right hne
      obtain ⟨v1, v2, v3, v4, u, hu, hul, hrg⟩ := (SIn_node.1 e3).1.range
      have Hrg := Lib.hid (rangeAt_later hrg hbw)
      have i1 := hu.e1.isOne
      have i2 := hu.e2.isOne
      have i3 := hu.e3.isOne
      have i4 := hu.e4.isOne
      have i5 := hul.isOne
      have HU := Lib.hid (And.intro hu hul)
      rw [toldS_node] at e4
      simp only [snodes] at e2
      have He : Hid ((k + 1 + slen r = slen F ∧ snodes r ≤ snodes F ∧ SIn w 0 r b (o + (k + 1) * 19)) ∧ toldS d F = (toldSt d h l && toldS d r) ∧ all9 r) := ⟨⟨by simp only [slen] at e1; omega, by omega, by rw [show o + (k + 1) * 19 = o + k * 19 + 19 by omega]; exact (SIn_node.1 e3).2⟩, e4, e5.2.2⟩
      obtain ⟨tv, htv⟩ : ∃ t, toldSt d h l = t := ⟨_, rfl⟩
      have Htv := Lib.hid htv
      have Hq : Hid (∀ w, HV w 0 h v1 v2 v3 v4 → SV w 0 l u → Calls Tryz.prog 138 #[.agg (scells h v1 v2 v3 v4 u).toArray, .int .i64 (d : Int)] w fun e w' => e = .returned (.bool tv) ∧ Below w.heap.size w w') := fun w a b => by rw [← htv]; exact Hih.out h l e5.1 e5.2.1 (by omega) w v1 v2 v3 v4 u a b
      clear hr e1 e2 e3 e4 e5 hne hao hu hul hrg hin htv
      go_wp2_with (first | (refine wpList_load_mid rfl 98 _ rfl b (o + k * 19) rfl _ _ Hrg.out Tryz.underlying98 rfl sizeIS ?_) | (refine store_abs rfl 98 _ _ rfl _ _ _ rfl rfl ?ht sizeIS ?ho ?_; exact (newthere wr _); exact (oneS h v1 v2 v3 v4 u i1 i2 i3 i4 i5); intro W1 hW; have HW1 := Lib.hid (newblkS h v1 v2 v3 v4 u hW); clear hW) | (refine wpList_load_mid rfl 98 _ rfl wr.heap.size 0 rfl _ _ HW1.out.1 Tryz.underlying98 rfl sizeIS ?_))
      have hbW := hbw.trans (HW1.out.2.mono hbw.size)
      refine (Hq.out _ (HU.out.1.later hbW) (HU.out.2.later hbW)).mono ?_
      rintro e w2 ⟨rfl, hb2⟩
      have hbw2 := hbW.trans (hb2.mono hbW.size)
      clear hb2 HW1 Hrg hbw i1 i2 i3 i4 i5 hbW
      cases tv with
      | false =>
        have hf : Hid (toldS d F = false) := show toldS d F = false by rw [He.out.2.1, Htv.out]; rfl
        go_wp2
        go_ret
        exact retB (by rw [hB.out, hf.out]) hbw2
      | true =>
        go_wp2
        go_roundw
        case rel => exact ⟨r, k + 1, by go_num, ⟨He.out.1.1, He.out.1.2.1, He.out.1.2.2, by rw [He.out.2.1, Htv.out]; rfl, He.out.2.2⟩, hbw2⟩
        case measure => simp [RowKit.intOf]; omega
theorem stmtAsTold_all : ∀ (d : Nat), d ≤ 100 → ∀ (h : SH) (l : SF), small9 h → all9 l → ∀ (w : World) (v1 v2 v3 v4 v : Value), HV w 0 h v1 v2 v3 v4 → SV w 0 l v → Calls Tryz.prog 138 #[.agg (scells h v1 v2 v3 v4 v).toArray, .int .i64 (d : Int)] w fun e w' => e = .returned (.bool (toldSt d h l)) ∧ Below w.heap.size w w'
  | 0, hd, h, l, h9, _, w, v1, v2, v3, v4, v, hv, hl => stmtAsTold_of 0 hd h l h9 (fun h => absurd h (by omega)) w v1 v2 v3 v4 v hv hl
  | d + 1, hd, h, l, h9, hl9, w, v1, v2, v3, v4, v, hv, hl => by
    refine stmtAsTold_of (d + 1) hd h l h9 (fun _ w v hs => ?_) w v1 v2 v3 v4 v hv hl
    have := bodyAsTold_step d (by omega) l hl9 (fun h l a b _ w v1 v2 v3 v4 v c e => stmtAsTold_all d (by omega) h l a b w v1 v2 v3 v4 v c e) w v hs
    rw [show ((d + 1 : Nat) : Int) - 1 = (d : Int) by omega]
    exact this
/-- A load of many cells behind a guard that is met. -/
theorem load_if {P : Program} {ops : Array Oper} {rest : List Oper} {op : Oper} {a : Act} {w : World} {Q : Exit → Act → World → Prop} (hw : Region.wanted op (yielded ops a.tmps) = true) (ty : TypeId) (x : Operand) (ho : op.op = .load ty x)
    (b o : Nat) (hx : a.eval x = .pointer (some ⟨b, o, none⟩)) (cs : List Value) (d : TypeDesc) (hc : w.rangeAt b o cs)
    (hu : P.underlying ty = some d) (hd : d.isRow = true) (hi : (P.info? ty).map (·.size) = some cs.length)
    (h : wpList P ops Q rest (a.put op.dst (.agg cs.toArray)) w) : wpList P ops Q (op :: rest) a w :=
  wpList_step fun _ hK => by rw [if_pos hw]; exact wp_load_mid ty x ho b o hx cs d hc hu hd hi (hK _ _ h)
def stmtOk (h : SH) (l : SF) : Bool := toldSt 3 h l && decide (snodes l + 1 ≤ 40)
set_option maxHeartbeats 1000000 in
set_option maxRecDepth 100000 in
theorem impl_StmtOk (h : SH) (l : SF) (h9 : small9 h) (hl9 : all9 l) (hn : snodes l ≤ 9000000) (w : World) (v1 v2 v3 v4 v : Value) (hv : HV w 0 h v1 v2 v3 v4) (hl : SV w 0 l v) :
    Calls Tryz.prog 98 #[.agg (scells h v1 v2 v3 v4 v).toArray] w fun e w' => e = .returned (.bool (stmtOk h l)) ∧ Below w.heap.size w w' := by
  show Calls Tryz.prog 98 #[sagg h v1 v2 v3 v4 v] w _
  have T0 := Lib.hid (Bxs.start 98 hv hl)
  have R0 : Hid ((w.alloc (.cells (sarr h v1 v2 v3 v4 v) 98)).rangeAt w.heap.size 0 (sarr h v1 v2 v3 v4 v).toList) := T0.out.rg
  have HN := Lib.hid hn
  obtain ⟨tv, htv⟩ : ∃ t, toldSt 3 h l = t := ⟨_, rfl⟩
  have Htv := Lib.hid htv
  have Hq : Hid (∀ w, HV w 0 h v1 v2 v3 v4 → SV w 0 l v → Calls Tryz.prog 138 #[sagg h v1 v2 v3 v4 v, .int .i64 3] w fun e w' => e = .returned (.bool tv) ∧ Below w.heap.size w w') := fun w a b => by rw [← htv]; exact stmtAsTold_all 3 (by omega) h l h9 hl9 w v1 v2 v3 v4 v a b
  obtain ⟨va1, vc1, rfl⟩ := hv.e1.shape
  obtain ⟨va2, vc2, rfl⟩ := hv.e2.shape
  obtain ⟨va3, vc3, rfl⟩ := hv.e3.shape
  obtain ⟨va4, vc4, rfl⟩ := hv.e4.shape
  obtain ⟨va, vc, rfl⟩ := hl.shape
  clear hv hl htv h9 hl9 hn
  go_enter Tryz.func98, Tryz.ntmps98
  go_wp2_with (refine wpList_load_mid rfl 98 _ rfl w.heap.size 0 rfl _ _ R0.out Tryz.underlying98 rfl sizeIS ?_)
  refine (Hq.out _ T0.out.hv T0.out.sv).mono ?_
  rintro e w1 ⟨rfl, hb1⟩
  have T1 := Lib.hid (T0.out.later hb1)
  have R1 := Lib.hid (rangeAt_later R0.out hb1)
  clear hb1 T0 R0 Hq
  cases tv with
  | false =>
    go_wp2
    go_ret
    exact retB (by rw [stmtOk, Htv.out]; rfl) T1.out.low
  | true =>
  go_wp2_with (refine load_if (by rfl) 98 _ rfl w.heap.size 0 rfl _ _ R1.out Tryz.underlying98 rfl sizeIS ?_)
  have b1 := alloc_below w1 (.cells (sarr h (.slice va1 (elen h.x1.l) vc1) (.slice va2 (elen h.x2.l) vc2) (.slice va3 (elen h.x3.l) vc3) (.slice va4 (elen h.x4.l) vc4) (.slice va (slen l) vc)) 98)
  have g1 := T1.out.hv.later b1
  have V1 := SV.laid0 (F := .node 0 0 h l .nil) (SRow.one g1.e1 g1.e2 g1.e3 g1.e4 (T1.out.sv.later b1)) (new_range w1 (sarr h (.slice va1 (elen h.x1.l) vc1) (.slice va2 (elen h.x2.l) vc2) (.slice va3 (elen h.x3.l) vc3) (.slice va4 (elen h.x4.l) vc4) (.slice va (slen l) vc)) 98) 1
  refine (impl_Size (.node 0 0 h l .nil) (by have := HN.out; simp only [snodes]; omega) _ _ V1).mono ?_
  rintro e w2 ⟨rfl, hb2⟩
  have hB := ((T1.out.later b1).later hb2).low
  have hen : (snodes (.node 0 0 h l .nil : SF) : Int) = (snodes l : Int) + 1 := by simp only [snodes]; omega
  rw [hen]
  clear hb2 V1 hen b1 g1 R1 T1
  by_cases h6 : (snodes l : Int) + 1 ≤ 40
  · go_wp2
    go_ret
    exact retB (by rw [stmtOk, Htv.out, decide_eq_true (by omega)]; rfl) hB
  · go_wp2
    go_ret
    exact retB (by rw [stmtOk, Htv.out]; simp; omega) hB
end Go.Proofs.YtpinockfakndlaaGreat
/-
  The contracts of the specification's l3Stmt and StmtOk.
-/
namespace Go.Proofs.YtpinockfakndlaaGreat
open Go.RowKit Go.Lib
set_option linter.unusedSimpArgs false
set_option linter.unusedVariables false

def okS (D : Nat) (h : SH) (l : SF) : Prop := toldSt D h l = true ∧ snodes l + 1 ≤ 40
structure CnS (D : Nat) (h : SH) (l : SF) (r : Nat) : Prop where
  yes : okS D h l → r = snodes l + 1
  no : ¬ okS D h l → 40 < r
  big : r ≤ 100 + 40 * D
theorem CnS.bad {D : Nat} {h : SH} {l : SF} (hn : toldSt D h l = false) : CnS D h l 100 := ⟨fun e => absurd (e.1.symm.trans hn) (by simp), fun _ => by omega, by omega⟩
theorem CnS.one {D : Nat} {h : SH} {l : SF} (hy : toldSt D h l = true) (hl : slen l = 0) : CnS D h l 1 := by
  have : l = .nil := by
    cases l with
    | nil => rfl
    | node _ _ _ _ _ => simp [slen] at hl
  subst this
  exact ⟨fun _ => rfl, fun e => absurd ⟨hy, by simp [snodes]⟩ e, by omega⟩
/-- Between two rounds. -/
structure CsM (w : World) (D : Nat) (xl R : SF) (k c b o : Nat) : Prop where
  at_ : SIn w 0 R b (o + k * 19)
  num : k + slen R = slen xl
  siz : ssize R ≤ 1048576
  low : c ≤ 40 → toldS D xl = toldS D R ∧ c + snodes R = snodes xl + 1
  high : 40 < c → ¬ (toldS D xl = true ∧ snodes xl + 1 ≤ 40)
  big : c ≤ 140 + 40 * D
theorem CsM.next {w : World} {D p q : Nat} {xl : SF} {h : SH} {l r : SF} {k c b o n : Nat} (m : CsM w D xl (.node p q h l r) k c b o) (hc : c ≤ 40) (hn : CnS D h l n) : CsM w D xl r (k + 1) (c + n) b o := by
  obtain ⟨e1, e2⟩ := m.low hc
  rw [toldS_node] at e1
  have h1 := m.num
  have h2 := m.siz
  simp only [slen, ssize, snodes] at h1 h2 e2
  have hb := hn.big
  by_cases hok : okS D h l
  · have hy := hn.yes hok
    have ht := hok.1
    rw [ht, Bool.true_and] at e1
    refine ⟨by rw [show o + (k + 1) * 19 = o + k * 19 + 19 by omega]; exact (SIn_node.1 m.at_).2, by omega, by omega, fun _ => ⟨e1, by omega⟩, fun hh => ?_, by omega⟩
    intro ⟨_, g2⟩; omega
  · have hy := hn.no hok
    refine ⟨by rw [show o + (k + 1) * 19 = o + k * 19 + 19 by omega]; exact (SIn_node.1 m.at_).2, by omega, by omega, fun hh => by omega, fun hh => ?_, by omega⟩
    intro ⟨g1, g2⟩
    apply hok
    rw [e1, Bool.and_eq_true] at g1
    exact ⟨g1.1, by omega⟩
theorem rng0 {w : World} {b : Nat} {h : SH} {v1 v2 v3 v4 v : Value} (r : w.rangeAt b 0 (scells h v1 v2 v3 v4 v)) : w.cell? ⟨b, 0, Option.none⟩ = some (.int .i64 h.k) := r 0 _ rfl
theorem rng1 {w : World} {b : Nat} {h : SH} {v1 v2 v3 v4 v : Value} (r : w.rangeAt b 0 (scells h v1 v2 v3 v4 v)) : w.cell? ⟨b, 1, Option.none⟩ = some (.string h.s) := r 1 _ rfl
set_option maxHeartbeats 4000000 in
set_option maxRecDepth 100000 in
theorem l3S_1 (D : Nat) (hD : D ≤ 3) (h : SH) (l : SF) (hk : h.k = 1) (hsz : hsize h + ssize l ≤ 1048576)
    (w : World) (v1 v2 v3 v4 v : Value) (hv : HV w 0 h v1 v2 v3 v4) (hl : SV w 0 l v) :
    Calls Tryz.prog 150 #[sagg h v1 v2 v3 v4 v, .int .i64 (3 - (D : Int))] w fun e w' => ∃ r : Nat, e = .returned (.int .i64 (r : Int)) ∧ CnS D h l r ∧ Below w.heap.size w w' := by
  have T0 := Lib.hid (Bxs.start 98 hv hl)
  have hsx : xsize h.x1 ≤ 1048576 ∧ xsize h.x2 ≤ 1048576 ∧ xsize h.x3 ≤ 1048576 ∧ xsize h.x4 ≤ 1048576 ∧ h.s.size ≤ 1048576 ∧ ssize l ≤ 1048576 := by unfold hsize at hsz; omega
  have HX := Lib.hid hsx
  obtain ⟨a1, ha1⟩ : ∃ t, noX h.x1 = t := ⟨_, rfl⟩
  have Qa1 : Hid (∀ w, EV w 0 h.x1.l v1 → Calls Tryz.prog 167 #[.agg (xcells h.x1 v1).toArray] w fun e w' => e = .returned (.bool a1) ∧ Below w.heap.size w w') := fun w p => by rw [← ha1]; exact l3No_is h.x1 w v1 p
  obtain ⟨t2, ht2⟩ : ∃ t, expOk h.x2 = t := ⟨_, rfl⟩
  have Qt2 : Hid (∀ w, EV w 0 h.x2.l v2 → Calls Tryz.prog 44 #[.agg (xcells h.x2 v2).toArray] w fun e w' => e = .returned (.bool t2) ∧ Below w.heap.size w w') := fun w p => by rw [← ht2]; exact spec_ExpOk h.x2 HX.out.2.1 w v2 p
  obtain ⟨t3, ht3⟩ : ∃ t, noX h.x3 = t := ⟨_, rfl⟩
  have Qt3 : Hid (∀ w, EV w 0 h.x3.l v3 → Calls Tryz.prog 167 #[.agg (xcells h.x3 v3).toArray] w fun e w' => e = .returned (.bool t3) ∧ Below w.heap.size w w') := fun w p => by rw [← ht3]; exact l3No_is h.x3 w v3 p
  obtain ⟨t4, ht4⟩ : ∃ t, noX h.x4 = t := ⟨_, rfl⟩
  have Qt4 : Hid (∀ w, EV w 0 h.x4.l v4 → Calls Tryz.prog 167 #[.agg (xcells h.x4 v4).toArray] w fun e w' => e = .returned (.bool t4) ∧ Below w.heap.size w w') := fun w p => by rw [← ht4]; exact l3No_is h.x4 w v4 p
  obtain ⟨t5, ht5⟩ : ∃ t, nameOk h.s.data.toList = t := ⟨_, rfl⟩
  have H5 := Lib.hid ht5
  have HT : Hid (toldSt D h l = ((t5 && (t2 && (a1 && (t3 && t4)))) && (decide (slen l = 0)))) := show toldSt D h l = _ by
    have e1 : headOk h = (t5 && (t2 && (a1 && (t3 && t4)))) := by rw [← ha1, ← ht2, ← ht3, ← ht4, ← ht5]; simp [headOk, hk]
    unfold toldSt; rw [e1]; simp [hk]
  have e1 : (h.k == 1) = true := by rw [hk]; rfl
  have e2 : (h.k == 2) = false := by rw [hk]; rfl
  have e3 : (h.k == 3) = false := by rw [hk]; rfl
  have e4 : (h.k == 4) = false := by rw [hk]; rfl
  have e3n : (h.k != 3) = true := by rw [bne, e3]; rfl
  have hin1 : (decide ((1 : Int) ≤ h.k) && decide (h.k ≤ 4)) = true := by rw [hk]; rfl
  have Hin := Lib.hid hin1
  obtain ⟨va, vc, rfl⟩ := hl.shape
  have hDI : (D : Int) ≤ 3 := by omega
  clear hv hl hsz hsx hk hin1 ha1 ht2 ht3 ht4 ht5
  go_enter Tryz.func150, Tryz.ntmps150
  go_wp2_with (refine wpList_load_mid rfl 43 _ rfl w.heap.size 2 rfl _ _ (part1 T0.out.rg) Tryz.underlying43 rfl sizeIE2 ?_)
  refine (Qa1.out _ T0.out.hv.e1).mono ?_
  rintro e w1 ⟨rfl, hb1⟩
  have T1 := Lib.hid (T0.out.later hb1)
  clear hb1 T0
  have k0 := rng0 T1.out.rg
  have k1 := rng1 T1.out.rg
  go_wp2_with (refine wpList_load_mid rfl 43 _ rfl w.heap.size 6 rfl _ _ (part2 T1.out.rg) Tryz.underlying43 rfl sizeIE2 ?_)
  refine (Qt2.out _ T1.out.hv.e2).mono ?_
  rintro e w2 ⟨rfl, hb2⟩
  have T2 := Lib.hid (T1.out.later hb2)
  clear hb2 T1 k0 k1
  have k0 := rng0 T2.out.rg
  have k1 := rng1 T2.out.rg
  go_wp2_with (refine wpList_load_mid rfl 43 _ rfl w.heap.size 10 rfl _ _ (part3 T2.out.rg) Tryz.underlying43 rfl sizeIE2 ?_)
  refine (Qt3.out _ T2.out.hv.e3).mono ?_
  rintro e w3 ⟨rfl, hb3⟩
  have T3 := Lib.hid (T2.out.later hb3)
  clear hb3 T2 k0 k1
  have k0 := rng0 T3.out.rg
  have k1 := rng1 T3.out.rg
  go_wp2_with (refine wpList_load_mid rfl 43 _ rfl w.heap.size 14 rfl _ _ (part4 T3.out.rg) Tryz.underlying43 rfl sizeIE2 ?_)
  refine (Qt4.out _ T3.out.hv.e4).mono ?_
  rintro e w4 ⟨rfl, hb4⟩
  have T4 := Lib.hid (T3.out.later hb4)
  clear hb4 T3 k0 k1
  have k0 := rng0 T4.out.rg
  have k1 := rng1 T4.out.rg
  go_wp2_with fail
  refine (spec_NameOk h.s t5 H5.out (by have := HX.out; omega) _).mono ?_
  rintro e w5 ⟨rfl, hb5⟩
  have T5 := Lib.hid (T4.out.later hb5)
  clear hb5 T4 k0 k1
  have k0 := rng0 T5.out.rg
  have k1 := rng1 T5.out.rg
  have c18 := part5 T5.out.rg
  cases a1 with
  | false =>
    go_wp2
    go_ret
    exact ⟨100, rfl, CnS.bad (by simp [HT.out]), T5.out.low⟩
  | true =>
  cases t2 with
  | false =>
    go_wp2
    go_ret
    exact ⟨100, rfl, CnS.bad (by simp [HT.out]), T5.out.low⟩
  | true =>
  cases t3 with
  | false =>
    go_wp2
    go_ret
    exact ⟨100, rfl, CnS.bad (by simp [HT.out]), T5.out.low⟩
  | true =>
  cases t4 with
  | false =>
    go_wp2
    go_ret
    exact ⟨100, rfl, CnS.bad (by simp [HT.out]), T5.out.low⟩
  | true =>
  cases t5 with
  | false =>
    go_wp2
    go_ret
    exact ⟨100, rfl, CnS.bad (by simp [HT.out]), T5.out.low⟩
  | true =>
  go_wp2_with fail
  refine (l1In_is h.k 1 4 _).mono ?_
  rintro e wz ⟨rfl, hbz⟩
  subst hbz
  rw [Hin.out]
  by_cases hz : slen l = 0
  · have h1 : ¬ (0 : Int) < (slen l : Int) := by omega
    have Hz := Lib.hid hz
    clear hz
    go_wp2
    go_ret
    exact ⟨1, rfl, CnS.one (by rw [HT.out, Hz.out]; rfl) Hz.out, T5.out.low⟩
  · have h1 : (0 : Int) < (slen l : Int) := by omega
    have Hz := Lib.hid hz
    clear hz
    go_wp2
    go_ret
    exact ⟨100, rfl, CnS.bad (by rw [HT.out, decide_eq_false Hz.out]; rfl), T5.out.low⟩
set_option maxHeartbeats 4000000 in
set_option maxRecDepth 100000 in
theorem l3S_2 (D : Nat) (hD : D ≤ 3) (h : SH) (l : SF) (hk : h.k = 2) (hsz : hsize h + ssize l ≤ 1048576)
    (w : World) (v1 v2 v3 v4 v : Value) (hv : HV w 0 h v1 v2 v3 v4) (hl : SV w 0 l v) :
    Calls Tryz.prog 150 #[sagg h v1 v2 v3 v4 v, .int .i64 (3 - (D : Int))] w fun e w' => ∃ r : Nat, e = .returned (.int .i64 (r : Int)) ∧ CnS D h l r ∧ Below w.heap.size w w' := by
  have T0 := Lib.hid (Bxs.start 98 hv hl)
  have hsx : xsize h.x1 ≤ 1048576 ∧ xsize h.x2 ≤ 1048576 ∧ xsize h.x3 ≤ 1048576 ∧ xsize h.x4 ≤ 1048576 ∧ h.s.size ≤ 1048576 ∧ ssize l ≤ 1048576 := by unfold hsize at hsz; omega
  have HX := Lib.hid hsx
  obtain ⟨a1, ha1⟩ : ∃ t, noX h.x1 = t := ⟨_, rfl⟩
  have Qa1 : Hid (∀ w, EV w 0 h.x1.l v1 → Calls Tryz.prog 167 #[.agg (xcells h.x1 v1).toArray] w fun e w' => e = .returned (.bool a1) ∧ Below w.heap.size w w') := fun w p => by rw [← ha1]; exact l3No_is h.x1 w v1 p
  obtain ⟨t2, ht2⟩ : ∃ t, expOk h.x2 = t := ⟨_, rfl⟩
  have Qt2 : Hid (∀ w, EV w 0 h.x2.l v2 → Calls Tryz.prog 44 #[.agg (xcells h.x2 v2).toArray] w fun e w' => e = .returned (.bool t2) ∧ Below w.heap.size w w') := fun w p => by rw [← ht2]; exact spec_ExpOk h.x2 HX.out.2.1 w v2 p
  obtain ⟨t3, ht3⟩ : ∃ t, noX h.x3 = t := ⟨_, rfl⟩
  have Qt3 : Hid (∀ w, EV w 0 h.x3.l v3 → Calls Tryz.prog 167 #[.agg (xcells h.x3 v3).toArray] w fun e w' => e = .returned (.bool t3) ∧ Below w.heap.size w w') := fun w p => by rw [← ht3]; exact l3No_is h.x3 w v3 p
  obtain ⟨t4, ht4⟩ : ∃ t, noX h.x4 = t := ⟨_, rfl⟩
  have Qt4 : Hid (∀ w, EV w 0 h.x4.l v4 → Calls Tryz.prog 167 #[.agg (xcells h.x4 v4).toArray] w fun e w' => e = .returned (.bool t4) ∧ Below w.heap.size w w') := fun w p => by rw [← ht4]; exact l3No_is h.x4 w v4 p
  obtain ⟨b1, hb1⟩ : ∃ t, expOk h.x1 = t := ⟨_, rfl⟩
  have Qb1 : Hid (∀ w, EV w 0 h.x1.l v1 → Calls Tryz.prog 44 #[.agg (xcells h.x1 v1).toArray] w fun e w' => e = .returned (.bool b1) ∧ Below w.heap.size w w') := fun w p => by rw [← hb1]; exact spec_ExpOk h.x1 HX.out.1 w v1 p
  obtain ⟨t5, ht5⟩ : ∃ t, nameOk h.s.data.toList = t := ⟨_, rfl⟩
  have H5 := Lib.hid ht5
  have HT : Hid (toldSt D h l = ((t5 && ((b1 && t2) && (t3 && t4))) && (decide (slen l = 0)))) := show toldSt D h l = _ by
    have e1 : headOk h = (t5 && ((b1 && t2) && (t3 && t4))) := by rw [← hb1, ← ht2, ← ht3, ← ht4, ← ht5]; simp [headOk, hk]
    unfold toldSt; rw [e1]; simp [hk]
  have e1 : (h.k == 1) = false := by rw [hk]; rfl
  have e2 : (h.k == 2) = true := by rw [hk]; rfl
  have e3 : (h.k == 3) = false := by rw [hk]; rfl
  have e4 : (h.k == 4) = false := by rw [hk]; rfl
  have e3n : (h.k != 3) = true := by rw [bne, e3]; rfl
  have hin1 : (decide ((1 : Int) ≤ h.k) && decide (h.k ≤ 4)) = true := by rw [hk]; rfl
  have Hin := Lib.hid hin1
  obtain ⟨va, vc, rfl⟩ := hl.shape
  have hDI : (D : Int) ≤ 3 := by omega
  clear hv hl hsz hsx hk hin1 ha1 ht2 ht3 ht4 hb1 ht5
  go_enter Tryz.func150, Tryz.ntmps150
  go_wp2_with (refine wpList_load_mid rfl 43 _ rfl w.heap.size 2 rfl _ _ (part1 T0.out.rg) Tryz.underlying43 rfl sizeIE2 ?_)
  refine (Qa1.out _ T0.out.hv.e1).mono ?_
  rintro e w1 ⟨rfl, hb1⟩
  have T1 := Lib.hid (T0.out.later hb1)
  clear hb1 T0
  have k0 := rng0 T1.out.rg
  have k1 := rng1 T1.out.rg
  go_wp2_with (refine wpList_load_mid rfl 43 _ rfl w.heap.size 6 rfl _ _ (part2 T1.out.rg) Tryz.underlying43 rfl sizeIE2 ?_)
  refine (Qt2.out _ T1.out.hv.e2).mono ?_
  rintro e w2 ⟨rfl, hb2⟩
  have T2 := Lib.hid (T1.out.later hb2)
  clear hb2 T1 k0 k1
  have k0 := rng0 T2.out.rg
  have k1 := rng1 T2.out.rg
  go_wp2_with (refine wpList_load_mid rfl 43 _ rfl w.heap.size 10 rfl _ _ (part3 T2.out.rg) Tryz.underlying43 rfl sizeIE2 ?_)
  refine (Qt3.out _ T2.out.hv.e3).mono ?_
  rintro e w3 ⟨rfl, hb3⟩
  have T3 := Lib.hid (T2.out.later hb3)
  clear hb3 T2 k0 k1
  have k0 := rng0 T3.out.rg
  have k1 := rng1 T3.out.rg
  go_wp2_with (refine wpList_load_mid rfl 43 _ rfl w.heap.size 14 rfl _ _ (part4 T3.out.rg) Tryz.underlying43 rfl sizeIE2 ?_)
  refine (Qt4.out _ T3.out.hv.e4).mono ?_
  rintro e w4 ⟨rfl, hb4⟩
  have T4 := Lib.hid (T3.out.later hb4)
  clear hb4 T3 k0 k1
  have k0 := rng0 T4.out.rg
  have k1 := rng1 T4.out.rg
  go_wp2_with fail
  refine (spec_NameOk h.s t5 H5.out (by have := HX.out; omega) _).mono ?_
  rintro e w5 ⟨rfl, hb5⟩
  have T5 := Lib.hid (T4.out.later hb5)
  clear hb5 T4 k0 k1
  have k0 := rng0 T5.out.rg
  have k1 := rng1 T5.out.rg
  go_wp2_with (refine wpList_load_mid rfl 43 _ rfl w.heap.size 2 rfl _ _ (part1 T5.out.rg) Tryz.underlying43 rfl sizeIE2 ?_)
  refine (Qb1.out _ T5.out.hv.e1).mono ?_
  rintro e w6 ⟨rfl, hb6⟩
  have T6 := Lib.hid (T5.out.later hb6)
  clear hb6 T5 k0 k1
  have k0 := rng0 T6.out.rg
  have k1 := rng1 T6.out.rg
  have c18 := part5 T6.out.rg
  cases b1 with
  | false =>
    go_wp2
    go_ret
    exact ⟨100, rfl, CnS.bad (by simp [HT.out]), T6.out.low⟩
  | true =>
  cases t2 with
  | false =>
    go_wp2
    go_ret
    exact ⟨100, rfl, CnS.bad (by simp [HT.out]), T6.out.low⟩
  | true =>
  cases t3 with
  | false =>
    go_wp2
    go_ret
    exact ⟨100, rfl, CnS.bad (by simp [HT.out]), T6.out.low⟩
  | true =>
  cases t4 with
  | false =>
    go_wp2
    go_ret
    exact ⟨100, rfl, CnS.bad (by simp [HT.out]), T6.out.low⟩
  | true =>
  cases t5 with
  | false =>
    go_wp2
    go_ret
    exact ⟨100, rfl, CnS.bad (by simp [HT.out]), T6.out.low⟩
  | true =>
  go_wp2_with fail
  refine (l1In_is h.k 1 4 _).mono ?_
  rintro e wz ⟨rfl, hbz⟩
  subst hbz
  rw [Hin.out]
  by_cases hz : slen l = 0
  · have h1 : ¬ (0 : Int) < (slen l : Int) := by omega
    have Hz := Lib.hid hz
    clear hz
    go_wp2
    go_ret
    exact ⟨1, rfl, CnS.one (by rw [HT.out, Hz.out]; rfl) Hz.out, T6.out.low⟩
  · have h1 : (0 : Int) < (slen l : Int) := by omega
    have Hz := Lib.hid hz
    clear hz
    go_wp2
    go_ret
    exact ⟨100, rfl, CnS.bad (by rw [HT.out, decide_eq_false Hz.out]; rfl), T6.out.low⟩
set_option maxHeartbeats 4000000 in
set_option maxRecDepth 100000 in
theorem l3S_4 (D : Nat) (hD : D ≤ 3) (h : SH) (l : SF) (hk : h.k = 4) (hsz : hsize h + ssize l ≤ 1048576)
    (w : World) (v1 v2 v3 v4 v : Value) (hv : HV w 0 h v1 v2 v3 v4) (hl : SV w 0 l v) :
    Calls Tryz.prog 150 #[sagg h v1 v2 v3 v4 v, .int .i64 (3 - (D : Int))] w fun e w' => ∃ r : Nat, e = .returned (.int .i64 (r : Int)) ∧ CnS D h l r ∧ Below w.heap.size w w' := by
  have T0 := Lib.hid (Bxs.start 98 hv hl)
  have hsx : xsize h.x1 ≤ 1048576 ∧ xsize h.x2 ≤ 1048576 ∧ xsize h.x3 ≤ 1048576 ∧ xsize h.x4 ≤ 1048576 ∧ h.s.size ≤ 1048576 ∧ ssize l ≤ 1048576 := by unfold hsize at hsz; omega
  have HX := Lib.hid hsx
  obtain ⟨a1, ha1⟩ : ∃ t, noX h.x1 = t := ⟨_, rfl⟩
  have Qa1 : Hid (∀ w, EV w 0 h.x1.l v1 → Calls Tryz.prog 167 #[.agg (xcells h.x1 v1).toArray] w fun e w' => e = .returned (.bool a1) ∧ Below w.heap.size w w') := fun w p => by rw [← ha1]; exact l3No_is h.x1 w v1 p
  obtain ⟨t2, ht2⟩ : ∃ t, expOk h.x2 = t := ⟨_, rfl⟩
  have Qt2 : Hid (∀ w, EV w 0 h.x2.l v2 → Calls Tryz.prog 44 #[.agg (xcells h.x2 v2).toArray] w fun e w' => e = .returned (.bool t2) ∧ Below w.heap.size w w') := fun w p => by rw [← ht2]; exact spec_ExpOk h.x2 HX.out.2.1 w v2 p
  obtain ⟨t3, ht3⟩ : ∃ t, noX h.x3 = t := ⟨_, rfl⟩
  have Qt3 : Hid (∀ w, EV w 0 h.x3.l v3 → Calls Tryz.prog 167 #[.agg (xcells h.x3 v3).toArray] w fun e w' => e = .returned (.bool t3) ∧ Below w.heap.size w w') := fun w p => by rw [← ht3]; exact l3No_is h.x3 w v3 p
  obtain ⟨t4, ht4⟩ : ∃ t, noX h.x4 = t := ⟨_, rfl⟩
  have Qt4 : Hid (∀ w, EV w 0 h.x4.l v4 → Calls Tryz.prog 167 #[.agg (xcells h.x4 v4).toArray] w fun e w' => e = .returned (.bool t4) ∧ Below w.heap.size w w') := fun w p => by rw [← ht4]; exact l3No_is h.x4 w v4 p
  obtain ⟨t5, ht5⟩ : ∃ t, nameOk h.s.data.toList = t := ⟨_, rfl⟩
  have H5 := Lib.hid ht5
  obtain ⟨ts, hts⟩ : ∃ t, decide (h.s.size = 0) = t := ⟨_, rfl⟩
  have Hs := Lib.hid hts
  have HT : Hid (toldSt D h l = ((ts && (t2 && (a1 && (t3 && t4)))) && (decide (slen l = 0)))) := show toldSt D h l = _ by
    have e1 : headOk h = (ts && (t2 && (a1 && (t3 && t4)))) := by rw [← ha1, ← ht2, ← ht3, ← ht4, ← hts]; simp [headOk, hk]
    unfold toldSt; rw [e1]; simp [hk]
  have e1 : (h.k == 1) = false := by rw [hk]; rfl
  have e2 : (h.k == 2) = false := by rw [hk]; rfl
  have e3 : (h.k == 3) = false := by rw [hk]; rfl
  have e4 : (h.k == 4) = true := by rw [hk]; rfl
  have e3n : (h.k != 3) = true := by rw [bne, e3]; rfl
  have hin1 : (decide ((1 : Int) ≤ h.k) && decide (h.k ≤ 4)) = true := by rw [hk]; rfl
  have Hin := Lib.hid hin1
  obtain ⟨va, vc, rfl⟩ := hl.shape
  have hDI : (D : Int) ≤ 3 := by omega
  clear hv hl hsz hsx hk hin1 ha1 ht2 ht3 ht4 ht5 hts
  go_enter Tryz.func150, Tryz.ntmps150
  go_wp2_with (refine wpList_load_mid rfl 43 _ rfl w.heap.size 2 rfl _ _ (part1 T0.out.rg) Tryz.underlying43 rfl sizeIE2 ?_)
  refine (Qa1.out _ T0.out.hv.e1).mono ?_
  rintro e w1 ⟨rfl, hb1⟩
  have T1 := Lib.hid (T0.out.later hb1)
  clear hb1 T0
  have k0 := rng0 T1.out.rg
  have k1 := rng1 T1.out.rg
  go_wp2_with (refine wpList_load_mid rfl 43 _ rfl w.heap.size 6 rfl _ _ (part2 T1.out.rg) Tryz.underlying43 rfl sizeIE2 ?_)
  refine (Qt2.out _ T1.out.hv.e2).mono ?_
  rintro e w2 ⟨rfl, hb2⟩
  have T2 := Lib.hid (T1.out.later hb2)
  clear hb2 T1 k0 k1
  have k0 := rng0 T2.out.rg
  have k1 := rng1 T2.out.rg
  go_wp2_with (refine wpList_load_mid rfl 43 _ rfl w.heap.size 10 rfl _ _ (part3 T2.out.rg) Tryz.underlying43 rfl sizeIE2 ?_)
  refine (Qt3.out _ T2.out.hv.e3).mono ?_
  rintro e w3 ⟨rfl, hb3⟩
  have T3 := Lib.hid (T2.out.later hb3)
  clear hb3 T2 k0 k1
  have k0 := rng0 T3.out.rg
  have k1 := rng1 T3.out.rg
  go_wp2_with (refine wpList_load_mid rfl 43 _ rfl w.heap.size 14 rfl _ _ (part4 T3.out.rg) Tryz.underlying43 rfl sizeIE2 ?_)
  refine (Qt4.out _ T3.out.hv.e4).mono ?_
  rintro e w4 ⟨rfl, hb4⟩
  have T4 := Lib.hid (T3.out.later hb4)
  clear hb4 T3 k0 k1
  have k0 := rng0 T4.out.rg
  have k1 := rng1 T4.out.rg
  go_wp2_with fail
  refine (spec_NameOk h.s t5 H5.out (by have := HX.out; omega) _).mono ?_
  rintro e w5 ⟨rfl, hb5⟩
  have T5 := Lib.hid (T4.out.later hb5)
  clear hb5 T4 k0 k1
  have k0 := rng0 T5.out.rg
  have k1 := rng1 T5.out.rg
  have c18 := part5 T5.out.rg
  have hse : (h.s.toList == []) = ts := by
    cases ts with
    | true => exact str_empty (by simpa using Hs.out)
    | false => exact str_full (by simpa using Hs.out)
  cases a1 with
  | false =>
    go_wp2
    go_ret
    exact ⟨100, rfl, CnS.bad (by simp [HT.out]), T5.out.low⟩
  | true =>
  cases t2 with
  | false =>
    go_wp2
    go_ret
    exact ⟨100, rfl, CnS.bad (by simp [HT.out]), T5.out.low⟩
  | true =>
  cases t3 with
  | false =>
    go_wp2
    go_ret
    exact ⟨100, rfl, CnS.bad (by simp [HT.out]), T5.out.low⟩
  | true =>
  cases t4 with
  | false =>
    go_wp2
    go_ret
    exact ⟨100, rfl, CnS.bad (by simp [HT.out]), T5.out.low⟩
  | true =>
  cases ts with
  | false =>
    go_wp2
    go_ret
    exact ⟨100, rfl, CnS.bad (by simp [HT.out]), T5.out.low⟩
  | true =>
  go_wp2_with fail
  refine (l1In_is h.k 1 4 _).mono ?_
  rintro e wz ⟨rfl, hbz⟩
  subst hbz
  rw [Hin.out]
  by_cases hz : slen l = 0
  · have h1 : ¬ (0 : Int) < (slen l : Int) := by omega
    have Hz := Lib.hid hz
    clear hz
    go_wp2
    go_ret
    exact ⟨1, rfl, CnS.one (by rw [HT.out, Hz.out]; rfl) Hz.out, T5.out.low⟩
  · have h1 : (0 : Int) < (slen l : Int) := by omega
    have Hz := Lib.hid hz
    clear hz
    go_wp2
    go_ret
    exact ⟨100, rfl, CnS.bad (by rw [HT.out, decide_eq_false Hz.out]; rfl), T5.out.low⟩
set_option maxHeartbeats 4000000 in
set_option maxRecDepth 100000 in
theorem l3S_0 (D : Nat) (hD : D ≤ 3) (h : SH) (l : SF) (hk : ¬ (1 ≤ h.k ∧ h.k ≤ 4)) (hsz : hsize h + ssize l ≤ 1048576)
    (w : World) (v1 v2 v3 v4 v : Value) (hv : HV w 0 h v1 v2 v3 v4) (hl : SV w 0 l v) :
    Calls Tryz.prog 150 #[sagg h v1 v2 v3 v4 v, .int .i64 (3 - (D : Int))] w fun e w' => ∃ r : Nat, e = .returned (.int .i64 (r : Int)) ∧ CnS D h l r ∧ Below w.heap.size w w' := by
  have T0 := Lib.hid (Bxs.start 98 hv hl)
  have hsx : xsize h.x1 ≤ 1048576 ∧ xsize h.x2 ≤ 1048576 ∧ xsize h.x3 ≤ 1048576 ∧ xsize h.x4 ≤ 1048576 ∧ h.s.size ≤ 1048576 ∧ ssize l ≤ 1048576 := by unfold hsize at hsz; omega
  have HX := Lib.hid hsx
  obtain ⟨a1, ha1⟩ : ∃ t, noX h.x1 = t := ⟨_, rfl⟩
  have Qa1 : Hid (∀ w, EV w 0 h.x1.l v1 → Calls Tryz.prog 167 #[.agg (xcells h.x1 v1).toArray] w fun e w' => e = .returned (.bool a1) ∧ Below w.heap.size w w') := fun w p => by rw [← ha1]; exact l3No_is h.x1 w v1 p
  obtain ⟨t2, ht2⟩ : ∃ t, expOk h.x2 = t := ⟨_, rfl⟩
  have Qt2 : Hid (∀ w, EV w 0 h.x2.l v2 → Calls Tryz.prog 44 #[.agg (xcells h.x2 v2).toArray] w fun e w' => e = .returned (.bool t2) ∧ Below w.heap.size w w') := fun w p => by rw [← ht2]; exact spec_ExpOk h.x2 HX.out.2.1 w v2 p
  obtain ⟨t3, ht3⟩ : ∃ t, noX h.x3 = t := ⟨_, rfl⟩
  have Qt3 : Hid (∀ w, EV w 0 h.x3.l v3 → Calls Tryz.prog 167 #[.agg (xcells h.x3 v3).toArray] w fun e w' => e = .returned (.bool t3) ∧ Below w.heap.size w w') := fun w p => by rw [← ht3]; exact l3No_is h.x3 w v3 p
  obtain ⟨t4, ht4⟩ : ∃ t, noX h.x4 = t := ⟨_, rfl⟩
  have Qt4 : Hid (∀ w, EV w 0 h.x4.l v4 → Calls Tryz.prog 167 #[.agg (xcells h.x4 v4).toArray] w fun e w' => e = .returned (.bool t4) ∧ Below w.heap.size w w') := fun w p => by rw [← ht4]; exact l3No_is h.x4 w v4 p
  obtain ⟨t5, ht5⟩ : ∃ t, nameOk h.s.data.toList = t := ⟨_, rfl⟩
  have H5 := Lib.hid ht5
  have HT : Hid (toldSt D h l = false) := show toldSt D h l = false by
    have : headOk h = false := by
      unfold headOk
      rw [if_neg (by omega), if_neg (by omega), if_neg (by omega), if_neg (by omega)]
    simp [toldSt, this]
  have e1 : (h.k == 1) = false := int_ne (by omega)
  have e2 : (h.k == 2) = false := int_ne (by omega)
  have e3 : (h.k == 3) = false := int_ne (by omega)
  have e4 : (h.k == 4) = false := int_ne (by omega)
  have e3n : (h.k != 3) = true := by rw [bne, e3]; rfl
  have hin1 : (decide ((1 : Int) ≤ h.k) && decide (h.k ≤ 4)) = false := by
    cases e : (decide ((1 : Int) ≤ h.k) && decide (h.k ≤ 4)) with
    | false => rfl
    | true => rw [Bool.and_eq_true, decide_eq_true_eq, decide_eq_true_eq] at e; exact absurd e hk
  have Hin := Lib.hid hin1
  obtain ⟨va, vc, rfl⟩ := hl.shape
  have hDI : (D : Int) ≤ 3 := by omega
  clear hv hl hsz hsx hk hin1 ha1 ht2 ht3 ht4 ht5
  go_enter Tryz.func150, Tryz.ntmps150
  go_wp2_with (refine wpList_load_mid rfl 43 _ rfl w.heap.size 2 rfl _ _ (part1 T0.out.rg) Tryz.underlying43 rfl sizeIE2 ?_)
  refine (Qa1.out _ T0.out.hv.e1).mono ?_
  rintro e w1 ⟨rfl, hb1⟩
  have T1 := Lib.hid (T0.out.later hb1)
  clear hb1 T0
  have k0 := rng0 T1.out.rg
  have k1 := rng1 T1.out.rg
  go_wp2_with (refine wpList_load_mid rfl 43 _ rfl w.heap.size 6 rfl _ _ (part2 T1.out.rg) Tryz.underlying43 rfl sizeIE2 ?_)
  refine (Qt2.out _ T1.out.hv.e2).mono ?_
  rintro e w2 ⟨rfl, hb2⟩
  have T2 := Lib.hid (T1.out.later hb2)
  clear hb2 T1 k0 k1
  have k0 := rng0 T2.out.rg
  have k1 := rng1 T2.out.rg
  go_wp2_with (refine wpList_load_mid rfl 43 _ rfl w.heap.size 10 rfl _ _ (part3 T2.out.rg) Tryz.underlying43 rfl sizeIE2 ?_)
  refine (Qt3.out _ T2.out.hv.e3).mono ?_
  rintro e w3 ⟨rfl, hb3⟩
  have T3 := Lib.hid (T2.out.later hb3)
  clear hb3 T2 k0 k1
  have k0 := rng0 T3.out.rg
  have k1 := rng1 T3.out.rg
  go_wp2_with (refine wpList_load_mid rfl 43 _ rfl w.heap.size 14 rfl _ _ (part4 T3.out.rg) Tryz.underlying43 rfl sizeIE2 ?_)
  refine (Qt4.out _ T3.out.hv.e4).mono ?_
  rintro e w4 ⟨rfl, hb4⟩
  have T4 := Lib.hid (T3.out.later hb4)
  clear hb4 T3 k0 k1
  have k0 := rng0 T4.out.rg
  have k1 := rng1 T4.out.rg
  go_wp2_with fail
  refine (spec_NameOk h.s t5 H5.out (by have := HX.out; omega) _).mono ?_
  rintro e w5 ⟨rfl, hb5⟩
  have T5 := Lib.hid (T4.out.later hb5)
  clear hb5 T4 k0 k1
  have k0 := rng0 T5.out.rg
  have k1 := rng1 T5.out.rg
  have c18 := part5 T5.out.rg
  cases a1 with
  | false =>
    go_wp2
    go_ret
    exact ⟨100, rfl, CnS.bad (by simp [HT.out]), T5.out.low⟩
  | true =>
  cases t2 with
  | false =>
    go_wp2
    go_ret
    exact ⟨100, rfl, CnS.bad (by simp [HT.out]), T5.out.low⟩
  | true =>
  cases t3 with
  | false =>
    go_wp2
    go_ret
    exact ⟨100, rfl, CnS.bad (by simp [HT.out]), T5.out.low⟩
  | true =>
  cases t4 with
  | false =>
    go_wp2
    go_ret
    exact ⟨100, rfl, CnS.bad (by simp [HT.out]), T5.out.low⟩
  | true =>
  cases t5 with
  | false =>
    go_wp2
    go_ret
    exact ⟨100, rfl, CnS.bad (by simp [HT.out]), T5.out.low⟩
  | true =>
  go_wp2_with fail
  refine (l1In_is h.k 1 4 _).mono ?_
  rintro e wz ⟨rfl, hbz⟩
  subst hbz
  rw [Hin.out]
  go_wp2
  go_ret
  exact ⟨100, rfl, CnS.bad HT.out, T5.out.low⟩
set_option maxHeartbeats 4000000 in
set_option maxRecDepth 100000 in
theorem l3S_3 (D : Nat) (hD : D ≤ 3) (h : SH) (l : SF) (hk : h.k = 3) (hsz : hsize h + ssize l ≤ 1048576)
    (ih : ∀ (g : SH) (m : SF), hsize g + ssize m ≤ 1048576 → ∀ (w : World) (v1 v2 v3 v4 v : Value), HV w 0 g v1 v2 v3 v4 → SV w 0 m v → 1 ≤ D → Calls Tryz.prog 150 #[.agg (scells g v1 v2 v3 v4 v).toArray, .int .i64 (4 - (D : Int))] w fun e w' => ∃ r : Nat, e = .returned (.int .i64 (r : Int)) ∧ CnS (D - 1) g m r ∧ Below w.heap.size w w')
    (w : World) (v1 v2 v3 v4 v : Value) (hv : HV w 0 h v1 v2 v3 v4) (hl : SV w 0 l v) :
    Calls Tryz.prog 150 #[sagg h v1 v2 v3 v4 v, .int .i64 (3 - (D : Int))] w fun e w' => ∃ r : Nat, e = .returned (.int .i64 (r : Int)) ∧ CnS D h l r ∧ Below w.heap.size w w' := by
  have T0 := Lib.hid (Bxs.start 98 hv hl)
  have hsx : xsize h.x1 ≤ 1048576 ∧ xsize h.x2 ≤ 1048576 ∧ xsize h.x3 ≤ 1048576 ∧ xsize h.x4 ≤ 1048576 ∧ h.s.size ≤ 1048576 ∧ ssize l ≤ 1048576 := by unfold hsize at hsz; omega
  have HX := Lib.hid hsx
  obtain ⟨a1, ha1⟩ : ∃ t, noX h.x1 = t := ⟨_, rfl⟩
  have Qa1 : Hid (∀ w, EV w 0 h.x1.l v1 → Calls Tryz.prog 167 #[.agg (xcells h.x1 v1).toArray] w fun e w' => e = .returned (.bool a1) ∧ Below w.heap.size w w') := fun w p => by rw [← ha1]; exact l3No_is h.x1 w v1 p
  obtain ⟨t2, ht2⟩ : ∃ t, expOk h.x2 = t := ⟨_, rfl⟩
  have Qt2 : Hid (∀ w, EV w 0 h.x2.l v2 → Calls Tryz.prog 44 #[.agg (xcells h.x2 v2).toArray] w fun e w' => e = .returned (.bool t2) ∧ Below w.heap.size w w') := fun w p => by rw [← ht2]; exact spec_ExpOk h.x2 HX.out.2.1 w v2 p
  obtain ⟨t3, ht3⟩ : ∃ t, noX h.x3 = t := ⟨_, rfl⟩
  have Qt3 : Hid (∀ w, EV w 0 h.x3.l v3 → Calls Tryz.prog 167 #[.agg (xcells h.x3 v3).toArray] w fun e w' => e = .returned (.bool t3) ∧ Below w.heap.size w w') := fun w p => by rw [← ht3]; exact l3No_is h.x3 w v3 p
  obtain ⟨t4, ht4⟩ : ∃ t, noX h.x4 = t := ⟨_, rfl⟩
  have Qt4 : Hid (∀ w, EV w 0 h.x4.l v4 → Calls Tryz.prog 167 #[.agg (xcells h.x4 v4).toArray] w fun e w' => e = .returned (.bool t4) ∧ Below w.heap.size w w') := fun w p => by rw [← ht4]; exact l3No_is h.x4 w v4 p
  obtain ⟨b2, hb2⟩ : ∃ t, noX h.x2 = t := ⟨_, rfl⟩
  have Qb2 : Hid (∀ w, EV w 0 h.x2.l v2 → Calls Tryz.prog 167 #[.agg (xcells h.x2 v2).toArray] w fun e w' => e = .returned (.bool b2) ∧ Below w.heap.size w w') := fun w p => by rw [← hb2]; exact l3No_is h.x2 w v2 p
  obtain ⟨b3, hb3⟩ : ∃ t, expOk h.x3 = t := ⟨_, rfl⟩
  have Qb3 : Hid (∀ w, EV w 0 h.x3.l v3 → Calls Tryz.prog 44 #[.agg (xcells h.x3 v3).toArray] w fun e w' => e = .returned (.bool b3) ∧ Below w.heap.size w w') := fun w p => by rw [← hb3]; exact spec_ExpOk h.x3 HX.out.2.2.1 w v3 p
  obtain ⟨b4, hb4⟩ : ∃ t, expOk h.x4 = t := ⟨_, rfl⟩
  have Qb4 : Hid (∀ w, EV w 0 h.x4.l v4 → Calls Tryz.prog 44 #[.agg (xcells h.x4 v4).toArray] w fun e w' => e = .returned (.bool b4) ∧ Below w.heap.size w w') := fun w p => by rw [← hb4]; exact spec_ExpOk h.x4 HX.out.2.2.2.1 w v4 p
  obtain ⟨t5, ht5⟩ : ∃ t, nameOk h.s.data.toList = t := ⟨_, rfl⟩
  have H5 := Lib.hid ht5
  have HT : Hid (toldSt D h l = ((t5 && ((b3 && b4) && (a1 && b2))) && (decide (1 ≤ D) && bodyTold (D - 1) l))) := show toldSt D h l = _ by
    have e1 : headOk h = (t5 && ((b3 && b4) && (a1 && b2))) := by rw [← ha1, ← hb2, ← hb3, ← hb4, ← ht5]; simp [headOk, hk]
    unfold toldSt; rw [e1]; simp [hk]
  have e1 : (h.k == 1) = false := by rw [hk]; rfl
  have e2 : (h.k == 2) = false := by rw [hk]; rfl
  have e3 : (h.k == 3) = true := by rw [hk]; rfl
  have e4 : (h.k == 4) = false := by rw [hk]; rfl
  have e3n : (h.k != 3) = false := by rw [bne, e3]; rfl
  have hin1 : (decide ((1 : Int) ≤ h.k) && decide (h.k ≤ 4)) = true := by rw [hk]; rfl
  have Hin := Lib.hid hin1
  obtain ⟨va, vc, rfl⟩ := hl.shape
  have Hih := Lib.hid ih
  clear ih
  have hDI : (D : Int) ≤ 3 := by omega
  clear hv hl hsz hsx hk hin1 ha1 ht2 ht3 ht4 hb2 hb3 hb4 ht5
  go_enter Tryz.func150, Tryz.ntmps150
  go_wp2_with (refine wpList_load_mid rfl 43 _ rfl w.heap.size 2 rfl _ _ (part1 T0.out.rg) Tryz.underlying43 rfl sizeIE2 ?_)
  refine (Qa1.out _ T0.out.hv.e1).mono ?_
  rintro e w1 ⟨rfl, hb1⟩
  have T1 := Lib.hid (T0.out.later hb1)
  clear hb1 T0
  have k0 := rng0 T1.out.rg
  have k1 := rng1 T1.out.rg
  go_wp2_with (refine wpList_load_mid rfl 43 _ rfl w.heap.size 6 rfl _ _ (part2 T1.out.rg) Tryz.underlying43 rfl sizeIE2 ?_)
  refine (Qt2.out _ T1.out.hv.e2).mono ?_
  rintro e w2 ⟨rfl, hb2⟩
  have T2 := Lib.hid (T1.out.later hb2)
  clear hb2 T1 k0 k1
  have k0 := rng0 T2.out.rg
  have k1 := rng1 T2.out.rg
  go_wp2_with (refine wpList_load_mid rfl 43 _ rfl w.heap.size 10 rfl _ _ (part3 T2.out.rg) Tryz.underlying43 rfl sizeIE2 ?_)
  refine (Qt3.out _ T2.out.hv.e3).mono ?_
  rintro e w3 ⟨rfl, hb3⟩
  have T3 := Lib.hid (T2.out.later hb3)
  clear hb3 T2 k0 k1
  have k0 := rng0 T3.out.rg
  have k1 := rng1 T3.out.rg
  go_wp2_with (refine wpList_load_mid rfl 43 _ rfl w.heap.size 14 rfl _ _ (part4 T3.out.rg) Tryz.underlying43 rfl sizeIE2 ?_)
  refine (Qt4.out _ T3.out.hv.e4).mono ?_
  rintro e w4 ⟨rfl, hb4⟩
  have T4 := Lib.hid (T3.out.later hb4)
  clear hb4 T3 k0 k1
  have k0 := rng0 T4.out.rg
  have k1 := rng1 T4.out.rg
  go_wp2_with fail
  refine (spec_NameOk h.s t5 H5.out (by have := HX.out; omega) _).mono ?_
  rintro e w5 ⟨rfl, hb5⟩
  have T5 := Lib.hid (T4.out.later hb5)
  clear hb5 T4 k0 k1
  have k0 := rng0 T5.out.rg
  have k1 := rng1 T5.out.rg
  go_wp2_with (refine wpList_load_mid rfl 43 _ rfl w.heap.size 6 rfl _ _ (part2 T5.out.rg) Tryz.underlying43 rfl sizeIE2 ?_)
  refine (Qb2.out _ T5.out.hv.e2).mono ?_
  rintro e w6 ⟨rfl, hb6⟩
  have T6 := Lib.hid (T5.out.later hb6)
  clear hb6 T5 k0 k1
  have k0 := rng0 T6.out.rg
  have k1 := rng1 T6.out.rg
  go_wp2_with (refine wpList_load_mid rfl 43 _ rfl w.heap.size 10 rfl _ _ (part3 T6.out.rg) Tryz.underlying43 rfl sizeIE2 ?_)
  refine (Qb3.out _ T6.out.hv.e3).mono ?_
  rintro e w7 ⟨rfl, hb7⟩
  have T7 := Lib.hid (T6.out.later hb7)
  clear hb7 T6 k0 k1
  have k0 := rng0 T7.out.rg
  have k1 := rng1 T7.out.rg
  go_wp2_with (refine wpList_load_mid rfl 43 _ rfl w.heap.size 14 rfl _ _ (part4 T7.out.rg) Tryz.underlying43 rfl sizeIE2 ?_)
  refine (Qb4.out _ T7.out.hv.e4).mono ?_
  rintro e w8 ⟨rfl, hb8⟩
  have T8 := Lib.hid (T7.out.later hb8)
  clear hb8 T7 k0 k1
  have k0 := rng0 T8.out.rg
  have k1 := rng1 T8.out.rg
  have c18 := part5 T8.out.rg
  cases a1 with
  | false =>
    go_wp2
    go_ret
    exact ⟨100, rfl, CnS.bad (by simp [HT.out]), T8.out.low⟩
  | true =>
  cases b2 with
  | false =>
    go_wp2
    go_ret
    exact ⟨100, rfl, CnS.bad (by simp [HT.out]), T8.out.low⟩
  | true =>
  cases b3 with
  | false =>
    go_wp2
    go_ret
    exact ⟨100, rfl, CnS.bad (by simp [HT.out]), T8.out.low⟩
  | true =>
  cases b4 with
  | false =>
    go_wp2
    go_ret
    exact ⟨100, rfl, CnS.bad (by simp [HT.out]), T8.out.low⟩
  | true =>
  cases t5 with
  | false =>
    go_wp2
    go_ret
    exact ⟨100, rfl, CnS.bad (by simp [HT.out]), T8.out.low⟩
  | true =>
  go_wp2_with fail
  refine (l1In_is h.k 1 4 _).mono ?_
  rintro e wz ⟨rfl, hbz⟩
  subst hbz
  rw [Hin.out]
  by_cases hD0 : D = 0
  · have h1 : (3 : Int) ≤ 3 - (D : Int) := by omega
    have HD0 := Lib.hid hD0
    clear hD0
    go_wp2
    go_ret
    exact ⟨100, rfl, CnS.bad (by rw [HT.out, HD0.out]; rfl), T8.out.low⟩
  have h1 : ¬ (3 : Int) ≤ 3 - (D : Int) := by omega
  have HD0 := Lib.hid hD0
  clear hD0
  go_wp2_with fail
  refine (l1In_is (slen l : Int) 1 6 _).mono ?_
  rintro e wy ⟨rfl, hby⟩
  subst hby
  by_cases hb6 : 1 ≤ slen l ∧ slen l ≤ 6
  case neg =>
    rw [show (decide ((1 : Int) ≤ (slen l : Int)) && decide ((slen l : Int) ≤ 6)) = false by
      cases e : (decide ((1 : Int) ≤ (slen l : Int)) && decide ((slen l : Int) ≤ 6)) with
      | false => rfl
      | true => rw [Bool.and_eq_true, decide_eq_true_eq, decide_eq_true_eq] at e; exact absurd ⟨by omega, by omega⟩ hb6]
    have hbf : Hid (bodyTold (D - 1) l = false) := show bodyTold (D - 1) l = false by
      cases e : bodyTold (D - 1) l with
      | false => rfl
      | true =>
        unfold bodyTold at e
        rw [Bool.and_eq_true, Bool.and_eq_true, decide_eq_true_eq, decide_eq_true_eq] at e
        exact absurd ⟨e.1, e.2.1⟩ hb6
    clear hb6
    go_wp2
    go_ret
    exact ⟨100, rfl, CnS.bad (by rw [HT.out, hbf.out]; simp), T8.out.low⟩
  rw [show (decide ((1 : Int) ≤ (slen l : Int)) && decide ((slen l : Int) ≤ 6)) = true by rw [decide_eq_true (by omega), decide_eq_true (by omega)]; rfl]
  have HT2 : Hid (toldSt D h l = toldS (D - 1) l) := show toldSt D h l = toldS (D - 1) l by
    rw [HT.out]; unfold bodyTold
    rw [decide_eq_true (show 1 ≤ D by have := HD0.out; omega), decide_eq_true hb6.1, decide_eq_true hb6.2]; rfl
  have hl6 : (slen l : Int) ≤ 6 := by omega
  obtain ⟨bb, oo, ao, cap, hval, hao, _, hin⟩ := T8.out.sv
  injection hval with hva1 hva2 hva3
  subst hva1
  have HI := Lib.hid (And.intro hao hin)
  have H0 := T8
  clear hb6 hva2 hva3 hao hin
  go_wp2
  clear k0 k1 c18
  go_loopw [10, 11] (fun y i wr => ∃ (R : SF) (k c : Nat), i = .int .i64 (k : Int) ∧ y = .int .i64 (c : Int) ∧ Hid (CsM w8 (D - 1) l R k c bb oo) ∧ Hid (Below w8.heap.size w8 wr ∧ Bxs w wr w.heap.size h l v1 v2 v3 v4 (.slice va (slen l) vc))) (fun _ i _ => slen l - (RowKit.intOf i).toNat)
  case atStart => exact ⟨l, 0, 1, rfl, rfl, ⟨by simpa using HI.out.2, by omega, HX.out.2.2.2.2.2, fun _ => ⟨rfl, by omega⟩, fun h => by omega, by omega⟩, ⟨Below.refl _ _, H0.out⟩⟩
  case round =>
    obtain ⟨R, k, c, rfl, rfl, hm, hT⟩ := hrel
    have c18 := part5 hT.out.2.rg
    have hcb := hm.out.big
    have hcI : (c : Int) ≤ 640 := by omega
    cases R with
    | nil =>
      have hk : ¬ (k : Int) < (slen l : Int) := by have := hm.out.num; simp only [slen] at this; omega
      go_wp2
      go_ret
      refine ⟨c, rfl, ⟨fun hok => ?_, fun hok => ?_, by have := HD0.out; omega⟩, hT.out.2.low⟩
      · rcases Nat.lt_or_ge 40 c with h6 | h6
        · exact absurd ⟨by have := hok.1; rw [HT2.out] at this; exact this, hok.2⟩ (hm.out.high h6)
        · have := (hm.out.low h6).2; simp only [snodes] at this; omega
      · rcases Nat.lt_or_ge 40 c with h6 | h6
        · exact h6
        · obtain ⟨g1, g2⟩ := hm.out.low h6
          exact absurd ⟨by rw [HT2.out, g1]; rfl, by simp only [snodes] at g2; omega⟩ hok
    | node p q g m r =>
      have hlt : (k : Int) < (slen l : Int) := by have := hm.out.num; simp only [slen] at this; omega
      by_cases h6 : (c : Int) ≤ 40
      · have hne : ¬ l = .nil := by intro e; have := hm.out.num; rw [e] at this; simp only [slen] at this; omega
        obtain rfl : va = some ⟨bb, oo, Option.none⟩ := HI.out.1.resolve_right hne
        obtain ⟨y1, y2, y3, y4, u, hu, hul, hrg⟩ := (SIn_node.1 (SIn_later hT.out.1 _ _ _ hm.out.at_)).1.range
        have Hrg := Lib.hid hrg
        have hsz : hsize g + ssize m ≤ 1048576 := by have := hm.out.siz; simp only [ssize] at this; omega
        have Hl := Lib.hid (Hih.out g m hsz)
        have HU := Lib.hid (And.intro hu hul)
        have h9 : (3 : Int) - (D : Int) + 1 = 4 - (D : Int) := by omega
        clear hne hsz hu hul hcb hrg
        go_wp2_with (refine wpList_load_mid rfl 98 _ rfl bb (oo + k * 19) rfl _ _ Hrg.out Tryz.underlying98 rfl sizeIS ?_)
        refine (Hl.out _ y1 y2 y3 y4 u HU.out.1 HU.out.2 (by have := HD0.out; omega)).mono ?_
        rintro e w2x ⟨rr, rfl, hrr, hb2⟩
        have hm2 := Lib.hid (hm.out.next (by omega) hrr)
        have hrb : (rr : Int) ≤ 640 := by have := hrr.big; omega
        have hT2 : Hid (Below w8.heap.size w8 w2x ∧ Bxs w w2x w.heap.size h l v1 v2 v3 v4 (.slice (some ⟨bb, oo, Option.none⟩) (slen l) vc)) := ⟨hT.out.1.trans (hb2.mono hT.out.1.size), hT.out.2.later hb2⟩
        clear hb2 hrr c18 h9 Hrg hT
        go_wp2
        go_roundw
        case rel => exact ⟨r, k + 1, c + rr, by go_num, by go_num, hm2, hT2⟩
        case measure => simp [RowKit.intOf]; omega
      · go_wp2
        go_ret
        have h6' : 40 < c := by omega
        refine ⟨c, rfl, ⟨fun hok => ?_, fun _ => h6', by have := HD0.out; omega⟩, hT.out.2.low⟩
        exact absurd ⟨by have := hok.1; rw [HT2.out] at this; exact this, hok.2⟩ (hm.out.high h6')
theorem l3Stmt_all : ∀ (D : Nat), D ≤ 3 → ∀ (h : SH) (l : SF), hsize h + ssize l ≤ 1048576 → ∀ (w : World) (v1 v2 v3 v4 v : Value), HV w 0 h v1 v2 v3 v4 → SV w 0 l v → Calls Tryz.prog 150 #[.agg (scells h v1 v2 v3 v4 v).toArray, .int .i64 (3 - (D : Int))] w fun e w' => ∃ r : Nat, e = .returned (.int .i64 (r : Int)) ∧ CnS D h l r ∧ Below w.heap.size w w' := by
  intro D
  induction D with
  | zero =>
    intro hD h l hs w v1 v2 v3 v4 v hv hl
    by_cases hk : 1 ≤ h.k ∧ h.k ≤ 4
    · obtain e | e | e | e : h.k = 1 ∨ h.k = 2 ∨ h.k = 3 ∨ h.k = 4 := by omega
      · exact l3S_1 0 hD h l e hs w v1 v2 v3 v4 v hv hl
      · exact l3S_2 0 hD h l e hs w v1 v2 v3 v4 v hv hl
      · exact l3S_3 0 hD h l e hs (fun _ _ _ _ _ _ _ _ _ _ _ h => absurd h (by omega)) w v1 v2 v3 v4 v hv hl
      · exact l3S_4 0 hD h l e hs w v1 v2 v3 v4 v hv hl
    · exact l3S_0 0 hD h l hk hs w v1 v2 v3 v4 v hv hl
  | succ D ih =>
    intro hD h l hs w v1 v2 v3 v4 v hv hl
    by_cases hk : 1 ≤ h.k ∧ h.k ≤ 4
    · obtain e | e | e | e : h.k = 1 ∨ h.k = 2 ∨ h.k = 3 ∨ h.k = 4 := by omega
      · exact l3S_1 (D + 1) hD h l e hs w v1 v2 v3 v4 v hv hl
      · exact l3S_2 (D + 1) hD h l e hs w v1 v2 v3 v4 v hv hl
      · refine l3S_3 (D + 1) hD h l e hs (fun g m hg w v1 v2 v3 v4 v a b _ => ?_) w v1 v2 v3 v4 v hv hl
        rw [show (4 : Int) - ((D + 1 : Nat) : Int) = 3 - (D : Int) by omega]
        exact ih (by omega) g m hg w v1 v2 v3 v4 v a b
      · exact l3S_4 (D + 1) hD h l e hs w v1 v2 v3 v4 v hv hl
    · exact l3S_0 (D + 1) hD h l hk hs w v1 v2 v3 v4 v hv hl
set_option maxRecDepth 100000 in
theorem spec_StmtOk (h : SH) (l : SF) (hs : hsize h + ssize l ≤ 1048576) (w : World) (v1 v2 v3 v4 v : Value) (hv : HV w 0 h v1 v2 v3 v4) (hl : SV w 0 l v) :
    Calls Tryz.prog 114 #[.agg (scells h v1 v2 v3 v4 v).toArray] w fun e w' => e = .returned (.bool (stmtOk h l)) ∧ Below w.heap.size w w' := by
  show Calls Tryz.prog 114 #[sagg h v1 v2 v3 v4 v] w _
  have T0 := Lib.hid (Bxs.start 98 hv hl)
  have Hs := Lib.hid hs
  clear hv hl hs
  go_enter Tryz.func114, Tryz.ntmps114
  go_wp2_with (refine wpList_load_mid rfl 98 _ rfl w.heap.size 0 rfl _ _ T0.out.rg Tryz.underlying98 rfl sizeIS ?_)
  refine (l3Stmt_all 3 (by omega) h l Hs.out _ v1 v2 v3 v4 v T0.out.hv T0.out.sv).mono ?_
  rintro e w1 ⟨r, rfl, hr, hb1⟩
  have B1 := (T0.out.later hb1).low
  have Hr := Lib.hid hr
  clear hb1 hr T0
  by_cases hok : okS 3 h l
  · have h6 : (r : Int) ≤ 40 := by have := Hr.out.yes hok; have := hok.2; omega
    have Hok := Lib.hid hok
    clear hok
    go_wp2
    go_ret
    exact retB (by rw [stmtOk, Hok.out.1, decide_eq_true Hok.out.2]; rfl) B1
  · have h6 : ¬ (r : Int) ≤ 40 := by have := Hr.out.no hok; omega
    have hf : Hid (stmtOk h l = false) := show stmtOk h l = false by
      cases e : stmtOk h l with
      | false => rfl
      | true =>
        unfold stmtOk at e
        rw [Bool.and_eq_true, decide_eq_true_eq] at e
        exact absurd e hok
    clear hok
    go_wp2
    go_ret
    exact retB (by rw [hf.out]; symm; first | rfl | (simp; omega)) B1
end Go.Proofs.YtpinockfakndlaaGreat
