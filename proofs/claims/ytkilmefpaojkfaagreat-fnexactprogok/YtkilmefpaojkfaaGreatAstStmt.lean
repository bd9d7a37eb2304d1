/-
  What it is that a statement is as told; the contracts of the landed code's stmtAsTold, bodyAsTold, StmtOk.
-/
import Derived.Test.YtkilmefpaojkfaaGreatAstExps
namespace Go.Proofs.YtkilmefpaojkfaaGreat
open Go.RowKit Go.Lib
set_option linter.unusedSimpArgs false
set_option linter.unusedVariables false

def headOk (h : SH) : Bool :=
  if h.k = 1 then nameOk h.s.data.toList && (expOk h.x2 && (noX h.x1 && (noX h.x3 && noX h.x4)))
  else if h.k = 2 then nameOk h.s.data.toList && ((expOk h.x1 && expOk h.x2) && (noX h.x3 && noX h.x4))
  else if h.k = 3 then nameOk h.s.data.toList && ((expOk h.x3 && expOk h.x4) && (noX h.x1 && noX h.x2))
  else if h.k = 4 then decide (h.s.size = 0) && (expOk h.x2 && (noX h.x1 && (noX h.x3 && noX h.x4)))
  else false
def toldS : Nat → SF → Bool
  | _, .nil => true
  | d, .node _ _ h l r => (headOk h && (if h.k = 3 then decide (1 ≤ d) && (decide (1 ≤ slen l) && (decide (slen l ≤ 6) && toldS (d - 1) l)) else decide (slen l = 0))) && toldS d r
def bodyTold (d : Nat) (l : SF) : Bool := decide (1 ≤ slen l) && (decide (slen l ≤ 6) && toldS d l)
def toldSt (d : Nat) (h : SH) (l : SF) : Bool := headOk h && (if h.k = 3 then decide (1 ≤ d) && bodyTold (d - 1) l else decide (slen l = 0))
theorem toldS_node (d p q : Nat) (h : SH) (l r : SF) : toldS d (.node p q h l r) = (toldSt d h l && toldS d r) := rfl
/-- All expressions of all heads are small. -/
def small9 (h : SH) : Prop := enodes h.x1.l ≤ 4000000 ∧ enodes h.x2.l ≤ 4000000 ∧ enodes h.x3.l ≤ 4000000 ∧ enodes h.x4.l ≤ 4000000
def all9 : SF → Prop
  | .nil => True
  | .node _ _ h l r => small9 h ∧ all9 l ∧ all9 r
theorem laid2 {w : World} {x y : X} {u v : Value} (t : TypeId) (h1 : EV w 0 x.l u) (h2 : EV w 0 y.l v) : EV (w.alloc (.cells (xcells x u ++ xcells y v).toArray t)) 0 (.node 0 0 x.h x.l (.node 0 0 y.h y.l .nil)) (.slice (some ⟨w.heap.size, 0, Option.none⟩) 2 2) :=
  EV.laid0 (F := .node 0 0 x.h x.l (.node 0 0 y.h y.l .nil)) ((ERow.one (h1.later (alloc_below _ _))).app (P := .node 0 0 x.h x.l .nil) (ERow.one (h2.later (alloc_below _ _)))) (new_range w (xcells x u ++ xcells y v).toArray t) 2
theorem laid1 {w : World} {x : X} {u : Value} (t : TypeId) (h1 : EV w 0 x.l u) : EV (w.alloc (.cells (xcells x u).toArray t)) 0 (.node 0 0 x.h x.l .nil) (.slice (some ⟨w.heap.size, 0, Option.none⟩) 1 1) :=
  EV.laid0 (F := .node 0 0 x.h x.l .nil) (ERow.one (h1.later (alloc_below _ _))) (new_range w (xcells x u).toArray t) 1
theorem laid3 {w : World} {x y z : X} {u v s : Value} (t : TypeId) (h1 : EV w 0 x.l u) (h2 : EV w 0 y.l v) (h3 : EV w 0 z.l s) : EV (w.alloc (.cells (xcells x u ++ (xcells y v ++ xcells z s)).toArray t)) 0 (.node 0 0 x.h x.l (.node 0 0 y.h y.l (.node 0 0 z.h z.l .nil))) (.slice (some ⟨w.heap.size, 0, Option.none⟩) 3 3) :=
  EV.laid0 (F := .node 0 0 x.h x.l (.node 0 0 y.h y.l (.node 0 0 z.h z.l .nil))) ((ERow.one (h1.later (alloc_below _ _))).app (P := .node 0 0 x.h x.l .nil) ((ERow.one (h2.later (alloc_below _ _))).app (P := .node 0 0 y.h y.l .nil) (ERow.one (h3.later (alloc_below _ _))))) (new_range w (xcells x u ++ (xcells y v ++ xcells z s)).toArray t) 3
/-- A statement in its box. -/
structure Bxs (w0 w : World) (N : Nat) (h : SH) (l : SF) (v1 v2 v3 v4 v : Value) : Prop where
  rg : w.rangeAt N 0 (scells h v1 v2 v3 v4 v)
  hv : HV w 0 h v1 v2 v3 v4
  sv : SV w 0 l v
  low : Below w0.heap.size w0 w
theorem Bxs.later {w0 w w' : World} {N : Nat} {h : SH} {l : SF} {v1 v2 v3 v4 v : Value} (t : Bxs w0 w N h l v1 v2 v3 v4 v) (hb : Below w.heap.size w w') : Bxs w0 w' N h l v1 v2 v3 v4 v :=
  ⟨rangeAt_later t.rg hb, t.hv.later hb, t.sv.later hb, t.low.trans (hb.mono t.low.size)⟩
theorem Bxs.start {w : World} {h : SH} {l : SF} {v1 v2 v3 v4 v : Value} (t : TypeId) (ha : HV w 0 h v1 v2 v3 v4) (hl : SV w 0 l v) : Bxs w (w.alloc (.cells (sarr h v1 v2 v3 v4 v) t)) w.heap.size h l v1 v2 v3 v4 v :=
  ⟨new_range w (sarr h v1 v2 v3 v4 v) t, ha.later (alloc_below _ _), hl.later (alloc_below _ _), alloc_below _ _⟩
set_option maxHeartbeats 4000000 in
set_option maxRecDepth 100000 in
theorem told_1 (d : Nat) (hd : d ≤ 100) (h : SH) (l : SF) (hk : h.k = 1) (h9 : small9 h)
    
    (w : World) (v1 v2 v3 v4 v : Value) (hv : HV w 0 h v1 v2 v3 v4) (hl : SV w 0 l v) :
    Calls Tryz.prog 88 #[sagg h v1 v2 v3 v4 v, .int .i64 (d : Int)] w fun e w' => e = .returned (.bool (toldSt d h l)) ∧ Below w.heap.size w w' := by
  have T0 := Lib.hid (Bxs.start 57 hv hl)
  obtain ⟨va1, vc1, rfl⟩ := hv.e1.shape
  obtain ⟨va2, vc2, rfl⟩ := hv.e2.shape
  obtain ⟨va3, vc3, rfl⟩ := hv.e3.shape
  obtain ⟨va4, vc4, rfl⟩ := hv.e4.shape
  obtain ⟨va, vc, rfl⟩ := hl.shape
  have H9 := Lib.hid h9
  have HK := Lib.hid hk
  have hdI : (d : Int) ≤ 100 := by omega
  obtain ⟨tn, htn⟩ : ∃ t, (nameOk h.s.data.toList) = t := ⟨_, rfl⟩
  obtain ⟨te, hte⟩ : ∃ t, (expOk h.x2) = t := ⟨_, rfl⟩
  obtain ⟨tz, htz⟩ : ∃ t, (noX h.x1 && (noX h.x3 && noX h.x4)) = t := ⟨_, rfl⟩
  have HH : Hid ((nameOk h.s.data.toList) = tn ∧ (expOk h.x2) = te ∧ (noX h.x1 && (noX h.x3 && noX h.x4)) = tz) := ⟨htn, hte, htz⟩
  have HT : Hid (toldSt d h l = ((tn && (te && tz)) && (decide (slen l = 0)))) := show toldSt d h l = _ by
    have e1 : headOk h = (tn && (te && tz)) := by rw [← htn, ← hte, ← htz]; simp [headOk, hk, Bool.and_assoc]
    unfold toldSt; rw [e1]; simp [hk]
  clear htn hte htz hv hl h9
  have e1 : (h.k == 1) = true := by rw [hk]; rfl
  have e2 : (h.k == 2) = false := by rw [hk]; rfl
  have e3 : (h.k == 3) = false := by rw [hk]; rfl
  have e4 : (h.k == 4) = false := by rw [hk]; rfl
  clear hk
  go_enter Tryz.func88, Tryz.ntmps88
  go_wp2_with fail
  refine (impl_NameOk h.s tn HH.out.1 _).mono ?_
  rintro e w1 ⟨rfl, hb1⟩
  have T1 := Lib.hid (T0.out.later hb1)
  clear hb1 T0
  cases tn with
  | false =>
    go_wp2
    go_ret
    exact retB (by rw [HT.out]; rfl) T1.out.low
  | true =>
  have c20 := part2 T1.out.rg 0 _ rfl
  have c21 := part2 T1.out.rg 1 _ rfl
  have c22 := part2 T1.out.rg 2 _ rfl
  have c23 := part2 T1.out.rg 3 _ rfl
  simp only [Nat.add_zero, Nat.reduceAdd] at c20 c21 c22 c23
  go_wp2_with fail
  have V1 := laid1 55 T1.out.hv.e2
  have h2q : enodes (.node 0 0 h.x2.h h.x2.l .nil : EF) ≤ 9000000 := by have := H9.out; simp only [small9] at this; simp only [enodes]; omega
  refine (expsOk_is _ h2q _ _ V1).mono ?_
  rintro e w2 ⟨rfl, hb2⟩
  rw [show eall (.node 0 0 h.x2.h h.x2.l .nil : EF) = te by rw [← HH.out.2.1]; simp [eall]]
  have T2 := Lib.hid ((T1.out.later (alloc_below _ _)).later hb2)
  clear hb2 T1 V1 h2q c20 c21 c22 c23
  cases te with
  | false =>
    go_wp2
    go_ret
    exact retB (by rw [HT.out]; rfl) T2.out.low
  | true =>
  have c10 := part1 T2.out.rg 0 _ rfl
  have c11 := part1 T2.out.rg 1 _ rfl
  have c12 := part1 T2.out.rg 2 _ rfl
  have c13 := part1 T2.out.rg 3 _ rfl
  have c30 := part3 T2.out.rg 0 _ rfl
  have c31 := part3 T2.out.rg 1 _ rfl
  have c32 := part3 T2.out.rg 2 _ rfl
  have c33 := part3 T2.out.rg 3 _ rfl
  have c40 := part4 T2.out.rg 0 _ rfl
  have c41 := part4 T2.out.rg 1 _ rfl
  have c42 := part4 T2.out.rg 2 _ rfl
  have c43 := part4 T2.out.rg 3 _ rfl
  simp only [Nat.add_zero, Nat.reduceAdd] at c10 c11 c12 c13 c30 c31 c32 c33 c40 c41 c42 c43
  go_wp2_with fail
  have V2 := laid3 55 T2.out.hv.e1 T2.out.hv.e3 T2.out.hv.e4
  refine (noExps_is _ (by simp [elen]) _ _ V2).mono ?_
  rintro e w3 ⟨rfl, hb3⟩
  rw [show enone (.node 0 0 h.x1.h h.x1.l (.node 0 0 h.x3.h h.x3.l (.node 0 0 h.x4.h h.x4.l .nil)) : EF) = tz by rw [← HH.out.2.2]; simp [enone]]
  have T3 := Lib.hid ((T2.out.later (alloc_below _ _)).later hb3)
  clear hb3 T2 V2 c10 c11 c12 c13 c30 c31 c32 c33 c40 c41 c42 c43
  cases tz with
  | false =>
    go_wp2
    go_ret
    exact retB (by rw [HT.out]; rfl) T3.out.low
  | true =>
  have c18 := part5 T3.out.rg
  by_cases hz : slen l = 0
  · have h1 : ((slen l : Int) == 0) = true := by rw [beq_iff_eq]; omega
    have Hz := Lib.hid hz
    clear hz
    go_wp2
    go_ret
    exact retB (by rw [HT.out, decide_eq_true Hz.out]; rfl) T3.out.low
  · have h1 : ((slen l : Int) == 0) = false := int_ne (by omega)
    have Hz := Lib.hid hz
    clear hz
    go_wp2
    go_ret
    exact retB (by rw [HT.out, decide_eq_false Hz.out]; rfl) T3.out.low
set_option maxHeartbeats 4000000 in
set_option maxRecDepth 100000 in
theorem told_2 (d : Nat) (hd : d ≤ 100) (h : SH) (l : SF) (hk : h.k = 2) (h9 : small9 h)
    
    (w : World) (v1 v2 v3 v4 v : Value) (hv : HV w 0 h v1 v2 v3 v4) (hl : SV w 0 l v) :
    Calls Tryz.prog 88 #[sagg h v1 v2 v3 v4 v, .int .i64 (d : Int)] w fun e w' => e = .returned (.bool (toldSt d h l)) ∧ Below w.heap.size w w' := by
  have T0 := Lib.hid (Bxs.start 57 hv hl)
  obtain ⟨va1, vc1, rfl⟩ := hv.e1.shape
  obtain ⟨va2, vc2, rfl⟩ := hv.e2.shape
  obtain ⟨va3, vc3, rfl⟩ := hv.e3.shape
  obtain ⟨va4, vc4, rfl⟩ := hv.e4.shape
  obtain ⟨va, vc, rfl⟩ := hl.shape
  have H9 := Lib.hid h9
  have HK := Lib.hid hk
  have hdI : (d : Int) ≤ 100 := by omega
  obtain ⟨tn, htn⟩ : ∃ t, (nameOk h.s.data.toList) = t := ⟨_, rfl⟩
  obtain ⟨te, hte⟩ : ∃ t, (expOk h.x1 && expOk h.x2) = t := ⟨_, rfl⟩
  obtain ⟨tz, htz⟩ : ∃ t, (noX h.x3 && noX h.x4) = t := ⟨_, rfl⟩
  have HH : Hid ((nameOk h.s.data.toList) = tn ∧ (expOk h.x1 && expOk h.x2) = te ∧ (noX h.x3 && noX h.x4) = tz) := ⟨htn, hte, htz⟩
  have HT : Hid (toldSt d h l = ((tn && (te && tz)) && (decide (slen l = 0)))) := show toldSt d h l = _ by
    have e1 : headOk h = (tn && (te && tz)) := by rw [← htn, ← hte, ← htz]; simp [headOk, hk, Bool.and_assoc]
    unfold toldSt; rw [e1]; simp [hk]
  clear htn hte htz hv hl h9
  have e1 : (h.k == 1) = false := by rw [hk]; rfl
  have e2 : (h.k == 2) = true := by rw [hk]; rfl
  have e3 : (h.k == 3) = false := by rw [hk]; rfl
  have e4 : (h.k == 4) = false := by rw [hk]; rfl
  clear hk
  go_enter Tryz.func88, Tryz.ntmps88
  go_wp2_with fail
  refine (impl_NameOk h.s tn HH.out.1 _).mono ?_
  rintro e w1 ⟨rfl, hb1⟩
  have T1 := Lib.hid (T0.out.later hb1)
  clear hb1 T0
  cases tn with
  | false =>
    go_wp2
    go_ret
    exact retB (by rw [HT.out]; rfl) T1.out.low
  | true =>
  have c10 := part1 T1.out.rg 0 _ rfl
  have c11 := part1 T1.out.rg 1 _ rfl
  have c12 := part1 T1.out.rg 2 _ rfl
  have c13 := part1 T1.out.rg 3 _ rfl
  have c20 := part2 T1.out.rg 0 _ rfl
  have c21 := part2 T1.out.rg 1 _ rfl
  have c22 := part2 T1.out.rg 2 _ rfl
  have c23 := part2 T1.out.rg 3 _ rfl
  simp only [Nat.add_zero, Nat.reduceAdd] at c10 c11 c12 c13 c20 c21 c22 c23
  go_wp2_with fail
  have V1 := laid2 55 T1.out.hv.e1 T1.out.hv.e2
  have h2q : enodes (.node 0 0 h.x1.h h.x1.l (.node 0 0 h.x2.h h.x2.l .nil) : EF) ≤ 9000000 := by have := H9.out; simp only [small9] at this; simp only [enodes]; omega
  refine (expsOk_is _ h2q _ _ V1).mono ?_
  rintro e w2 ⟨rfl, hb2⟩
  rw [show eall (.node 0 0 h.x1.h h.x1.l (.node 0 0 h.x2.h h.x2.l .nil) : EF) = te by rw [← HH.out.2.1]; simp [eall]]
  have T2 := Lib.hid ((T1.out.later (alloc_below _ _)).later hb2)
  clear hb2 T1 V1 h2q c10 c11 c12 c13 c20 c21 c22 c23
  cases te with
  | false =>
    go_wp2
    go_ret
    exact retB (by rw [HT.out]; rfl) T2.out.low
  | true =>
  have c30 := part3 T2.out.rg 0 _ rfl
  have c31 := part3 T2.out.rg 1 _ rfl
  have c32 := part3 T2.out.rg 2 _ rfl
  have c33 := part3 T2.out.rg 3 _ rfl
  have c40 := part4 T2.out.rg 0 _ rfl
  have c41 := part4 T2.out.rg 1 _ rfl
  have c42 := part4 T2.out.rg 2 _ rfl
  have c43 := part4 T2.out.rg 3 _ rfl
  simp only [Nat.add_zero, Nat.reduceAdd] at c30 c31 c32 c33 c40 c41 c42 c43
  go_wp2_with fail
  have V2 := laid2 55 T2.out.hv.e3 T2.out.hv.e4
  refine (noExps_is _ (by simp [elen]) _ _ V2).mono ?_
  rintro e w3 ⟨rfl, hb3⟩
  rw [show enone (.node 0 0 h.x3.h h.x3.l (.node 0 0 h.x4.h h.x4.l .nil) : EF) = tz by rw [← HH.out.2.2]; simp [enone]]
  have T3 := Lib.hid ((T2.out.later (alloc_below _ _)).later hb3)
  clear hb3 T2 V2 c30 c31 c32 c33 c40 c41 c42 c43
  cases tz with
  | false =>
    go_wp2
    go_ret
    exact retB (by rw [HT.out]; rfl) T3.out.low
  | true =>
  have c18 := part5 T3.out.rg
  by_cases hz : slen l = 0
  · have h1 : ((slen l : Int) == 0) = true := by rw [beq_iff_eq]; omega
    have Hz := Lib.hid hz
    clear hz
    go_wp2
    go_ret
    exact retB (by rw [HT.out, decide_eq_true Hz.out]; rfl) T3.out.low
  · have h1 : ((slen l : Int) == 0) = false := int_ne (by omega)
    have Hz := Lib.hid hz
    clear hz
    go_wp2
    go_ret
    exact retB (by rw [HT.out, decide_eq_false Hz.out]; rfl) T3.out.low
set_option maxHeartbeats 4000000 in
set_option maxRecDepth 100000 in
theorem told_3 (d : Nat) (hd : d ≤ 100) (h : SH) (l : SF) (hk : h.k = 3) (h9 : small9 h)
    (ih : ∀ (w : World) (v : Value), SV w 0 l v → Calls Tryz.prog 108 #[v, .int .i64 ((d : Int) - 1)] w fun e w' => e = .returned (.bool (bodyTold (d - 1) l)) ∧ Below w.heap.size w w') (hd1 : 1 ≤ d)
    (w : World) (v1 v2 v3 v4 v : Value) (hv : HV w 0 h v1 v2 v3 v4) (hl : SV w 0 l v) :
    Calls Tryz.prog 88 #[sagg h v1 v2 v3 v4 v, .int .i64 (d : Int)] w fun e w' => e = .returned (.bool (toldSt d h l)) ∧ Below w.heap.size w w' := by
  have T0 := Lib.hid (Bxs.start 57 hv hl)
  obtain ⟨va1, vc1, rfl⟩ := hv.e1.shape
  obtain ⟨va2, vc2, rfl⟩ := hv.e2.shape
  obtain ⟨va3, vc3, rfl⟩ := hv.e3.shape
  obtain ⟨va4, vc4, rfl⟩ := hv.e4.shape
  obtain ⟨va, vc, rfl⟩ := hl.shape
  have H9 := Lib.hid h9
  have HK := Lib.hid hk
  have hdI : (d : Int) ≤ 100 := by omega
  have Hih := Lib.hid ih
  have hd0 : (0 : Int) < (d : Int) := by omega
  have Hd1 := Lib.hid hd1
  clear ih hd1
  obtain ⟨tn, htn⟩ : ∃ t, (nameOk h.s.data.toList) = t := ⟨_, rfl⟩
  obtain ⟨te, hte⟩ : ∃ t, (expOk h.x3 && expOk h.x4) = t := ⟨_, rfl⟩
  obtain ⟨tz, htz⟩ : ∃ t, (noX h.x1 && noX h.x2) = t := ⟨_, rfl⟩
  have HH : Hid ((nameOk h.s.data.toList) = tn ∧ (expOk h.x3 && expOk h.x4) = te ∧ (noX h.x1 && noX h.x2) = tz) := ⟨htn, hte, htz⟩
  have hdd : 1 ≤ d := Hd1.out
  have HT : Hid (toldSt d h l = ((tn && (te && tz)) && (bodyTold (d - 1) l))) := show toldSt d h l = _ by
    have e1 : headOk h = (tn && (te && tz)) := by rw [← htn, ← hte, ← htz]; simp [headOk, hk, Bool.and_assoc]
    unfold toldSt; rw [e1]; simp [hk, hdd]
  clear htn hte htz hv hl h9 hdd
  have e1 : (h.k == 1) = false := by rw [hk]; rfl
  have e2 : (h.k == 2) = false := by rw [hk]; rfl
  have e3 : (h.k == 3) = true := by rw [hk]; rfl
  have e4 : (h.k == 4) = false := by rw [hk]; rfl
  clear hk
  go_enter Tryz.func88, Tryz.ntmps88
  go_wp2_with fail
  refine (impl_NameOk h.s tn HH.out.1 _).mono ?_
  rintro e w1 ⟨rfl, hb1⟩
  have T1 := Lib.hid (T0.out.later hb1)
  clear hb1 T0
  cases tn with
  | false =>
    go_wp2
    go_ret
    exact retB (by rw [HT.out]; rfl) T1.out.low
  | true =>
  have c30 := part3 T1.out.rg 0 _ rfl
  have c31 := part3 T1.out.rg 1 _ rfl
  have c32 := part3 T1.out.rg 2 _ rfl
  have c33 := part3 T1.out.rg 3 _ rfl
  have c40 := part4 T1.out.rg 0 _ rfl
  have c41 := part4 T1.out.rg 1 _ rfl
  have c42 := part4 T1.out.rg 2 _ rfl
  have c43 := part4 T1.out.rg 3 _ rfl
  simp only [Nat.add_zero, Nat.reduceAdd] at c30 c31 c32 c33 c40 c41 c42 c43
  go_wp2_with fail
  have V1 := laid2 55 T1.out.hv.e3 T1.out.hv.e4
  have h2q : enodes (.node 0 0 h.x3.h h.x3.l (.node 0 0 h.x4.h h.x4.l .nil) : EF) ≤ 9000000 := by have := H9.out; simp only [small9] at this; simp only [enodes]; omega
  refine (expsOk_is _ h2q _ _ V1).mono ?_
  rintro e w2 ⟨rfl, hb2⟩
  rw [show eall (.node 0 0 h.x3.h h.x3.l (.node 0 0 h.x4.h h.x4.l .nil) : EF) = te by rw [← HH.out.2.1]; simp [eall]]
  have T2 := Lib.hid ((T1.out.later (alloc_below _ _)).later hb2)
  clear hb2 T1 V1 h2q c30 c31 c32 c33 c40 c41 c42 c43
  cases te with
  | false =>
    go_wp2
    go_ret
    exact retB (by rw [HT.out]; rfl) T2.out.low
  | true =>
  have c10 := part1 T2.out.rg 0 _ rfl
  have c11 := part1 T2.out.rg 1 _ rfl
  have c12 := part1 T2.out.rg 2 _ rfl
  have c13 := part1 T2.out.rg 3 _ rfl
  have c20 := part2 T2.out.rg 0 _ rfl
  have c21 := part2 T2.out.rg 1 _ rfl
  have c22 := part2 T2.out.rg 2 _ rfl
  have c23 := part2 T2.out.rg 3 _ rfl
  simp only [Nat.add_zero, Nat.reduceAdd] at c10 c11 c12 c13 c20 c21 c22 c23
  go_wp2_with fail
  have V2 := laid2 55 T2.out.hv.e1 T2.out.hv.e2
  refine (noExps_is _ (by simp [elen]) _ _ V2).mono ?_
  rintro e w3 ⟨rfl, hb3⟩
  rw [show enone (.node 0 0 h.x1.h h.x1.l (.node 0 0 h.x2.h h.x2.l .nil) : EF) = tz by rw [← HH.out.2.2]; simp [enone]]
  have T3 := Lib.hid ((T2.out.later (alloc_below _ _)).later hb3)
  clear hb3 T2 V2 c10 c11 c12 c13 c20 c21 c22 c23
  cases tz with
  | false =>
    go_wp2
    go_ret
    exact retB (by rw [HT.out]; rfl) T3.out.low
  | true =>
  have c18 := part5 T3.out.rg
  go_wp2_with fail
  refine (Hih.out _ _ T3.out.sv).mono ?_
  rintro e w4 ⟨rfl, hb4⟩
  have T4 := Lib.hid (T3.out.later hb4)
  clear hb4 T3 c18
  go_wp2
  go_ret
  exact retB (by rw [HT.out]; rfl) T4.out.low
end Go.Proofs.YtkilmefpaojkfaaGreat
