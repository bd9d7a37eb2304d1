/-
  What it is that two statements are the same; the contract of the landed code's sameHead.
-/
import Derived.Test.YtlepidbgebfglaaAstAll
namespace Go.Proofs.Ytlepidbgebfglaa
open Go.RowKit Go.Lib
set_option linter.unusedSimpArgs false
set_option linter.unusedVariables false

def ssameH (a b : SH) : Bool := decide (a.k = b.k) && decide (a.s = b.s) && xsame a.x1 b.x1 && xsame a.x2 b.x2 && xsame a.x3 b.x3 && xsame a.x4 b.x4
def ssame : SF → SF → Bool
  | .nil, .nil => true
  | .node _ _ h l r, .node _ _ h' l' r' => ssameH h h' && (ssame l l' && ssame r r')
  | _, _ => false
theorem ssame_len : ∀ F G : SF, ssame F G = true → slen F = slen G
  | .nil, .nil, _ => rfl
  | .node _ _ h l r, .node _ _ h' l' r', e => by
    simp only [ssame, Bool.and_eq_true] at e
    have := ssame_len r r' e.2.2
    simp only [slen]; omega
  | .nil, .node _ _ _ _ _, e => by simp [ssame] at e
  | .node _ _ _ _ _, .nil, e => by simp [ssame] at e
theorem ssame_diff {F G : SF} (h : ¬ slen F = slen G) : ssame F G = false := by
  cases e : ssame F G with
  | false => rfl
  | true => exact absurd (ssame_len F G e) h
theorem ssame_node (p q p' q' : Nat) (h h' : SH) (l r l' r' : SF) : ssame (.node p q h l r) (.node p' q' h' l' r') = ((ssameH h h' && ssame l l') && ssame r r') := by simp only [ssame, Bool.and_assoc]
/-- All expressions of a statement's head hold so many at most. -/
def small (h : SH) : Prop := enodes h.x1.l ≤ 10000000 ∧ enodes h.x2.l ≤ 10000000 ∧ enodes h.x3.l ≤ 10000000 ∧ enodes h.x4.l ≤ 10000000
def allSmall : SF → Prop
  | .nil => True
  | .node _ _ h l r => small h ∧ allSmall l ∧ allSmall r
set_option maxHeartbeats 4000000 in
set_option maxRecDepth 100000 in
theorem sameHead_is (g h : SH) (hg : small g) (w : World) (a1 a2 a3 a4 a b1 b2 b3 b4 b : Value) (ha : HV w 0 g a1 a2 a3 a4) (hb : HV w 0 h b1 b2 b3 b4) :
    Calls Try.prog 54 #[.agg (scells g a1 a2 a3 a4 a).toArray, .agg (scells h b1 b2 b3 b4 b).toArray] w fun e w' => e = .returned (.bool (ssameH g h)) ∧ Below w.heap.size w w' := by
  show Calls Try.prog 54 #[sagg g a1 a2 a3 a4 a, sagg h b1 b2 b3 b4 b] w _
  obtain ⟨t1, ht1⟩ : ∃ t, xsame g.x1 h.x1 = t := ⟨_, rfl⟩
  obtain ⟨t2, ht2⟩ : ∃ t, xsame g.x2 h.x2 = t := ⟨_, rfl⟩
  obtain ⟨t3, ht3⟩ : ∃ t, xsame g.x3 h.x3 = t := ⟨_, rfl⟩
  obtain ⟨t4, ht4⟩ : ∃ t, xsame g.x4 h.x4 = t := ⟨_, rfl⟩
  have Hq1 : Hid (∀ w, EV w 0 g.x1.l a1 → EV w 0 h.x1.l b1 → Calls Try.prog 18 #[.agg #[.int .i64 g.x1.h.k, .int .i64 g.x1.h.n, .string g.x1.h.s, a1], .agg #[.int .i64 h.x1.h.k, .int .i64 h.x1.h.n, .string h.x1.h.s, b1]] w fun e w' => e = .returned (.bool t1) ∧ Below w.heap.size w w') := fun w p q => by rw [← ht1]; exact impl_SameExp g.x1 h.x1 hg.1 w a1 b1 p q
  have Hq2 : Hid (∀ w, EV w 0 g.x2.l a2 → EV w 0 h.x2.l b2 → Calls Try.prog 18 #[.agg #[.int .i64 g.x2.h.k, .int .i64 g.x2.h.n, .string g.x2.h.s, a2], .agg #[.int .i64 h.x2.h.k, .int .i64 h.x2.h.n, .string h.x2.h.s, b2]] w fun e w' => e = .returned (.bool t2) ∧ Below w.heap.size w w') := fun w p q => by rw [← ht2]; exact impl_SameExp g.x2 h.x2 hg.2.1 w a2 b2 p q
  have Hq3 : Hid (∀ w, EV w 0 g.x3.l a3 → EV w 0 h.x3.l b3 → Calls Try.prog 18 #[.agg #[.int .i64 g.x3.h.k, .int .i64 g.x3.h.n, .string g.x3.h.s, a3], .agg #[.int .i64 h.x3.h.k, .int .i64 h.x3.h.n, .string h.x3.h.s, b3]] w fun e w' => e = .returned (.bool t3) ∧ Below w.heap.size w w') := fun w p q => by rw [← ht3]; exact impl_SameExp g.x3 h.x3 hg.2.2.1 w a3 b3 p q
  have Hq4 : Hid (∀ w, EV w 0 g.x4.l a4 → EV w 0 h.x4.l b4 → Calls Try.prog 18 #[.agg #[.int .i64 g.x4.h.k, .int .i64 g.x4.h.n, .string g.x4.h.s, a4], .agg #[.int .i64 h.x4.h.k, .int .i64 h.x4.h.n, .string h.x4.h.s, b4]] w fun e w' => e = .returned (.bool t4) ∧ Below w.heap.size w w') := fun w p q => by rw [← ht4]; exact impl_SameExp g.x4 h.x4 hg.2.2.2 w a4 b4 p q
  have HT : Hid (xsame g.x1 h.x1 = t1 ∧ xsame g.x2 h.x2 = t2 ∧ xsame g.x3 h.x3 = t3 ∧ xsame g.x4 h.x4 = t4) := ⟨ht1, ht2, ht3, ht4⟩
  have T0 := Lib.hid (Two.start w g h a1 a2 a3 a4 a b1 b2 b3 b4 b 30 30)
  have HA := Lib.hid (And.intro ha hb)
  clear ht1 ht2 ht3 ht4 ha hb
  by_cases hk : g.k = h.k
  case neg =>
    have hf : Hid (ssameH g h = false) := show ssameH g h = false by simp [ssameH, hk]
    have h1 := int_ne hk
    go_enter Try.func54, Try.ntmps54
    go_wp2
    go_ret
    exact retB hf.out T0.out.low
  by_cases hs : g.s = h.s
  case neg =>
    have hf : Hid (ssameH g h = false) := show ssameH g h = false by simp [ssameH, hs]
    have h1 := str_ne hs
    have h2 : (g.k == h.k) = true := by rw [beq_iff_eq]; exact hk
    have h3 : (g.k != h.k) = false := by rw [bne, h2]; rfl
    clear hs hk
    go_enter Try.func54, Try.ntmps54
    go_wp2
    go_ret
    exact retB hf.out T0.out.low
  have Hks : Hid (g.k = h.k ∧ g.s = h.s) := ⟨hk, hs⟩
  have h2 : (g.k == h.k) = true := by rw [beq_iff_eq]; exact hk
  have h3 : (g.k != h.k) = false := by rw [bne, h2]; rfl
  have h4 : (g.s.toList == h.s.toList) = true := by rw [hs]; simp
  have h5 : (g.s.toList != h.s.toList) = false := by rw [bne, h4]; rfl
  clear hk hs
  go_enter Try.func54, Try.ntmps54
  go_wp2_with fail
  refine (Hq1.out _ (HA.out.1.e1.later T0.out.low) (HA.out.2.e1.later T0.out.low)).mono ?_
  rintro e w1 ⟨rfl, hb1⟩
  have T1 := Lib.hid (T0.out.later hb1)
  clear hb1 T0
  cases t1 with
  | false =>
    have hf : Hid (ssameH g h = false) := show ssameH g h = false by simp [ssameH, HT.out]
    go_wp2
    go_ret
    exact retB hf.out T1.out.low
  | true =>
  have c20 := part2 T1.out.r1 0 _ rfl
  have d20 := part2 T1.out.r2 0 _ rfl
  have c21 := part2 T1.out.r1 1 _ rfl
  have d21 := part2 T1.out.r2 1 _ rfl
  have c22 := part2 T1.out.r1 2 _ rfl
  have d22 := part2 T1.out.r2 2 _ rfl
  have c23 := part2 T1.out.r1 3 _ rfl
  have d23 := part2 T1.out.r2 3 _ rfl
  simp only [Nat.add_zero, Nat.reduceAdd] at c20 d20 c21 d21 c22 d22 c23 d23
  go_wp2_with fail
  refine (Hq2.out _ (HA.out.1.e2.later T1.out.low) (HA.out.2.e2.later T1.out.low)).mono ?_
  rintro e w2 ⟨rfl, hb2⟩
  have T2 := Lib.hid (T1.out.later hb2)
  clear c20 d20 c21 d21 c22 d22 c23 d23
  clear hb2 T1
  cases t2 with
  | false =>
    have hf : Hid (ssameH g h = false) := show ssameH g h = false by simp [ssameH, HT.out]
    go_wp2
    go_ret
    exact retB hf.out T2.out.low
  | true =>
  have c30 := part3 T2.out.r1 0 _ rfl
  have d30 := part3 T2.out.r2 0 _ rfl
  have c31 := part3 T2.out.r1 1 _ rfl
  have d31 := part3 T2.out.r2 1 _ rfl
  have c32 := part3 T2.out.r1 2 _ rfl
  have d32 := part3 T2.out.r2 2 _ rfl
  have c33 := part3 T2.out.r1 3 _ rfl
  have d33 := part3 T2.out.r2 3 _ rfl
  simp only [Nat.add_zero, Nat.reduceAdd] at c30 d30 c31 d31 c32 d32 c33 d33
  go_wp2_with fail
  refine (Hq3.out _ (HA.out.1.e3.later T2.out.low) (HA.out.2.e3.later T2.out.low)).mono ?_
  rintro e w3 ⟨rfl, hb3⟩
  have T3 := Lib.hid (T2.out.later hb3)
  clear c30 d30 c31 d31 c32 d32 c33 d33
  clear hb3 T2
  cases t3 with
  | false =>
    have hf : Hid (ssameH g h = false) := show ssameH g h = false by simp [ssameH, HT.out]
    go_wp2
    go_ret
    exact retB hf.out T3.out.low
  | true =>
  have c40 := part4 T3.out.r1 0 _ rfl
  have d40 := part4 T3.out.r2 0 _ rfl
  have c41 := part4 T3.out.r1 1 _ rfl
  have d41 := part4 T3.out.r2 1 _ rfl
  have c42 := part4 T3.out.r1 2 _ rfl
  have d42 := part4 T3.out.r2 2 _ rfl
  have c43 := part4 T3.out.r1 3 _ rfl
  have d43 := part4 T3.out.r2 3 _ rfl
  simp only [Nat.add_zero, Nat.reduceAdd] at c40 d40 c41 d41 c42 d42 c43 d43
  go_wp2_with fail
  refine (Hq4.out _ (HA.out.1.e4.later T3.out.low) (HA.out.2.e4.later T3.out.low)).mono ?_
  rintro e w4 ⟨rfl, hb4⟩
  have T4 := Lib.hid (T3.out.later hb4)
  clear c40 d40 c41 d41 c42 d42 c43 d43
  clear hb4 T3
  cases t4 with
  | false =>
    have hf : Hid (ssameH g h = false) := show ssameH g h = false by simp [ssameH, HT.out]
    go_wp2
    go_ret
    exact retB hf.out T4.out.low
  | true =>
  have hf : Hid (ssameH g h = true) := show ssameH g h = true by simp [ssameH, HT.out, Hks.out]
  go_wp2
  go_ret
  exact retB hf.out T4.out.low
end Go.Proofs.Ytlepidbgebfglaa
