/-
  The contract of the specification's SameStmt.
-/
import Derived.Test.YtlepidbgebfglaaAstHead
namespace Go.Proofs.Ytlepidbgebfglaa
open Go.RowKit Go.Lib
set_option linter.unusedSimpArgs false
set_option linter.unusedVariables false

set_option maxHeartbeats 4000000 in
set_option maxRecDepth 100000 in
theorem spec_SameStmt_step (g h : SH) (l l' : SF) (hg : small g) (hh : small h) (hl : allSmall l) (hl' : allSmall l') (hx : snodes l ≤ 10000000) (hy : snodes l' ≤ 10000000)
    (ih : ∀ (g h : SH) (l1 l2 : SF), snodes l1 < snodes l → small g → small h → allSmall l1 → allSmall l2 → snodes l2 ≤ 10000000 → ∀ (w : World) (a1 a2 a3 a4 a b1 b2 b3 b4 b : Value), HV w 0 g a1 a2 a3 a4 → HV w 0 h b1 b2 b3 b4 → SV w 0 l1 a → SV w 0 l2 b → Calls Try.prog 21 #[.agg (scells g a1 a2 a3 a4 a).toArray, .agg (scells h b1 b2 b3 b4 b).toArray] w fun e w' => e = .returned (.bool (ssameH g h && ssame l1 l2)) ∧ Below w.heap.size w w')
    (w : World) (a1 a2 a3 a4 a b1 b2 b3 b4 b : Value) (ha : HV w 0 g a1 a2 a3 a4) (hb : HV w 0 h b1 b2 b3 b4) (hal : SV w 0 l a) (hbl : SV w 0 l' b) :
    Calls Try.prog 21 #[.agg (scells g a1 a2 a3 a4 a).toArray, .agg (scells h b1 b2 b3 b4 b).toArray] w fun e w' => e = .returned (.bool (ssameH g h && ssame l l')) ∧ Below w.heap.size w w' := by
  show Calls Try.prog 21 #[sagg g a1 a2 a3 a4 a, sagg h b1 b2 b3 b4 b] w _
  obtain ⟨bb1, o1, ao1, cap1, rfl, hao1, _, hin1⟩ := hal
  obtain ⟨bb2, o2, ao2, cap2, rfl, hao2, _, hin2⟩ := hbl
  have Hih := Lib.hid ih
  have HS := Lib.hid (And.intro hl hl')
  have HI := Lib.hid (And.intro (And.intro hao1 hin1) (And.intro hao2 hin2))
  have HXY := Lib.hid (And.intro hx hy)
  clear ih hl hl' hao1 hin1 hao2 hin2 hx hy
  obtain ⟨t1, ht1⟩ : ∃ t, xsame g.x1 h.x1 = t := ⟨_, rfl⟩
  obtain ⟨t2, ht2⟩ : ∃ t, xsame g.x2 h.x2 = t := ⟨_, rfl⟩
  obtain ⟨t3, ht3⟩ : ∃ t, xsame g.x3 h.x3 = t := ⟨_, rfl⟩
  obtain ⟨t4, ht4⟩ : ∃ t, xsame g.x4 h.x4 = t := ⟨_, rfl⟩
  have Hq1 : Hid (∀ w, EV w 0 g.x1.l a1 → EV w 0 h.x1.l b1 → Calls Try.prog 19 #[.agg #[.int .i64 g.x1.h.k, .int .i64 g.x1.h.n, .string g.x1.h.s, a1], .agg #[.int .i64 h.x1.h.k, .int .i64 h.x1.h.n, .string h.x1.h.s, b1]] w fun e w' => e = .returned (.bool t1) ∧ Below w.heap.size w w') := fun w p q => by rw [← ht1]; exact spec_SameExp g.x1 h.x1 hg.1 hh.1 w a1 b1 p q
  have Hq2 : Hid (∀ w, EV w 0 g.x2.l a2 → EV w 0 h.x2.l b2 → Calls Try.prog 19 #[.agg #[.int .i64 g.x2.h.k, .int .i64 g.x2.h.n, .string g.x2.h.s, a2], .agg #[.int .i64 h.x2.h.k, .int .i64 h.x2.h.n, .string h.x2.h.s, b2]] w fun e w' => e = .returned (.bool t2) ∧ Below w.heap.size w w') := fun w p q => by rw [← ht2]; exact spec_SameExp g.x2 h.x2 hg.2.1 hh.2.1 w a2 b2 p q
  have Hq3 : Hid (∀ w, EV w 0 g.x3.l a3 → EV w 0 h.x3.l b3 → Calls Try.prog 19 #[.agg #[.int .i64 g.x3.h.k, .int .i64 g.x3.h.n, .string g.x3.h.s, a3], .agg #[.int .i64 h.x3.h.k, .int .i64 h.x3.h.n, .string h.x3.h.s, b3]] w fun e w' => e = .returned (.bool t3) ∧ Below w.heap.size w w') := fun w p q => by rw [← ht3]; exact spec_SameExp g.x3 h.x3 hg.2.2.1 hh.2.2.1 w a3 b3 p q
  have Hq4 : Hid (∀ w, EV w 0 g.x4.l a4 → EV w 0 h.x4.l b4 → Calls Try.prog 19 #[.agg #[.int .i64 g.x4.h.k, .int .i64 g.x4.h.n, .string g.x4.h.s, a4], .agg #[.int .i64 h.x4.h.k, .int .i64 h.x4.h.n, .string h.x4.h.s, b4]] w fun e w' => e = .returned (.bool t4) ∧ Below w.heap.size w w') := fun w p q => by rw [← ht4]; exact spec_SameExp g.x4 h.x4 hg.2.2.2 hh.2.2.2 w a4 b4 p q
  have HT : Hid (xsame g.x1 h.x1 = t1 ∧ xsame g.x2 h.x2 = t2 ∧ xsame g.x3 h.x3 = t3 ∧ xsame g.x4 h.x4 = t4) := ⟨ht1, ht2, ht3, ht4⟩
  have T0 := Lib.hid (Two.start w g h a1 a2 a3 a4 (.slice ao1 (slen l) cap1) b1 b2 b3 b4 (.slice ao2 (slen l') cap2) 30 30)
  have HA := Lib.hid (And.intro ha hb)
  clear ht1 ht2 ht3 ht4 ha hb
  by_cases hk : g.k = h.k
  case neg =>
    have hf : Hid (ssameH g h = false) := show ssameH g h = false by simp [ssameH, hk]
    have h1 := int_ne hk
    go_enter Try.func21, Try.ntmps21
    go_wp2
    go_ret
    exact retB (by rw [hf.out]; rfl) T0.out.low
  by_cases hs : g.s = h.s
  case neg =>
    have hf : Hid (ssameH g h = false) := show ssameH g h = false by simp [ssameH, hs]
    have h1 := str_ne hs
    have h2 : (g.k == h.k) = true := by rw [beq_iff_eq]; exact hk
    have h3 : (g.k != h.k) = false := by rw [bne, h2]; rfl
    clear hs hk
    go_enter Try.func21, Try.ntmps21
    go_wp2
    go_ret
    exact retB (by rw [hf.out]; rfl) T0.out.low
  have Hks : Hid (g.k = h.k ∧ g.s = h.s) := ⟨hk, hs⟩
  have h2 : (g.k == h.k) = true := by rw [beq_iff_eq]; exact hk
  have h3 : (g.k != h.k) = false := by rw [bne, h2]; rfl
  have h4 : (g.s.toList == h.s.toList) = true := by rw [hs]; simp
  have h5 : (g.s.toList != h.s.toList) = false := by rw [bne, h4]; rfl
  clear hk hs
  go_enter Try.func21, Try.ntmps21
  go_wp2_with fail
  refine (Hq1.out _ (HA.out.1.e1.later T0.out.low) (HA.out.2.e1.later T0.out.low)).mono ?_
  rintro e w1 ⟨rfl, hb1⟩
  have T1 := Lib.hid (T0.out.later hb1)
  clear hb1 T0
  cases t1 with
  | false =>
    have hf : Hid (ssameH g h = false) := show ssameH g h = false by simp [ssameH, HT.out]
    go_wp2
    go_ret
    exact retB (by rw [hf.out]; rfl) T1.out.low
  | true =>
  have c20 := part2 T1.out.r1 0 _ rfl
  have d20 := part2 T1.out.r2 0 _ rfl
  have c21 := part2 T1.out.r1 1 _ rfl
  have d21 := part2 T1.out.r2 1 _ rfl
  have c22 := part2 T1.out.r1 2 _ rfl
  have d22 := part2 T1.out.r2 2 _ rfl
  have c23 := part2 T1.out.r1 3 _ rfl
  have d23 := part2 T1.out.r2 3 _ rfl
  simp only [Nat.add_zero, Nat.reduceAdd] at c20 d20 c21 d21 c22 d22 c23 d23
  go_wp2_with fail
  refine (Hq2.out _ (HA.out.1.e2.later T1.out.low) (HA.out.2.e2.later T1.out.low)).mono ?_
  rintro e w2 ⟨rfl, hb2⟩
  have T2 := Lib.hid (T1.out.later hb2)
  clear c20 d20 c21 d21 c22 d22 c23 d23
  clear hb2 T1
  cases t2 with
  | false =>
    have hf : Hid (ssameH g h = false) := show ssameH g h = false by simp [ssameH, HT.out]
    go_wp2
    go_ret
    exact retB (by rw [hf.out]; rfl) T2.out.low
  | true =>
  have c30 := part3 T2.out.r1 0 _ rfl
  have d30 := part3 T2.out.r2 0 _ rfl
  have c31 := part3 T2.out.r1 1 _ rfl
  have d31 := part3 T2.out.r2 1 _ rfl
  have c32 := part3 T2.out.r1 2 _ rfl
  have d32 := part3 T2.out.r2 2 _ rfl
  have c33 := part3 T2.out.r1 3 _ rfl
  have d33 := part3 T2.out.r2 3 _ rfl
  simp only [Nat.add_zero, Nat.reduceAdd] at c30 d30 c31 d31 c32 d32 c33 d33
  go_wp2_with fail
  refine (Hq3.out _ (HA.out.1.e3.later T2.out.low) (HA.out.2.e3.later T2.out.low)).mono ?_
  rintro e w3 ⟨rfl, hb3⟩
  have T3 := Lib.hid (T2.out.later hb3)
  clear c30 d30 c31 d31 c32 d32 c33 d33
  clear hb3 T2
  cases t3 with
  | false =>
    have hf : Hid (ssameH g h = false) := show ssameH g h = false by simp [ssameH, HT.out]
    go_wp2
    go_ret
    exact retB (by rw [hf.out]; rfl) T3.out.low
  | true =>
  have c40 := part4 T3.out.r1 0 _ rfl
  have d40 := part4 T3.out.r2 0 _ rfl
  have c41 := part4 T3.out.r1 1 _ rfl
  have d41 := part4 T3.out.r2 1 _ rfl
  have c42 := part4 T3.out.r1 2 _ rfl
  have d42 := part4 T3.out.r2 2 _ rfl
  have c43 := part4 T3.out.r1 3 _ rfl
  have d43 := part4 T3.out.r2 3 _ rfl
  simp only [Nat.add_zero, Nat.reduceAdd] at c40 d40 c41 d41 c42 d42 c43 d43
  go_wp2_with fail
  refine (Hq4.out _ (HA.out.1.e4.later T3.out.low) (HA.out.2.e4.later T3.out.low)).mono ?_
  rintro e w4 ⟨rfl, hb4⟩
  have T4 := Lib.hid (T3.out.later hb4)
  clear c40 d40 c41 d41 c42 d42 c43 d43
  clear hb4 T3
  cases t4 with
  | false =>
    have hf : Hid (ssameH g h = false) := show ssameH g h = false by simp [ssameH, HT.out]
    go_wp2
    go_ret
    exact retB (by rw [hf.out]; rfl) T4.out.low
  | true =>
  have hf0 : Hid (ssameH g h = true) := show ssameH g h = true by simp [ssameH, HT.out, Hks.out]
  have c18 := part5 T4.out.r1
  have d18 := part5 T4.out.r2
  by_cases hL : slen l = slen l'
  case neg =>
    have hf : Hid ((ssameH g h && ssame l l') = false) := show (ssameH g h && ssame l l') = false by rw [ssame_diff hL]; simp
    have g1 : ((slen l : Int) == (slen l' : Int)) = false := int_ne (by omega)
    clear hL
    go_wp2
    go_ret
    exact retB hf.out T4.out.low
  have g1 : ((slen l : Int) == (slen l' : Int)) = true := by rw [beq_iff_eq]; omega
  have g2 : ((slen l : Int) != (slen l' : Int)) = false := by rw [bne, g1]; rfl
  have HL := Lib.hid hL
  have hlx : (slen l : Int) ≤ 10000000 := by have := slen_le l; have := HXY.out.1; omega
  clear hL
  go_wp2
  go_loopw [5] (fun i wr => ∃ (R S : SF) (k : Nat), i = .int .i64 (k : Int) ∧ Hid (k + slen R = slen l ∧ k + slen S = slen l' ∧ snodes R ≤ snodes l ∧ snodes S ≤ snodes l' ∧ SIn w 0 R bb1 (o1 + k * 19) ∧ SIn w 0 S bb2 (o2 + k * 19) ∧ ssame l l' = ssame R S ∧ allSmall R ∧ allSmall S) ∧ Hid (Two w wr w.heap.size g h a1 a2 a3 a4 (.slice ao1 (slen l) cap1) b1 b2 b3 b4 (.slice ao2 (slen l') cap2))) (fun i _ => slen l - (RowKit.intOf i).toNat)
  case atStart => exact ⟨l, l', 0, rfl, ⟨by omega, by have := HL.out; omega, Nat.le_refl _, Nat.le_refl _, by simpa using HI.out.1.2, by simpa using HI.out.2.2, rfl, HS.out.1, HS.out.2⟩, T4⟩
  case round =>
    obtain ⟨R, S, k, rfl, hr, hT⟩ := hrel
    clear c18 d18 T4
    obtain ⟨e1, e2, e3, e4, e5, e6, e7, e8, e9⟩ := hr.out
    have c18 := part5 hT.out.r1
    have d18 := part5 hT.out.r2
    cases R with
    | nil =>
      have hk : ¬ (k : Int) < (slen l : Int) := by simp only [slen] at e1; omega
      have hres : Hid (ssame l l' = true) := show ssame l l' = true by
        rw [e7]
        cases S with
        | nil => rfl
        | node _ _ _ _ _ => simp only [slen] at e1 e2; have := HL.out; omega
      clear e1 e2 e3 e4 e5 e6 e7 e8 e9
      go_wp2
      go_ret
      exact retB (by rw [hf0.out, hres.out]; rfl) hT.out.low
    | node p q h1 l1 r =>
      cases S with
      | nil => simp only [slen] at e1 e2; have := HL.out; omega
      | node p' q' h2' l2 r' =>
      have hlt : (k : Int) < (slen l : Int) := by simp only [slen] at e1; omega
      have hlt2 : (k : Int) < (slen l' : Int) := by simp only [slen] at e2; omega
      have hk0 : (0 : Int) ≤ (k : Int) := by omega
      have hne1 : ¬ l = .nil := by intro e; rw [e] at e1; simp only [slen] at e1; omega
      have hne2 : ¬ l' = .nil := by intro e; rw [e] at e2; simp only [slen] at e2; omega
      obtain rfl : ao1 = some ⟨bb1, o1, Option.none⟩ := HI.out.1.1.resolve_right hne1
      obtain rfl : ao2 = some ⟨bb2, o2, Option.none⟩ := HI.out.2.1.resolve_right hne2
      have hbw := hT.out.low
      obtain ⟨p1, p2, p3, p4, pv, hp, hpl, ra⟩ := (SIn_node.1 (SIn_later hbw _ _ _ e5)).1.range
      obtain ⟨q1, q2, q3, q4, qv, hq, hql, rc⟩ := (SIn_node.1 (SIn_later hbw _ _ _ e6)).1.range
      simp only [snodes] at e3 e4
      have Hl := Lib.hid (Hih.out h1 h2' l1 l2 (by omega) e8.1 e9.1 e8.2.1 e9.2.1 (by have := HXY.out.2; omega))
      rw [ssame_node] at e7
      have He : Hid (k + 1 + slen r = slen l ∧ k + 1 + slen r' = slen l' ∧ snodes r ≤ snodes l ∧ snodes r' ≤ snodes l' ∧ SIn w 0 r bb1 (o1 + (k + 1) * 19) ∧ SIn w 0 r' bb2 (o2 + (k + 1) * 19) ∧ ssame l l' = ((ssameH h1 h2' && ssame l1 l2) && ssame r r') ∧ allSmall r ∧ allSmall r') := ⟨by simp only [slen] at e1; omega, by simp only [slen] at e2; omega, by omega, by omega, by rw [show o1 + (k + 1) * 19 = o1 + k * 19 + 19 by omega]; exact (SIn_node.1 e5).2, by rw [show o2 + (k + 1) * 19 = o2 + k * 19 + 19 by omega]; exact (SIn_node.1 e6).2, e7, e8.2.2, e9.2.2⟩
      have HU : Hid ((HV wr 0 h1 p1 p2 p3 p4 ∧ SV wr 0 l1 pv) ∧ (HV wr 0 h2' q1 q2 q3 q4 ∧ SV wr 0 l2 qv)) := ⟨⟨hp, hpl⟩, ⟨hq, hql⟩⟩
      obtain ⟨A, HA1⟩ : ∃ A, Hid (A = scells h1 p1 p2 p3 p4 pv) := ⟨_, rfl⟩
      obtain ⟨C, HC1⟩ : ∃ C, Hid (C = scells h2' q1 q2 q3 q4 qv) := ⟨_, rfl⟩
      rw [← HA1.out] at ra
      rw [← HC1.out] at rc
      have hiA : (Try.prog.info? 30).map (·.size) = some A.length := by rw [HA1.out]; exact sizeIS
      have hiC : (Try.prog.info? 30).map (·.size) = some C.length := by rw [HC1.out]; exact sizeIS
      obtain ⟨tv, htv⟩ : ∃ tv, (ssameH h1 h2' && ssame l1 l2) = tv := ⟨_, rfl⟩
      have Htv := Lib.hid htv
      clear hr e1 e2 e3 e4 e5 e6 e7 e8 e9 hne1 hne2 hp hpl hq hql htv hbw
      go_wp2_with fail
      refine wp_region_held_drew (S := fun w' => (w'.cell? ⟨w.heap.size, 18, Option.none⟩ = some (.slice (some ⟨bb1, o1, Option.none⟩) (slen l) cap1) ∧ w'.cell? ⟨w.heap.size + 1, 18, Option.none⟩ = some (.slice (some ⟨bb2, o2, Option.none⟩) (slen l') cap2)) ∧ (w'.rangeAt bb1 (o1 + k * 19) A ∧ w'.rangeAt bb2 (o2 + k * 19) C)) (by kernel_rfl) ⟨⟨c18, d18⟩, ⟨(World.rangeAt_drew _ _ _ _).2 ra, (World.rangeAt_drew _ _ _ _).2 rc⟩⟩ (fun hHeld => ?_)
      refine wpAnyH_take (i := 0) (v := .pointer (some ⟨w.heap.size, 18, Option.none⟩)) rfl (by kernel_rfl) (by kernel_rfl) (by kernel_rfl) (fun _ _ _ h => h) (Or.inl ⟨by rfl, ?yz0⟩) hHeld ?_
      case yz0 => intro w hSw; go_simp
      simp only [Act.put, List.getElem_toArray, List.getElem_cons_succ, List.getElem_cons_zero, List.setIfInBounds_toArray, List.set_cons_zero, List.set_cons_succ]
      refine wpAnyH_take (i := 1) (v := .slice (some ⟨bb1, o1, Option.none⟩) (slen l) cap1) rfl (by kernel_rfl) (by kernel_rfl) (by kernel_rfl) (fun _ _ _ h => h) (Or.inl ⟨by rfl, ?yz1⟩) hHeld ?_
      case yz1 => intro w hSw; have q1 := hSw.1.1; clear hSw c18 d18 ra rc hHeld; go_simp
      simp only [Act.put, List.getElem_toArray, List.getElem_cons_succ, List.getElem_cons_zero, List.setIfInBounds_toArray, List.set_cons_zero, List.set_cons_succ]
      refine wpAnyH_take (i := 2) (v := .int .i64 (k : Int)) rfl (by kernel_rfl) (by kernel_rfl) (by kernel_rfl) (fun _ _ _ h => h) (Or.inl ⟨by rfl, ?yz2⟩) hHeld ?_
      case yz2 => intro w hSw; go_simp
      simp only [Act.put, List.getElem_toArray, List.getElem_cons_succ, List.getElem_cons_zero, List.setIfInBounds_toArray, List.set_cons_zero, List.set_cons_succ]
      refine wpAnyH_take (i := 3) (v := .pointer (some ⟨bb1, o1 + k * 19, Option.none⟩)) rfl (by kernel_rfl) (by kernel_rfl) (by kernel_rfl) (fun _ _ _ h => h) (Or.inl ⟨by rfl, ?yz3⟩) hHeld ?_
      case yz3 => intro w hSw; go_simp
      simp only [Act.put, List.getElem_toArray, List.getElem_cons_succ, List.getElem_cons_zero, List.setIfInBounds_toArray, List.set_cons_zero, List.set_cons_succ]
      refine wpAnyH_take (i := 4) (v := .agg (A).toArray) rfl (by kernel_rfl) (by kernel_rfl) (by kernel_rfl) (fun _ _ _ h => h) (yieldsIf_load_mid (by rfl) 30 _ rfl (bb1) (o1 + k * 19) rfl (A) _ (fun w h => h.2.1) Try.underlying30 rfl hiA) hHeld ?_
      simp only [Act.put, List.getElem_toArray, List.getElem_cons_succ, List.getElem_cons_zero, List.setIfInBounds_toArray, List.set_cons_zero, List.set_cons_succ]
      refine wpAnyH_take (i := 5) (v := .pointer (some ⟨w.heap.size + 1, 18, Option.none⟩)) rfl (by kernel_rfl) (by kernel_rfl) (by kernel_rfl) (fun _ _ _ h => h) (Or.inl ⟨by rfl, ?yz5⟩) hHeld ?_
      case yz5 => intro w hSw; go_simp
      simp only [Act.put, List.getElem_toArray, List.getElem_cons_succ, List.getElem_cons_zero, List.setIfInBounds_toArray, List.set_cons_zero, List.set_cons_succ]
      refine wpAnyH_take (i := 6) (v := .slice (some ⟨bb2, o2, Option.none⟩) (slen l') cap2) rfl (by kernel_rfl) (by kernel_rfl) (by kernel_rfl) (fun _ _ _ h => h) (Or.inl ⟨by rfl, ?yz6⟩) hHeld ?_
      case yz6 => intro w hSw; have q1 := hSw.1.2; clear hSw c18 d18 ra rc hHeld; go_simp
      simp only [Act.put, List.getElem_toArray, List.getElem_cons_succ, List.getElem_cons_zero, List.setIfInBounds_toArray, List.set_cons_zero, List.set_cons_succ]
      refine wpAnyH_take (i := 7) (v := .int .i64 (k : Int)) rfl (by kernel_rfl) (by kernel_rfl) (by kernel_rfl) (fun _ _ _ h => h) (Or.inl ⟨by rfl, ?yz7⟩) hHeld ?_
      case yz7 => intro w hSw; go_simp
      simp only [Act.put, List.getElem_toArray, List.getElem_cons_succ, List.getElem_cons_zero, List.setIfInBounds_toArray, List.set_cons_zero, List.set_cons_succ]
      refine wpAnyH_take (i := 8) (v := .pointer (some ⟨bb2, o2 + k * 19, Option.none⟩)) rfl (by kernel_rfl) (by kernel_rfl) (by kernel_rfl) (fun _ _ _ h => h) (Or.inl ⟨by rfl, ?yz8⟩) hHeld ?_
      case yz8 => intro w hSw; go_simp
      simp only [Act.put, List.getElem_toArray, List.getElem_cons_succ, List.getElem_cons_zero, List.setIfInBounds_toArray, List.set_cons_zero, List.set_cons_succ]
      refine wpAnyH_take (i := 9) (v := .agg (C).toArray) rfl (by kernel_rfl) (by kernel_rfl) (by kernel_rfl) (fun _ _ _ h => h) (yieldsIf_load_mid (by rfl) 30 _ rfl (bb2) (o2 + k * 19) rfl (C) _ (fun w h => h.2.2) Try.underlying30 rfl hiC) hHeld ?_
      simp only [Act.put, List.getElem_toArray, List.getElem_cons_succ, List.getElem_cons_zero, List.setIfInBounds_toArray, List.set_cons_zero, List.set_cons_succ]
      have HQ : Hid (Calls Try.prog 21 #[.agg A.toArray, .agg C.toArray] wr.drew fun e w' => e = .returned (.bool tv) ∧ Below wr.drew.heap.size wr.drew w') := by
        have hq := Hl.out wr.drew p1 p2 p3 p4 pv q1 q2 q3 q4 qv HU.out.1.1.drew HU.out.2.1.drew HU.out.1.2.drew HU.out.2.2.drew
        rw [Htv.out, ← HA1.out, ← HC1.out] at hq
        exact hq
      refine wpAnyH_ready (rs := [10]) (by kernel_rfl) (by simp) ?_
      refine AllReadyH.cons rfl (fun K hK => ?_) AllReadyH.nil
      rw [if_pos (by rfl)]
      simp only [List.getElem_toArray, List.getElem_cons_succ, List.getElem_cons_zero]
      go_wp2_with fail
      refine (HQ.out).mono ?_
      rintro e w1 ⟨rfl, hb1⟩
      go_wp2_with fail
      refine hK.out _ _ (⟨⟨keeps hb1 hHeld.1.1, keeps hb1 hHeld.1.2⟩, ⟨rangeAt_later hHeld.2.1 hb1, rangeAt_later hHeld.2.2 hb1⟩⟩) (fun hHeld => ?_)
      refine wpAnyH_take (i := 11) (v := .bool (!tv)) rfl (by kernel_rfl) (by kernel_rfl) (by kernel_rfl) (fun _ _ _ h => h) (Or.inl ⟨by rfl, ?yz11⟩) hHeld ?_
      case yz11 => intro w hSw; go_simp
      simp only [Act.put, List.getElem_toArray, List.getElem_cons_succ, List.getElem_cons_zero, List.setIfInBounds_toArray, List.set_cons_zero, List.set_cons_succ]
      refine wpAnyH_done (by kernel_rfl) ?_ _
      have bd : Below wr.heap.size wr wr.drew := (Below.refl _ wr).drew
      have hT2 := Lib.hid ((hT.out.later bd).later hb1)
      clear hHeld bd hb1 ra rc hiA hiC c18 d18 hT HQ
      cases tv with
      | false =>
        have hres : Hid (ssame l l' = false) := show ssame l l' = false by rw [He.out.2.2.2.2.2.2.1, Htv.out]; rfl
        go_wp2
        go_ret
        exact retB (by rw [hf0.out, hres.out]; rfl) hT2.out.low
      | true =>
        go_wp2
        go_roundw
        case rel =>
          obtain ⟨g1, g2, g3, g4, g5, g6, g7, g8, g9⟩ := He.out
          exact ⟨r, r', k + 1, by go_num, ⟨g1, g2, g3, g4, g5, g6, by rw [g7, Htv.out, Bool.true_and], g8, g9⟩, hT2⟩
        case measure => simp [RowKit.intOf]; omega
theorem spec_SameStmt_all : ∀ (n : Nat) (g h : SH) (l l' : SF), snodes l < n → small g → small h → allSmall l → allSmall l' → snodes l ≤ 10000000 → snodes l' ≤ 10000000 → ∀ (w : World) (a1 a2 a3 a4 a b1 b2 b3 b4 b : Value), HV w 0 g a1 a2 a3 a4 → HV w 0 h b1 b2 b3 b4 → SV w 0 l a → SV w 0 l' b → Calls Try.prog 21 #[.agg (scells g a1 a2 a3 a4 a).toArray, .agg (scells h b1 b2 b3 b4 b).toArray] w fun e w' => e = .returned (.bool (ssameH g h && ssame l l')) ∧ Below w.heap.size w w'
  | 0, _, _, _, _, h, _, _, _, _, _, _, _, _, _, _, _, _, _, _, _, _, _, _, _, _, _ => absurd h (by omega)
  | n + 1, g, h, l, l', hn, k1, k2, k3, k4, hx, hy, w, a1, a2, a3, a4, a, b1, b2, b3, b4, b, ha, hb, hal, hbl => spec_SameStmt_step g h l l' k1 k2 k3 k4 hx hy (fun g h l1 l2 c1 c2 c3 c4 c5 c6 w a1 a2 a3 a4 a b1 b2 b3 b4 b d1 d2 d3 d4 => spec_SameStmt_all n g h l1 l2 (by omega) c2 c3 c4 c5 (by omega) c6 w a1 a2 a3 a4 a b1 b2 b3 b4 b d1 d2 d3 d4) w a1 a2 a3 a4 a b1 b2 b3 b4 b ha hb hal hbl
theorem spec_SameStmt (g h : SH) (l l' : SF) (k1 : small g) (k2 : small h) (k3 : allSmall l) (k4 : allSmall l') (hx : snodes l ≤ 10000000) (hy : snodes l' ≤ 10000000) (w : World) (a1 a2 a3 a4 a b1 b2 b3 b4 b : Value) (ha : HV w 0 g a1 a2 a3 a4) (hb : HV w 0 h b1 b2 b3 b4) (hal : SV w 0 l a) (hbl : SV w 0 l' b) :
    Calls Try.prog 21 #[.agg (scells g a1 a2 a3 a4 a).toArray, .agg (scells h b1 b2 b3 b4 b).toArray] w fun e w' => e = .returned (.bool (ssameH g h && ssame l l')) ∧ Below w.heap.size w w' :=
  spec_SameStmt_all _ g h l l' (Nat.lt_succ_self _) k1 k2 k3 k4 hx hy w a1 a2 a3 a4 a b1 b2 b3 b4 b ha hb hal hbl
end Go.Proofs.Ytlepidbgebfglaa
