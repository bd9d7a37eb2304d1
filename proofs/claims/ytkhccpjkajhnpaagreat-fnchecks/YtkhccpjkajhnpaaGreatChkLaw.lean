/-
  The walk of laws.FnChecks.
-/
import Derived.Test.YtkhccpjkajhnpaaGreatP08ofFnChecks
import Derived.Test.YtkhccpjkajhnpaaGreatP10ofFnChecks
import Derived.Test.YtkhccpjkajhnpaaGreatP22ofFnChecks
namespace Go.Proofs.YtkhccpjkajhnpaaGreat
open Go.RowKit Go.Lib
set_option linter.unusedSimpArgs false
set_option linter.unusedVariables false

theorem limP_le : limP ≤ 10000 := by decide
/-- No name that is set is a loop's or an array's. -/
theorem prog_apart {ts : List AR} {F : SF} (h : progB ts F = true) : ∀ s ∈ nmS 1 F [], s ∉ nmS 3 F [] ∧ ¬ 0 ≤ arrGo ts 0 s := by
  unfold progB namesB at h
  simp only [Bool.and_eq_true] at h
  intro s hs
  refine ⟨(apart_iff _ _).1 h.2.2.2.2.2.2.1 s hs, fun h0 => ?_⟩
  exact (apart_iff _ _).1 h.2.2.2.1 s ((arrGo_mem ts 0 s).1 h0) hs
theorem snodes_sz : ∀ F : SF, snodes F ≤ ssize F
  | .nil => Nat.zero_le _
  | .node _ _ h l r => by have := snodes_sz l; have := snodes_sz r; simp only [snodes, ssize]; omega
set_option maxHeartbeats 4000000 in
set_option maxRecDepth 100000 in
theorem checks_walk (a : Option Addr) (len cap : Nat) (w : World) (hC : CodeIs w.heap.size w a len) :
    Calls Tryz.prog 3 #[.slice a len cap] w fun e w' => e = .returned (.bool true) ∧ Below w.heap.size w w' := by
  have HC := Lib.hid hC
  clear hC
  go_enter Tryz.func3, Tryz.ntmps3
  go_wp2_with fail
  refine (big_is a len cap _).mono ?_
  rintro e w0 ⟨rfl, rfl⟩
  by_cases hbig : (1048576 : Int) < (len : Int)
  · have hb1 : decide ((1048576 : Int) < (len : Int)) = true := decide_eq_true hbig
    rw [hb1]
    go_wp2
    go_ret
    exact ⟨rfl, Below.refl _ _⟩
  have hb1 : decide ((1048576 : Int) < (len : Int)) = false := decide_eq_false hbig
  rw [hb1]
  have hlen : len ≤ 281474976710656 := by omega
  clear hb1 hbig
  go_wp2_with fail
  refine (DrawProgOk_is a len cap _ hlen HC.out).mono ?_
  rintro e w1 ⟨ts, F, va, vb, rfl, g1, hb1⟩
  obtain ⟨pa, pc, rfl⟩ := g1.av.shape
  obtain ⟨qa, qc, rfl⟩ := g1.sv.shape
  have b1 := alloc_below w1 (.cells #[.slice pa ts.length pc, .slice qa (slen F) qc] 27)
  have r1 := new_rangeS w1 #[.slice pa ts.length pc, .slice qa (slen F) qc] 27
  have B1 := Lib.hid (hb1.trans (b1.mono hb1.size))
  have K1 := Lib.hid (And.intro (g1.later b1) r1)
  clear g1 hb1 b1 r1
  go_wp2_with fail
  refine (DrawArrAt_is a len cap _ hlen ((HC.out.later B1.out).mono B1.out.size)).mono ?_
  rintro e w2 ⟨us, G, vc, vd, nm, rfl, g2, hnm, hb2⟩
  obtain ⟨ra, rc, rfl⟩ := g2.av.shape
  obtain ⟨sa, sc, rfl⟩ := g2.sv.shape
  have b2 := alloc_below w2 (.cells #[.slice ra us.length rc, .slice sa (slen G) sc] 27)
  have r2 := new_rangeS w2 #[.slice ra us.length rc, .slice sa (slen G) sc] 27
  have b12 := hb2.trans (b2.mono hb2.size)
  have B2 := Lib.hid (B1.out.trans (b12.mono B1.out.size))
  have K2 := Lib.hid (And.intro (And.intro (K1.out.1.later b12) (rangeAt_later K1.out.2 b12)) (And.intro (g2.later b2) r2))
  obtain ⟨n1, hn1⟩ : ∃ n, Hid (w1.heap.size = n) := ⟨_, rfl⟩
  obtain ⟨n2, hn2⟩ : ∃ n, Hid (w2.heap.size = n) := ⟨_, rfl⟩
  clear g2 hb2 b2 r2 b12 K1 B1
  have lF : ssize F ≤ 10000 := Nat.le_trans K2.out.1.1.lim limP_le
  have lG : ssize G ≤ 10000 := Nat.le_trans K2.out.2.1.lim limP_le
  have nF : snodes F ≤ 10000000 := by have := snodes_sz F; omega
  have eF : (sallE F).length ≤ 10000000 := by have := sallE_len F; omega
  have hns : ∀ n ∈ sall F, n.1.s.size ≤ 10000000 := fun n hn => Nat.le_trans (sall_small F n hn) (by omega)
  have hne : ∀ n ∈ sallE F, n.1.s.size ≤ 10000000 := fun n hn => Nat.le_trans (sallE_small F n hn) (by omega)
  have qv := K2.out.1.2 1 _ rfl
  obtain ⟨ns1, N1⟩ : ∃ ns, Hid (nmS 1 F [] = ns) := ⟨_, rfl⟩
  obtain ⟨ns3, N3⟩ : ∃ ns, Hid (nmS 3 F [] = ns) := ⟨_, rfl⟩
  obtain ⟨ns2, N2⟩ : ∃ ns, Hid (nmA 2 F [] = ns) := ⟨_, rfl⟩
  have C3 := Lib.hid (impl_VarsOf F nF hns _ _ K2.out.1.1.sv.low)
  rw [N1.out] at C3
  simp only [List.toList_toArray, Nat.zero_add] at qv
  go_wp2_with fail
  refine C3.out.mono ?_
  rintro e w3 ⟨v3, rfl, hv3, hb3⟩
  obtain ⟨xa, xc, rfl⟩ := ownShape hv3
  have B3 := Lib.hid (B2.out.trans (hb3.mono B2.out.size))
  have K3 := Lib.hid (And.intro (And.intro (K2.out.1.1.later hb3) (rangeAt_later K2.out.1.2 hb3)) (And.intro (K2.out.2.1.later hb3) (rangeAt_later K2.out.2.2 hb3)))
  have T3 := Lib.hid (TV.of hv3).low
  clear hv3 hb3 C3 K2 B2 qv
  have qv := K3.out.1.2 1 _ rfl
  simp only [List.toList_toArray, Nat.zero_add] at qv
  have C4 := Lib.hid (impl_LoopVars F nF hns _ _ K3.out.1.1.sv.low)
  rw [N3.out] at C4
  go_wp2_with fail
  refine C4.out.mono ?_
  rintro e w4 ⟨v4, rfl, hv4, hb4⟩
  obtain ⟨ya, yc, rfl⟩ := ownShape hv4
  have B4 := Lib.hid (B3.out.trans (hb4.mono B3.out.size))
  have K4 := Lib.hid (And.intro (And.intro (K3.out.1.1.later hb4) (rangeAt_later K3.out.1.2 hb4)) (And.intro (K3.out.2.1.later hb4) (rangeAt_later K3.out.2.2 hb4)))
  have T4 := Lib.hid (And.intro (T3.out.later hb4) (TV.of hv4).low)
  clear hv4 hb4 C4 K3 B3 T3 qv
  have qv := K4.out.1.2 1 _ rfl
  simp only [List.toList_toArray, Nat.zero_add] at qv
  have C5 := Lib.hid (impl_AskedE F nF eF hne _ _ K4.out.1.1.sv.low)
  rw [N2.out] at C5
  go_wp2_with fail
  refine C5.out.mono ?_
  rintro e w5 ⟨v5, rfl, hv5, hb5⟩
  obtain ⟨za, zc, rfl⟩ := ownShape hv5
  have B5 := Lib.hid (B4.out.trans (hb5.mono B4.out.size))
  have P5 := Lib.hid (K4.out.1.1.later hb5)
  have Q5 := Lib.hid (K4.out.2.1.later hb5)
  have T5 := Lib.hid (And.intro (T4.out.1.later hb5) (And.intro (T4.out.2.later hb5) (TV.of hv5).low))
  have R1 : Hid (w5.rangeAt n1 0 [.slice pa ts.length pc, .slice qa (slen F) qc]) := Lib.hid (by rw [← hn1.out]; exact rangeAt_later K4.out.1.2 hb5)
  have R2 : Hid (w5.rangeAt n2 0 [.slice ra us.length rc, .slice sa (slen G) sc]) := Lib.hid (by rw [← hn2.out]; exact rangeAt_later K4.out.2.2 hb5)
  clear hv5 hb5 C5 K4 B4 T4 qv
  obtain ⟨t1, ht1⟩ : ∃ t, Hid (progB ts F = t) := ⟨_, rfl⟩
  obtain ⟨ar, har⟩ : ∃ t, Hid (arrGo us 0 nm = t) := ⟨_, rfl⟩
  have tn : ts.length ≤ 1048576 := by have := P5.out.l3; omega
  have tt : ∀ t ∈ ts, t.s.size ≤ 1048576 := fun t h => by have := P5.out.s3 t h; omega
  have un : us.length ≤ 1048576 := by have := Q5.out.l3; omega
  have l1 : ns1.length ≤ 10000000 := by rw [← N1.out]; exact Nat.le_trans (nmS_len 1 F []) (by simp only [List.length_nil]; omega)
  have l3 : ns3.length ≤ 10000000 := by rw [← N3.out]; exact Nat.le_trans (nmS_len 3 F []) (by simp only [List.length_nil]; omega)
  have l2 : ns2.length ≤ 10000000 := by rw [← N2.out]; exact Nat.le_trans (nmA_lenE 2 F []) (by simp only [List.length_nil]; omega)
  have A1 : Hid (Asc ns1) := Lib.hid (by rw [← N1.out]; exact (nmS_names 1 F [] List.Pairwise.nil).1)
  have A3 : Hid (Asc ns3) := Lib.hid (by rw [← N3.out]; exact (nmS_names 3 F [] List.Pairwise.nil).1)
  have A2 : Hid (Asc ns2) := Lib.hid (by rw [← N2.out]; exact (nmA_names 2 F [] List.Pairwise.nil).1)
  have J1 : Hid (∀ W, Below w5.heap.size w5 W → Calls Tryz.prog 10 #[.agg #[.slice pa ts.length pc, .slice qa (slen F) qc]] W fun e w' => e = .returned (.bool t1) ∧ Below W.heap.size W w') := Lib.hid fun W hW => by rw [← ht1.out]; exact impl_ProgOk ts tn tt F (by omega) _ _ W (P5.out.av.low.later hW) (P5.out.sv.low.later hW)
  have J2 : Hid (∀ W, Below w5.heap.size w5 W → Calls Tryz.prog 11 #[.agg #[.slice pa ts.length pc, .slice qa (slen F) qc]] W fun e w' => e = .returned (.bool t1) ∧ Below W.heap.size W w') := Lib.hid fun W hW => by rw [← ht1.out]; exact spec_ProgOk ts tn tt F (by omega) eF _ _ W (P5.out.av.low.later hW) (P5.out.sv.low.later hW)
  have J3 : Hid (∀ W, Below w5.heap.size w5 W → Calls Tryz.prog 12 #[.agg #[.slice ra us.length rc, .slice sa (slen G) sc], .string nm] W fun e w' => e = .returned (.int .i64 ar) ∧ Below W.heap.size W w') := Lib.hid fun W hW => by rw [← har.out]; exact impl_ArrAt us un nm _ _ rfl W (Q5.out.av.low.later hW)
  have J4 : Hid (∀ W, Below w5.heap.size w5 W → Calls Tryz.prog 13 #[.agg #[.slice ra us.length rc, .slice sa (slen G) sc], .string nm] W fun e w' => e = .returned (.int .i64 ar) ∧ Below W.heap.size W w') := Lib.hid fun W hW => by rw [← har.out]; exact spec_ArrAt us un nm _ _ rfl W (Q5.out.av.low.later hW)
  have J5 : Hid (∀ W, Below w5.heap.size w5 W → Calls Tryz.prog 15 #[.slice qa (slen F) qc] W (SpecNames W ns1)) := Lib.hid fun W hW => by rw [← N1.out]; exact spec_VarsOf F nF W _ (P5.out.sv.low.later hW)
  have J6 : Hid (∀ W, Below w5.heap.size w5 W → Calls Tryz.prog 16 #[.slice qa (slen F) qc] W (SpecNames W ns3)) := Lib.hid fun W hW => by rw [← N3.out]; exact spec_LoopVars F nF W _ (P5.out.sv.low.later hW)
  have J7 : Hid (∀ W, Below w5.heap.size w5 W → Calls Tryz.prog 17 #[.slice qa (slen F) qc] W (SpecNames W ns2)) := Lib.hid fun W hW => by rw [← N2.out]; exact spec_AskedE F eF nF W _ (P5.out.sv.low.later hW)
  have S1 : Hid (∀ W u, Below w5.heap.size w5 W → TV W 0 u ns1 → Calls Tryz.prog 14 #[.slice xa ns1.length xc, u] W fun e w' => e = .returned (.bool true) ∧ Below W.heap.size W w') := Lib.hid fun W u hW hu => sameTexts_is ns1 l1 _ _ W (T5.out.1.later hW) hu
  have S3 : Hid (∀ W u, Below w5.heap.size w5 W → TV W 0 u ns3 → Calls Tryz.prog 14 #[.slice ya ns3.length yc, u] W fun e w' => e = .returned (.bool true) ∧ Below W.heap.size W w') := Lib.hid fun W u hW hu => sameTexts_is ns3 l3 _ _ W (T5.out.2.1.later hW) hu
  have S2 : Hid (∀ W u, Below w5.heap.size w5 W → TV W 0 u ns2 → Calls Tryz.prog 14 #[.slice za ns2.length zc, u] W fun e w' => e = .returned (.bool true) ∧ Below W.heap.size W w') := Lib.hid fun W u hW hu => sameTexts_is ns2 l2 _ _ W (T5.out.2.2.later hW) hu
  have U1 : Hid (∀ W, Below w5.heap.size w5 W → Calls Tryz.prog 18 #[.slice xa ns1.length xc] W fun e w' => e = .returned (.bool true) ∧ Below W.heap.size W w') := Lib.hid fun W hW => ascending_law ns1 l1 A1.out _ W (T5.out.1.later hW)
  have U3 : Hid (∀ W, Below w5.heap.size w5 W → Calls Tryz.prog 18 #[.slice ya ns3.length yc] W fun e w' => e = .returned (.bool true) ∧ Below W.heap.size W w') := Lib.hid fun W hW => ascending_law ns3 l3 A3.out _ W (T5.out.2.1.later hW)
  have U2 : Hid (∀ W, Below w5.heap.size w5 W → Calls Tryz.prog 18 #[.slice za ns2.length zc] W fun e w' => e = .returned (.bool true) ∧ Below W.heap.size W w') := Lib.hid fun W hW => ascending_law ns2 l2 A2.out _ W (T5.out.2.2.later hW)
  have H1 : Hid (t1 = true → ∀ s ∈ ns1, ∀ W, Below w5.heap.size w5 W → Calls Tryz.prog 19 #[.slice ya ns3.length yc, .string s] W fun e w' => e = .returned (.bool false) ∧ W = w') := Lib.hid fun ht s hs W hW => hasText_no ns3 l3 s (by rw [← N3.out]; rw [← N1.out] at hs; exact (prog_apart (ht1.out.trans ht) s hs).1) _ W (T5.out.2.1.later hW)
  have H2 : Hid (t1 = true → ∀ s ∈ ns1, ∃ z : Int, ¬ 0 ≤ z ∧ ∀ W, Below w5.heap.size w5 W → Calls Tryz.prog 12 #[.agg #[.slice pa ts.length pc, .slice qa (slen F) qc], .string s] W fun e w' => e = .returned (.int .i64 z) ∧ Below W.heap.size W w') := Lib.hid fun ht s hs => ⟨arrGo ts 0 s, by rw [← N1.out] at hs; exact (prog_apart (ht1.out.trans ht) s hs).2, fun W hW => impl_ArrAt ts tn s _ _ rfl W (P5.out.av.low.later hW)⟩
  have TT := Lib.hid T5.out.1
  have z1 : (t1 != t1) = false := by simp
  have z2 : (ar != ar) = false := by simp
  clear ht1 har tt tn un P5 Q5 T5 A1 A2 A3 N1 N2 N3 hns hne nF eF lF lG HC hnm
  go_wp2_with fail
  rw [hn1.out, hn2.out]
  clear hn1 hn2
  have bd : Below w5.heap.size w5 w5.drew := (Below.refl _ w5).drew
  refine wp_region_held_drew (S := Below w5.heap.size w5) (by kernel_rfl) bd (fun hHeld => ?_)
  refine wpAnyH_take (i := 0) (v := .agg #[.slice pa ts.length pc, .slice qa (slen F) qc]) rfl (by kernel_rfl) (by kernel_rfl) (by kernel_rfl) (fun _ _ _ h => h) (yieldsIf_load_mid (by rfl) 27 _ rfl (n1) (0) rfl [.slice pa ts.length pc, .slice qa (slen F) qc] _ (fun w h => rangeAt_later R1.out h) Tryz.underlying27 rfl sizePg) hHeld ?_
  simp only [Act.put, List.getElem_toArray, List.getElem_cons_succ, List.getElem_cons_zero, List.setIfInBounds_toArray, List.set_cons_zero, List.set_cons_succ]
  refine wpAnyH_take (i := 2) (v := .agg #[.slice pa ts.length pc, .slice qa (slen F) qc]) rfl (by kernel_rfl) (by kernel_rfl) (by kernel_rfl) (fun _ _ _ h => h) (yieldsIf_load_mid (by rfl) 27 _ rfl (n1) (0) rfl [.slice pa ts.length pc, .slice qa (slen F) qc] _ (fun w h => rangeAt_later R1.out h) Tryz.underlying27 rfl sizePg) hHeld ?_
  simp only [Act.put, List.getElem_toArray, List.getElem_cons_succ, List.getElem_cons_zero, List.setIfInBounds_toArray, List.set_cons_zero, List.set_cons_succ]
  refine wpAnyH_ready (rs := [1]) (by kernel_rfl) (by simp) ?_
  refine AllReadyH.cons rfl (fun K hK => ?_) AllReadyH.nil
  rw [if_pos (by rfl)]
  simp only [List.getElem_toArray, List.getElem_cons_succ, List.getElem_cons_zero]
  go_wp2_with fail
  refine (J1.out _ hHeld).mono ?_
  rintro e w11 ⟨rfl, hb11⟩
  go_wp2_with fail
  refine hK.out _ _ (hHeld.trans (hb11.mono hHeld.size)) (fun hHeld => ?_)
  try simp only [Act.put, List.getElem_toArray, List.getElem_cons_succ, List.getElem_cons_zero, List.setIfInBounds_toArray, List.set_cons_zero, List.set_cons_succ]
  refine wpAnyH_ready (rs := [3]) (by kernel_rfl) (by simp) ?_
  refine AllReadyH.cons rfl (fun K hK => ?_) AllReadyH.nil
  rw [if_pos (by rfl)]
  simp only [List.getElem_toArray, List.getElem_cons_succ, List.getElem_cons_zero]
  go_wp2_with fail
  refine (J2.out _ hHeld).mono ?_
  rintro e w12 ⟨rfl, hb12⟩
  go_wp2_with fail
  refine hK.out _ _ (hHeld.trans (hb12.mono hHeld.size)) (fun hHeld => ?_)
  try simp only [Act.put, List.getElem_toArray, List.getElem_cons_succ, List.getElem_cons_zero, List.setIfInBounds_toArray, List.set_cons_zero, List.set_cons_succ]
  refine wpAnyH_take (i := 4) (v := .bool false) rfl (by kernel_rfl) (by kernel_rfl) (by kernel_rfl) (fun _ _ _ h => h) (Or.inl ⟨by rfl, ?yk4⟩) hHeld ?_
  case yk4 => intro w hSw; go_simp
  simp only [Act.put, List.getElem_toArray, List.getElem_cons_succ, List.getElem_cons_zero, List.setIfInBounds_toArray, List.set_cons_zero, List.set_cons_succ]
  refine wpAnyH_take (i := 5) (v := .bool false) rfl (by kernel_rfl) (by kernel_rfl) (by kernel_rfl) (fun _ _ _ h => h) (Or.inl ⟨by rfl, ?yk5⟩) hHeld ?_
  case yk5 => intro w hSw; go_simp
  simp only [Act.put, List.getElem_toArray, List.getElem_cons_succ, List.getElem_cons_zero, List.setIfInBounds_toArray, List.set_cons_zero, List.set_cons_succ]
  refine wpAnyH_take (i := 6) (v := .agg #[.slice ra us.length rc, .slice sa (slen G) sc]) rfl (by kernel_rfl) (by kernel_rfl) (by kernel_rfl) (fun _ _ _ h => h) (yieldsIf_load_mid (by rfl) 27 _ rfl (n2) (0) rfl [.slice ra us.length rc, .slice sa (slen G) sc] _ (fun w h => rangeAt_later R2.out h) Tryz.underlying27 rfl sizePg) hHeld ?_
  simp only [Act.put, List.getElem_toArray, List.getElem_cons_succ, List.getElem_cons_zero, List.setIfInBounds_toArray, List.set_cons_zero, List.set_cons_succ]
  refine wpAnyH_take (i := 7) (v := .string nm) rfl (by kernel_rfl) (by kernel_rfl) (by kernel_rfl) (fun _ _ _ h => h) (Or.inl ⟨by rfl, ?yk7⟩) hHeld ?_
  case yk7 => intro w hSw; go_simp
  simp only [Act.put, List.getElem_toArray, List.getElem_cons_succ, List.getElem_cons_zero, List.setIfInBounds_toArray, List.set_cons_zero, List.set_cons_succ]
  refine wpAnyH_take (i := 9) (v := .agg #[.slice ra us.length rc, .slice sa (slen G) sc]) rfl (by kernel_rfl) (by kernel_rfl) (by kernel_rfl) (fun _ _ _ h => h) (yieldsIf_load_mid (by rfl) 27 _ rfl (n2) (0) rfl [.slice ra us.length rc, .slice sa (slen G) sc] _ (fun w h => rangeAt_later R2.out h) Tryz.underlying27 rfl sizePg) hHeld ?_
  simp only [Act.put, List.getElem_toArray, List.getElem_cons_succ, List.getElem_cons_zero, List.setIfInBounds_toArray, List.set_cons_zero, List.set_cons_succ]
  refine wpAnyH_take (i := 10) (v := .string nm) rfl (by kernel_rfl) (by kernel_rfl) (by kernel_rfl) (fun _ _ _ h => h) (Or.inl ⟨by rfl, ?yk10⟩) hHeld ?_
  case yk10 => intro w hSw; go_simp
  simp only [Act.put, List.getElem_toArray, List.getElem_cons_succ, List.getElem_cons_zero, List.setIfInBounds_toArray, List.set_cons_zero, List.set_cons_succ]
  refine wpAnyH_ready (rs := [8]) (by kernel_rfl) (by simp) ?_
  refine AllReadyH.cons rfl (fun K hK => ?_) AllReadyH.nil
  rw [if_pos (by rfl)]
  simp only [List.getElem_toArray, List.getElem_cons_succ, List.getElem_cons_zero]
  go_wp2_with fail
  refine (J3.out _ hHeld).mono ?_
  rintro e w13 ⟨rfl, hb13⟩
  go_wp2_with fail
  refine hK.out _ _ (hHeld.trans (hb13.mono hHeld.size)) (fun hHeld => ?_)
  try simp only [Act.put, List.getElem_toArray, List.getElem_cons_succ, List.getElem_cons_zero, List.setIfInBounds_toArray, List.set_cons_zero, List.set_cons_succ]
  refine wpAnyH_ready (rs := [11]) (by kernel_rfl) (by simp) ?_
  refine AllReadyH.cons rfl (fun K hK => ?_) AllReadyH.nil
  rw [if_pos (by rfl)]
  simp only [List.getElem_toArray, List.getElem_cons_succ, List.getElem_cons_zero]
  go_wp2_with fail
  refine (J4.out _ hHeld).mono ?_
  rintro e w14 ⟨rfl, hb14⟩
  go_wp2_with fail
  refine hK.out _ _ (hHeld.trans (hb14.mono hHeld.size)) (fun hHeld => ?_)
  try simp only [Act.put, List.getElem_toArray, List.getElem_cons_succ, List.getElem_cons_zero, List.setIfInBounds_toArray, List.set_cons_zero, List.set_cons_succ]
  refine wpAnyH_take (i := 12) (v := .bool false) rfl (by kernel_rfl) (by kernel_rfl) (by kernel_rfl) (fun _ _ _ h => h) (Or.inl ⟨by rfl, ?yk12⟩) hHeld ?_
  case yk12 => intro w hSw; go_simp
  simp only [Act.put, List.getElem_toArray, List.getElem_cons_succ, List.getElem_cons_zero, List.setIfInBounds_toArray, List.set_cons_zero, List.set_cons_succ]
  refine wpAnyH_take (i := 13) (v := .bool false) rfl (by kernel_rfl) (by kernel_rfl) (by kernel_rfl) (fun _ _ _ h => h) (Or.inl ⟨by rfl, ?yk13⟩) hHeld ?_
  case yk13 => intro w hSw; go_simp
  simp only [Act.put, List.getElem_toArray, List.getElem_cons_succ, List.getElem_cons_zero, List.setIfInBounds_toArray, List.set_cons_zero, List.set_cons_succ]
  refine wpAnyH_take (i := 14) (v := .bool false) rfl (by kernel_rfl) (by kernel_rfl) (by kernel_rfl) (fun _ _ _ h => h) (Or.inl ⟨by rfl, ?yk14⟩) hHeld ?_
  case yk14 => intro w hSw; go_simp
  simp only [Act.put, List.getElem_toArray, List.getElem_cons_succ, List.getElem_cons_zero, List.setIfInBounds_toArray, List.set_cons_zero, List.set_cons_succ]
  refine wpAnyH_take (i := 15) (v := .slice xa ns1.length xc) rfl (by kernel_rfl) (by kernel_rfl) (by kernel_rfl) (fun _ _ _ h => h) (Or.inl ⟨by rfl, ?yk15⟩) hHeld ?_
  case yk15 => intro w hSw; go_simp
  simp only [Act.put, List.getElem_toArray, List.getElem_cons_succ, List.getElem_cons_zero, List.setIfInBounds_toArray, List.set_cons_zero, List.set_cons_succ]
  refine wpAnyH_take (i := 16) (v := .pointer (some ⟨n1, 1, Option.none⟩)) rfl (by kernel_rfl) (by kernel_rfl) (by kernel_rfl) (fun _ _ _ h => h) (Or.inl ⟨by rfl, ?yk16⟩) hHeld ?_
  case yk16 => intro w hSw; go_simp
  simp only [Act.put, List.getElem_toArray, List.getElem_cons_succ, List.getElem_cons_zero, List.setIfInBounds_toArray, List.set_cons_zero, List.set_cons_succ]
  refine wpAnyH_take (i := 17) (v := .slice qa (slen F) qc) rfl (by kernel_rfl) (by kernel_rfl) (by kernel_rfl) (fun _ _ _ h => h) (Or.inl ⟨by rfl, ?yk17⟩) hHeld ?_
  case yk17 => intro w hSw; have q : _ = _ := rangeAt_later R1.out hSw 1 _ rfl; simp only [Nat.zero_add] at q; go_simp
  simp only [Act.put, List.getElem_toArray, List.getElem_cons_succ, List.getElem_cons_zero, List.setIfInBounds_toArray, List.set_cons_zero, List.set_cons_succ]
  refine wpAnyH_ready (rs := [18]) (by kernel_rfl) (by simp) ?_
  refine AllReadyH.cons rfl (fun K hK => ?_) AllReadyH.nil
  rw [if_pos (by rfl)]
  simp only [List.getElem_toArray, List.getElem_cons_succ, List.getElem_cons_zero]
  go_wp2_with fail
  refine (J5.out _ hHeld).mono ?_
  rintro e w15 ⟨u5, rfl, huu5, hb15⟩
  go_wp2_with fail
  refine hK.out _ _ (hHeld.trans (hb15.mono hHeld.size)) (fun hHeld => ?_)
  try simp only [Act.put, List.getElem_toArray, List.getElem_cons_succ, List.getElem_cons_zero, List.setIfInBounds_toArray, List.set_cons_zero, List.set_cons_succ]
  refine wpAnyH_ready (rs := [19]) (by kernel_rfl) (by simp) ?_
  refine AllReadyH.cons rfl (fun K hK => ?_) AllReadyH.nil
  rw [if_pos (by rfl)]
  simp only [List.getElem_toArray, List.getElem_cons_succ, List.getElem_cons_zero]
  go_wp2_with fail
  refine (S1.out _ u5 hHeld huu5).mono ?_
  rintro e w16 ⟨rfl, hb16⟩
  go_wp2_with fail
  refine hK.out _ _ (hHeld.trans (hb16.mono hHeld.size)) (fun hHeld => ?_)
  try simp only [Act.put, List.getElem_toArray, List.getElem_cons_succ, List.getElem_cons_zero, List.setIfInBounds_toArray, List.set_cons_zero, List.set_cons_succ]
  refine wpAnyH_take (i := 20) (v := .bool false) rfl (by kernel_rfl) (by kernel_rfl) (by kernel_rfl) (fun _ _ _ h => h) (Or.inl ⟨by rfl, ?yk20⟩) hHeld ?_
  case yk20 => intro w hSw; go_simp
  simp only [Act.put, List.getElem_toArray, List.getElem_cons_succ, List.getElem_cons_zero, List.setIfInBounds_toArray, List.set_cons_zero, List.set_cons_succ]
  refine wpAnyH_take (i := 21) (v := .bool false) rfl (by kernel_rfl) (by kernel_rfl) (by kernel_rfl) (fun _ _ _ h => h) (Or.inl ⟨by rfl, ?yk21⟩) hHeld ?_
  case yk21 => intro w hSw; go_simp
  simp only [Act.put, List.getElem_toArray, List.getElem_cons_succ, List.getElem_cons_zero, List.setIfInBounds_toArray, List.set_cons_zero, List.set_cons_succ]
  refine wpAnyH_take (i := 22) (v := .bool false) rfl (by kernel_rfl) (by kernel_rfl) (by kernel_rfl) (fun _ _ _ h => h) (Or.inl ⟨by rfl, ?yk22⟩) hHeld ?_
  case yk22 => intro w hSw; go_simp
  simp only [Act.put, List.getElem_toArray, List.getElem_cons_succ, List.getElem_cons_zero, List.setIfInBounds_toArray, List.set_cons_zero, List.set_cons_succ]
  refine wpAnyH_take (i := 23) (v := .slice ya ns3.length yc) rfl (by kernel_rfl) (by kernel_rfl) (by kernel_rfl) (fun _ _ _ h => h) (Or.inl ⟨by rfl, ?yk23⟩) hHeld ?_
  case yk23 => intro w hSw; go_simp
  simp only [Act.put, List.getElem_toArray, List.getElem_cons_succ, List.getElem_cons_zero, List.setIfInBounds_toArray, List.set_cons_zero, List.set_cons_succ]
  refine wpAnyH_take (i := 24) (v := .pointer (some ⟨n1, 1, Option.none⟩)) rfl (by kernel_rfl) (by kernel_rfl) (by kernel_rfl) (fun _ _ _ h => h) (Or.inl ⟨by rfl, ?yk24⟩) hHeld ?_
  case yk24 => intro w hSw; go_simp
  simp only [Act.put, List.getElem_toArray, List.getElem_cons_succ, List.getElem_cons_zero, List.setIfInBounds_toArray, List.set_cons_zero, List.set_cons_succ]
  refine wpAnyH_take (i := 25) (v := .slice qa (slen F) qc) rfl (by kernel_rfl) (by kernel_rfl) (by kernel_rfl) (fun _ _ _ h => h) (Or.inl ⟨by rfl, ?yk25⟩) hHeld ?_
  case yk25 => intro w hSw; have q : _ = _ := rangeAt_later R1.out hSw 1 _ rfl; simp only [Nat.zero_add] at q; go_simp
  simp only [Act.put, List.getElem_toArray, List.getElem_cons_succ, List.getElem_cons_zero, List.setIfInBounds_toArray, List.set_cons_zero, List.set_cons_succ]
  refine wpAnyH_ready (rs := [26]) (by kernel_rfl) (by simp) ?_
  refine AllReadyH.cons rfl (fun K hK => ?_) AllReadyH.nil
  rw [if_pos (by rfl)]
  simp only [List.getElem_toArray, List.getElem_cons_succ, List.getElem_cons_zero]
  go_wp2_with fail
  refine (J6.out _ hHeld).mono ?_
  rintro e w17 ⟨u6, rfl, huu6, hb17⟩
  go_wp2_with fail
  refine hK.out _ _ (hHeld.trans (hb17.mono hHeld.size)) (fun hHeld => ?_)
  try simp only [Act.put, List.getElem_toArray, List.getElem_cons_succ, List.getElem_cons_zero, List.setIfInBounds_toArray, List.set_cons_zero, List.set_cons_succ]
  refine wpAnyH_ready (rs := [27]) (by kernel_rfl) (by simp) ?_
  refine AllReadyH.cons rfl (fun K hK => ?_) AllReadyH.nil
  rw [if_pos (by rfl)]
  simp only [List.getElem_toArray, List.getElem_cons_succ, List.getElem_cons_zero]
  go_wp2_with fail
  refine (S3.out _ u6 hHeld huu6).mono ?_
  rintro e w18 ⟨rfl, hb18⟩
  go_wp2_with fail
  refine hK.out _ _ (hHeld.trans (hb18.mono hHeld.size)) (fun hHeld => ?_)
  try simp only [Act.put, List.getElem_toArray, List.getElem_cons_succ, List.getElem_cons_zero, List.setIfInBounds_toArray, List.set_cons_zero, List.set_cons_succ]
  refine wpAnyH_take (i := 28) (v := .bool false) rfl (by kernel_rfl) (by kernel_rfl) (by kernel_rfl) (fun _ _ _ h => h) (Or.inl ⟨by rfl, ?yk28⟩) hHeld ?_
  case yk28 => intro w hSw; go_simp
  simp only [Act.put, List.getElem_toArray, List.getElem_cons_succ, List.getElem_cons_zero, List.setIfInBounds_toArray, List.set_cons_zero, List.set_cons_succ]
  refine wpAnyH_take (i := 29) (v := .bool false) rfl (by kernel_rfl) (by kernel_rfl) (by kernel_rfl) (fun _ _ _ h => h) (Or.inl ⟨by rfl, ?yk29⟩) hHeld ?_
  case yk29 => intro w hSw; go_simp
  simp only [Act.put, List.getElem_toArray, List.getElem_cons_succ, List.getElem_cons_zero, List.setIfInBounds_toArray, List.set_cons_zero, List.set_cons_succ]
  refine wpAnyH_take (i := 30) (v := .bool false) rfl (by kernel_rfl) (by kernel_rfl) (by kernel_rfl) (fun _ _ _ h => h) (Or.inl ⟨by rfl, ?yk30⟩) hHeld ?_
  case yk30 => intro w hSw; go_simp
  simp only [Act.put, List.getElem_toArray, List.getElem_cons_succ, List.getElem_cons_zero, List.setIfInBounds_toArray, List.set_cons_zero, List.set_cons_succ]
  refine wpAnyH_take (i := 31) (v := .slice za ns2.length zc) rfl (by kernel_rfl) (by kernel_rfl) (by kernel_rfl) (fun _ _ _ h => h) (Or.inl ⟨by rfl, ?yk31⟩) hHeld ?_
  case yk31 => intro w hSw; go_simp
  simp only [Act.put, List.getElem_toArray, List.getElem_cons_succ, List.getElem_cons_zero, List.setIfInBounds_toArray, List.set_cons_zero, List.set_cons_succ]
  refine wpAnyH_take (i := 32) (v := .pointer (some ⟨n1, 1, Option.none⟩)) rfl (by kernel_rfl) (by kernel_rfl) (by kernel_rfl) (fun _ _ _ h => h) (Or.inl ⟨by rfl, ?yk32⟩) hHeld ?_
  case yk32 => intro w hSw; go_simp
  simp only [Act.put, List.getElem_toArray, List.getElem_cons_succ, List.getElem_cons_zero, List.setIfInBounds_toArray, List.set_cons_zero, List.set_cons_succ]
  refine wpAnyH_take (i := 33) (v := .slice qa (slen F) qc) rfl (by kernel_rfl) (by kernel_rfl) (by kernel_rfl) (fun _ _ _ h => h) (Or.inl ⟨by rfl, ?yk33⟩) hHeld ?_
  case yk33 => intro w hSw; have q : _ = _ := rangeAt_later R1.out hSw 1 _ rfl; simp only [Nat.zero_add] at q; go_simp
  simp only [Act.put, List.getElem_toArray, List.getElem_cons_succ, List.getElem_cons_zero, List.setIfInBounds_toArray, List.set_cons_zero, List.set_cons_succ]
  refine wpAnyH_ready (rs := [34]) (by kernel_rfl) (by simp) ?_
  refine AllReadyH.cons rfl (fun K hK => ?_) AllReadyH.nil
  rw [if_pos (by rfl)]
  simp only [List.getElem_toArray, List.getElem_cons_succ, List.getElem_cons_zero]
  go_wp2_with fail
  refine (J7.out _ hHeld).mono ?_
  rintro e w19 ⟨u7, rfl, huu7, hb19⟩
  go_wp2_with fail
  refine hK.out _ _ (hHeld.trans (hb19.mono hHeld.size)) (fun hHeld => ?_)
  try simp only [Act.put, List.getElem_toArray, List.getElem_cons_succ, List.getElem_cons_zero, List.setIfInBounds_toArray, List.set_cons_zero, List.set_cons_succ]
  refine wpAnyH_ready (rs := [35]) (by kernel_rfl) (by simp) ?_
  refine AllReadyH.cons rfl (fun K hK => ?_) AllReadyH.nil
  rw [if_pos (by rfl)]
  simp only [List.getElem_toArray, List.getElem_cons_succ, List.getElem_cons_zero]
  go_wp2_with fail
  refine (S2.out _ u7 hHeld huu7).mono ?_
  rintro e w20 ⟨rfl, hb20⟩
  go_wp2_with fail
  refine hK.out _ _ (hHeld.trans (hb20.mono hHeld.size)) (fun hHeld => ?_)
  try simp only [Act.put, List.getElem_toArray, List.getElem_cons_succ, List.getElem_cons_zero, List.setIfInBounds_toArray, List.set_cons_zero, List.set_cons_succ]
  refine wpAnyH_take (i := 36) (v := .bool false) rfl (by kernel_rfl) (by kernel_rfl) (by kernel_rfl) (fun _ _ _ h => h) (Or.inl ⟨by rfl, ?yk36⟩) hHeld ?_
  case yk36 => intro w hSw; go_simp
  simp only [Act.put, List.getElem_toArray, List.getElem_cons_succ, List.getElem_cons_zero, List.setIfInBounds_toArray, List.set_cons_zero, List.set_cons_succ]
  refine wpAnyH_take (i := 37) (v := .bool false) rfl (by kernel_rfl) (by kernel_rfl) (by kernel_rfl) (fun _ _ _ h => h) (Or.inl ⟨by rfl, ?yk37⟩) hHeld ?_
  case yk37 => intro w hSw; go_simp
  simp only [Act.put, List.getElem_toArray, List.getElem_cons_succ, List.getElem_cons_zero, List.setIfInBounds_toArray, List.set_cons_zero, List.set_cons_succ]
  refine wpAnyH_take (i := 38) (v := .bool false) rfl (by kernel_rfl) (by kernel_rfl) (by kernel_rfl) (fun _ _ _ h => h) (Or.inl ⟨by rfl, ?yk38⟩) hHeld ?_
  case yk38 => intro w hSw; go_simp
  simp only [Act.put, List.getElem_toArray, List.getElem_cons_succ, List.getElem_cons_zero, List.setIfInBounds_toArray, List.set_cons_zero, List.set_cons_succ]
  refine wpAnyH_take (i := 39) (v := .slice xa ns1.length xc) rfl (by kernel_rfl) (by kernel_rfl) (by kernel_rfl) (fun _ _ _ h => h) (Or.inl ⟨by rfl, ?yk39⟩) hHeld ?_
  case yk39 => intro w hSw; go_simp
  simp only [Act.put, List.getElem_toArray, List.getElem_cons_succ, List.getElem_cons_zero, List.setIfInBounds_toArray, List.set_cons_zero, List.set_cons_succ]
  refine wpAnyH_ready (rs := [40]) (by kernel_rfl) (by simp) ?_
  refine AllReadyH.cons rfl (fun K hK => ?_) AllReadyH.nil
  rw [if_pos (by rfl)]
  simp only [List.getElem_toArray, List.getElem_cons_succ, List.getElem_cons_zero]
  go_wp2_with fail
  refine (U1.out _ hHeld).mono ?_
  rintro e w21 ⟨rfl, hb21⟩
  go_wp2_with fail
  refine hK.out _ _ (hHeld.trans (hb21.mono hHeld.size)) (fun hHeld => ?_)
  try simp only [Act.put, List.getElem_toArray, List.getElem_cons_succ, List.getElem_cons_zero, List.setIfInBounds_toArray, List.set_cons_zero, List.set_cons_succ]
  refine wpAnyH_take (i := 41) (v := .bool false) rfl (by kernel_rfl) (by kernel_rfl) (by kernel_rfl) (fun _ _ _ h => h) (Or.inl ⟨by rfl, ?yk41⟩) hHeld ?_
  case yk41 => intro w hSw; go_simp
  simp only [Act.put, List.getElem_toArray, List.getElem_cons_succ, List.getElem_cons_zero, List.setIfInBounds_toArray, List.set_cons_zero, List.set_cons_succ]
  refine wpAnyH_take (i := 42) (v := .bool false) rfl (by kernel_rfl) (by kernel_rfl) (by kernel_rfl) (fun _ _ _ h => h) (Or.inl ⟨by rfl, ?yk42⟩) hHeld ?_
  case yk42 => intro w hSw; go_simp
  simp only [Act.put, List.getElem_toArray, List.getElem_cons_succ, List.getElem_cons_zero, List.setIfInBounds_toArray, List.set_cons_zero, List.set_cons_succ]
  refine wpAnyH_take (i := 43) (v := .bool false) rfl (by kernel_rfl) (by kernel_rfl) (by kernel_rfl) (fun _ _ _ h => h) (Or.inl ⟨by rfl, ?yk43⟩) hHeld ?_
  case yk43 => intro w hSw; go_simp
  simp only [Act.put, List.getElem_toArray, List.getElem_cons_succ, List.getElem_cons_zero, List.setIfInBounds_toArray, List.set_cons_zero, List.set_cons_succ]
  refine wpAnyH_take (i := 44) (v := .slice ya ns3.length yc) rfl (by kernel_rfl) (by kernel_rfl) (by kernel_rfl) (fun _ _ _ h => h) (Or.inl ⟨by rfl, ?yk44⟩) hHeld ?_
  case yk44 => intro w hSw; go_simp
  simp only [Act.put, List.getElem_toArray, List.getElem_cons_succ, List.getElem_cons_zero, List.setIfInBounds_toArray, List.set_cons_zero, List.set_cons_succ]
  refine wpAnyH_ready (rs := [45]) (by kernel_rfl) (by simp) ?_
  refine AllReadyH.cons rfl (fun K hK => ?_) AllReadyH.nil
  rw [if_pos (by rfl)]
  simp only [List.getElem_toArray, List.getElem_cons_succ, List.getElem_cons_zero]
  go_wp2_with fail
  refine (U3.out _ hHeld).mono ?_
  rintro e w22 ⟨rfl, hb22⟩
  go_wp2_with fail
  refine hK.out _ _ (hHeld.trans (hb22.mono hHeld.size)) (fun hHeld => ?_)
  try simp only [Act.put, List.getElem_toArray, List.getElem_cons_succ, List.getElem_cons_zero, List.setIfInBounds_toArray, List.set_cons_zero, List.set_cons_succ]
  refine wpAnyH_take (i := 46) (v := .bool false) rfl (by kernel_rfl) (by kernel_rfl) (by kernel_rfl) (fun _ _ _ h => h) (Or.inl ⟨by rfl, ?yk46⟩) hHeld ?_
  case yk46 => intro w hSw; go_simp
  simp only [Act.put, List.getElem_toArray, List.getElem_cons_succ, List.getElem_cons_zero, List.setIfInBounds_toArray, List.set_cons_zero, List.set_cons_succ]
  refine wpAnyH_take (i := 47) (v := .bool false) rfl (by kernel_rfl) (by kernel_rfl) (by kernel_rfl) (fun _ _ _ h => h) (Or.inl ⟨by rfl, ?yk47⟩) hHeld ?_
  case yk47 => intro w hSw; go_simp
  simp only [Act.put, List.getElem_toArray, List.getElem_cons_succ, List.getElem_cons_zero, List.setIfInBounds_toArray, List.set_cons_zero, List.set_cons_succ]
  refine wpAnyH_take (i := 48) (v := .bool false) rfl (by kernel_rfl) (by kernel_rfl) (by kernel_rfl) (fun _ _ _ h => h) (Or.inl ⟨by rfl, ?yk48⟩) hHeld ?_
  case yk48 => intro w hSw; go_simp
  simp only [Act.put, List.getElem_toArray, List.getElem_cons_succ, List.getElem_cons_zero, List.setIfInBounds_toArray, List.set_cons_zero, List.set_cons_succ]
  refine wpAnyH_take (i := 49) (v := .slice za ns2.length zc) rfl (by kernel_rfl) (by kernel_rfl) (by kernel_rfl) (fun _ _ _ h => h) (Or.inl ⟨by rfl, ?yk49⟩) hHeld ?_
  case yk49 => intro w hSw; go_simp
  simp only [Act.put, List.getElem_toArray, List.getElem_cons_succ, List.getElem_cons_zero, List.setIfInBounds_toArray, List.set_cons_zero, List.set_cons_succ]
  refine wpAnyH_ready (rs := [50]) (by kernel_rfl) (by simp) ?_
  refine AllReadyH.cons rfl (fun K hK => ?_) AllReadyH.nil
  rw [if_pos (by rfl)]
  simp only [List.getElem_toArray, List.getElem_cons_succ, List.getElem_cons_zero]
  go_wp2_with fail
  refine (U2.out _ hHeld).mono ?_
  rintro e w23 ⟨rfl, hb23⟩
  go_wp2_with fail
  refine hK.out _ _ (hHeld.trans (hb23.mono hHeld.size)) (fun hHeld => ?_)
  try simp only [Act.put, List.getElem_toArray, List.getElem_cons_succ, List.getElem_cons_zero, List.setIfInBounds_toArray, List.set_cons_zero, List.set_cons_succ]
  refine wpAnyH_take (i := 51) (v := .bool false) rfl (by kernel_rfl) (by kernel_rfl) (by kernel_rfl) (fun _ _ _ h => h) (Or.inl ⟨by rfl, ?yk51⟩) hHeld ?_
  case yk51 => intro w hSw; go_simp
  simp only [Act.put, List.getElem_toArray, List.getElem_cons_succ, List.getElem_cons_zero, List.setIfInBounds_toArray, List.set_cons_zero, List.set_cons_succ]
  refine wpAnyH_take (i := 52) (v := .bool false) rfl (by kernel_rfl) (by kernel_rfl) (by kernel_rfl) (fun _ _ _ h => h) (Or.inl ⟨by rfl, ?yk52⟩) hHeld ?_
  case yk52 => intro w hSw; go_simp
  simp only [Act.put, List.getElem_toArray, List.getElem_cons_succ, List.getElem_cons_zero, List.setIfInBounds_toArray, List.set_cons_zero, List.set_cons_succ]
  refine wpAnyH_done (by kernel_rfl) ?_ _
  have BB := Lib.hid hHeld
  clear hHeld bd J2 J3 J4 J5 J6 J7 S1 S2 S3 U1 U2 U3 z1 z2
  go_wp2
  go_loopw [9] (fun i wr => ∃ k : Nat, k ≤ ns1.length ∧ i = .int .i64 k ∧ Hid (Below w5.heap.size w5 wr)) (fun i _ => ns1.length - (RowKit.intOf i).toNat)
  case atStart => exact ⟨0, by omega, rfl, BB⟩
  case round =>
    obtain ⟨k, hk, rfl, hbr⟩ := hrel
    have BF := Lib.hid (B5.out.trans (hbr.out.mono B5.out.size))
    by_cases hlt : k < ns1.length
    · have hltI : (k : Int) < (ns1.length : Int) := by omega
      have Rr := Lib.hid (rangeAt_later R1.out hbr.out)
      have cc0 : wr.cell? ⟨n1, 0, Option.none⟩ = some (.slice pa ts.length pc) := Rr.out 0 _ rfl
      have cc1 : wr.cell? ⟨n1, 1, Option.none⟩ = some (.slice qa (slen F) qc) := Rr.out 1 _ rfl
      go_wp2_with fail
      clear cc0 cc1
      refine (J1.out _ hbr.out).mono ?_
      rintro e w6 ⟨rfl, hb6⟩
      have b6 := hbr.out.trans (hb6.mono hbr.out.size)
      have B6 := Lib.hid b6
      have BG := Lib.hid (B5.out.trans (b6.mono B5.out.size))
      clear hb6 b6
      cases t1 with
      | false =>
        go_wp2
        go_ret
        exact ⟨rfl, BG.out⟩
      | true =>
        obtain ⟨x, hx⟩ : ∃ x, ns1[k]? = some x := ⟨ns1[k], List.getElem?_eq_getElem hlt⟩
        obtain ⟨g, off, c, hvv, hcell⟩ := (TT.out.later B6.out).cells hx
        injection hvv with e1 e2 e3
        subst e1
        have hcellH := Lib.hid hcell
        obtain ⟨z, hz, hza⟩ := H2.out rfl x (List.mem_of_getElem? hx)
        have Hh := Lib.hid (H1.out rfl x (List.mem_of_getElem? hx))
        have Hz := Lib.hid hza
        have bd : Below w6.heap.size w6 w6.drew := (Below.refl _ w6).drew
        clear hx e2 e3 hcell hza
        go_wp2_with fail
        refine wp_region_held_drew (S := Below w6.heap.size w6) (by kernel_rfl) bd (fun hHeld => ?_)
        refine wpAnyH_take (i := 0) (v := .slice ya ns3.length yc) rfl (by kernel_rfl) (by kernel_rfl) (by kernel_rfl) (fun _ _ _ h => h) (Or.inl ⟨by rfl, ?ym0⟩) hHeld ?_
        case ym0 => intro w hSw; go_simp
        simp only [Act.put, List.getElem_toArray, List.getElem_cons_succ, List.getElem_cons_zero, List.setIfInBounds_toArray, List.set_cons_zero, List.set_cons_succ]
        refine wpAnyH_take (i := 1) (v := .slice (some ⟨g, off, Option.none⟩) ns1.length xc) rfl (by kernel_rfl) (by kernel_rfl) (by kernel_rfl) (fun _ _ _ h => h) (Or.inl ⟨by rfl, ?ym1⟩) hHeld ?_
        case ym1 => intro w hSw; go_simp
        simp only [Act.put, List.getElem_toArray, List.getElem_cons_succ, List.getElem_cons_zero, List.setIfInBounds_toArray, List.set_cons_zero, List.set_cons_succ]
        refine wpAnyH_take (i := 2) (v := .int .i64 (k : Int)) rfl (by kernel_rfl) (by kernel_rfl) (by kernel_rfl) (fun _ _ _ h => h) (Or.inl ⟨by rfl, ?ym2⟩) hHeld ?_
        case ym2 => intro w hSw; go_simp
        simp only [Act.put, List.getElem_toArray, List.getElem_cons_succ, List.getElem_cons_zero, List.setIfInBounds_toArray, List.set_cons_zero, List.set_cons_succ]
        refine wpAnyH_take (i := 3) (v := .pointer (some ⟨g, off + k, Option.none⟩)) rfl (by kernel_rfl) (by kernel_rfl) (by kernel_rfl) (fun _ _ _ h => h) (Or.inl ⟨by rfl, ?ym3⟩) hHeld ?_
        case ym3 => intro w hSw; go_simp
        simp only [Act.put, List.getElem_toArray, List.getElem_cons_succ, List.getElem_cons_zero, List.setIfInBounds_toArray, List.set_cons_zero, List.set_cons_succ]
        refine wpAnyH_take (i := 4) (v := .string x) rfl (by kernel_rfl) (by kernel_rfl) (by kernel_rfl) (fun _ _ _ h => h) (Or.inl ⟨by rfl, ?ym4⟩) hHeld ?_
        case ym4 => intro w hSw; have q := keeps hSw hcellH.out; go_simp
        simp only [Act.put, List.getElem_toArray, List.getElem_cons_succ, List.getElem_cons_zero, List.setIfInBounds_toArray, List.set_cons_zero, List.set_cons_succ]
        refine wpAnyH_ready (rs := [5]) (by kernel_rfl) (by simp) ?_
        refine AllReadyH.cons rfl (fun K hK => ?_) AllReadyH.nil
        rw [if_pos (by rfl)]
        simp only [List.getElem_toArray, List.getElem_cons_succ, List.getElem_cons_zero]
        go_wp2_with fail
        refine (Hh.out _ (B6.out.trans (hHeld.mono B6.out.size))).mono ?_
        rintro e w7 ⟨rfl, rfl⟩
        go_wp2_with fail
        refine hK.out _ _ (hHeld) (fun hHeld => ?_)
        try simp only [Act.put, List.getElem_toArray, List.getElem_cons_succ, List.getElem_cons_zero, List.setIfInBounds_toArray, List.set_cons_zero, List.set_cons_succ]
        refine wpAnyH_take (i := 6) (v := .bool false) rfl (by kernel_rfl) (by kernel_rfl) (by kernel_rfl) (fun _ _ _ h => h) (Or.inl ⟨by rfl, ?ym6⟩) hHeld ?_
        case ym6 => intro w hSw; go_simp
        simp only [Act.put, List.getElem_toArray, List.getElem_cons_succ, List.getElem_cons_zero, List.setIfInBounds_toArray, List.set_cons_zero, List.set_cons_succ]
        refine wpAnyH_take (i := 7) (v := .agg #[.slice pa ts.length pc, .slice qa (slen F) qc]) rfl (by kernel_rfl) (by kernel_rfl) (by kernel_rfl) (fun _ _ _ h => h) (yieldsIf_load_mid (by rfl) 27 _ rfl (n1) (0) rfl [.slice pa ts.length pc, .slice qa (slen F) qc] _ (fun w h => rangeAt_later (rangeAt_later R1.out B6.out) h) Tryz.underlying27 rfl sizePg) hHeld ?_
        simp only [Act.put, List.getElem_toArray, List.getElem_cons_succ, List.getElem_cons_zero, List.setIfInBounds_toArray, List.set_cons_zero, List.set_cons_succ]
        refine wpAnyH_take (i := 8) (v := .slice (some ⟨g, off, Option.none⟩) ns1.length xc) rfl (by kernel_rfl) (by kernel_rfl) (by kernel_rfl) (fun _ _ _ h => h) (Or.inl ⟨by rfl, ?ym8⟩) hHeld ?_
        case ym8 => intro w hSw; go_simp
        simp only [Act.put, List.getElem_toArray, List.getElem_cons_succ, List.getElem_cons_zero, List.setIfInBounds_toArray, List.set_cons_zero, List.set_cons_succ]
        refine wpAnyH_take (i := 9) (v := .int .i64 (k : Int)) rfl (by kernel_rfl) (by kernel_rfl) (by kernel_rfl) (fun _ _ _ h => h) (Or.inl ⟨by rfl, ?ym9⟩) hHeld ?_
        case ym9 => intro w hSw; go_simp
        simp only [Act.put, List.getElem_toArray, List.getElem_cons_succ, List.getElem_cons_zero, List.setIfInBounds_toArray, List.set_cons_zero, List.set_cons_succ]
        refine wpAnyH_take (i := 10) (v := .pointer (some ⟨g, off + k, Option.none⟩)) rfl (by kernel_rfl) (by kernel_rfl) (by kernel_rfl) (fun _ _ _ h => h) (Or.inl ⟨by rfl, ?ym10⟩) hHeld ?_
        case ym10 => intro w hSw; go_simp
        simp only [Act.put, List.getElem_toArray, List.getElem_cons_succ, List.getElem_cons_zero, List.setIfInBounds_toArray, List.set_cons_zero, List.set_cons_succ]
        refine wpAnyH_take (i := 11) (v := .string x) rfl (by kernel_rfl) (by kernel_rfl) (by kernel_rfl) (fun _ _ _ h => h) (Or.inl ⟨by rfl, ?ym11⟩) hHeld ?_
        case ym11 => intro w hSw; have q := keeps hSw hcellH.out; go_simp
        simp only [Act.put, List.getElem_toArray, List.getElem_cons_succ, List.getElem_cons_zero, List.setIfInBounds_toArray, List.set_cons_zero, List.set_cons_succ]
        refine wpAnyH_ready (rs := [12]) (by kernel_rfl) (by simp) ?_
        refine AllReadyH.cons rfl (fun K hK => ?_) AllReadyH.nil
        rw [if_pos (by rfl)]
        simp only [List.getElem_toArray, List.getElem_cons_succ, List.getElem_cons_zero]
        go_wp2_with fail
        refine (Hz.out _ (B6.out.trans (hHeld.mono B6.out.size))).mono ?_
        rintro e w8 ⟨rfl, hb8⟩
        go_wp2_with fail
        refine hK.out _ _ (hHeld.trans (hb8.mono hHeld.size)) (fun hHeld => ?_)
        try simp only [Act.put, List.getElem_toArray, List.getElem_cons_succ, List.getElem_cons_zero, List.setIfInBounds_toArray, List.set_cons_zero, List.set_cons_succ]
        refine wpAnyH_take (i := 13) (v := .bool false) rfl (by kernel_rfl) (by kernel_rfl) (by kernel_rfl) (fun _ _ _ h => h) (Or.inl ⟨by rfl, ?ym13⟩) hHeld ?_
        case ym13 => intro w hSw; go_simp
        simp only [Act.put, List.getElem_toArray, List.getElem_cons_succ, List.getElem_cons_zero, List.setIfInBounds_toArray, List.set_cons_zero, List.set_cons_succ]
        refine wpAnyH_take (i := 14) (v := .bool false) rfl (by kernel_rfl) (by kernel_rfl) (by kernel_rfl) (fun _ _ _ h => h) (Or.inl ⟨by rfl, ?ym14⟩) hHeld ?_
        case ym14 => intro w hSw; go_simp
        simp only [Act.put, List.getElem_toArray, List.getElem_cons_succ, List.getElem_cons_zero, List.setIfInBounds_toArray, List.set_cons_zero, List.set_cons_succ]
        refine wpAnyH_done (by kernel_rfl) ?_ _
        have B9 := Lib.hid (B6.out.trans (hHeld.mono B6.out.size))
        clear hHeld bd Hh Hz
        go_wp2
        go_roundw
        case rel => exact ⟨k + 1, by omega, by go_num, B9⟩
        case measure => simp [RowKit.intOf]; omega
    · have hltI : ¬ (k : Int) < (ns1.length : Int) := by omega
      go_wp2
      go_ret
      exact ⟨rfl, BF.out⟩
end Go.Proofs.YtkhccpjkajhnpaaGreat
