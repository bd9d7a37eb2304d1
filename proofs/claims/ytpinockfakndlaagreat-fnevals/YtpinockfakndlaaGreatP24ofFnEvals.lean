import Derived.Test.YtpinockfakndlaaGreatP23ofFnEvals
namespace Go.Proofs.YtpinockfakndlaaGreat
open Go.RowKit Go.Lib
set_option maxRecDepth 100000
set_option maxHeartbeats 4000000
set_option linter.unusedSimpArgs false
set_option linter.unusedVariables false
def stmtOk (h : SH) (l : SF) : Bool := toldSt 3 h l && decide (snodes l + 1 ≤ 40)
def okS (D : Nat) (h : SH) (l : SF) : Prop := toldSt D h l = true ∧ snodes l + 1 ≤ 40
structure CnS (D : Nat) (h : SH) (l : SF) (r : Nat) : Prop where
  yes : okS D h l → r = snodes l + 1
  no : ¬ okS D h l → 40 < r
  big : r ≤ 100 + 40 * D
theorem CnS.bad {D : Nat} {h : SH} {l : SF} (hn : toldSt D h l = false) : CnS D h l 100 := ⟨fun e => absurd (e.1.symm.trans hn) (by simp), fun _ => by omega, by omega⟩
theorem CnS.one {D : Nat} {h : SH} {l : SF} (hy : toldSt D h l = true) (hl : slen l = 0) : CnS D h l 1 := by
  have : l = .nil := by
    cases l with
    | nil => rfl
    | node _ _ _ _ _ => simp [slen] at hl
  subst this
  exact ⟨fun _ => rfl, fun e => absurd ⟨hy, by simp [snodes]⟩ e, by omega⟩
structure CsM (w : World) (D : Nat) (xl R : SF) (k c b o : Nat) : Prop where
  at_ : SIn w 0 R b (o + k * 19)
  num : k + slen R = slen xl
  siz : ssize R ≤ 1048576
  low : c ≤ 40 → toldS D xl = toldS D R ∧ c + snodes R = snodes xl + 1
  high : 40 < c → ¬ (toldS D xl = true ∧ snodes xl + 1 ≤ 40)
  big : c ≤ 140 + 40 * D
theorem CsM.next {w : World} {D p q : Nat} {xl : SF} {h : SH} {l r : SF} {k c b o n : Nat} (m : CsM w D xl (.node p q h l r) k c b o) (hc : c ≤ 40) (hn : CnS D h l n) : CsM w D xl r (k + 1) (c + n) b o := by
  obtain ⟨e1, e2⟩ := m.low hc
  rw [toldS_node] at e1
  have h1 := m.num
  have h2 := m.siz
  simp only [slen, ssize, snodes] at h1 h2 e2
  have hb := hn.big
  by_cases hok : okS D h l
  · have hy := hn.yes hok
    have ht := hok.1
    rw [ht, Bool.true_and] at e1
    refine ⟨by rw [show o + (k + 1) * 19 = o + k * 19 + 19 by omega]; exact (SIn_node.1 m.at_).2, by omega, by omega, fun _ => ⟨e1, by omega⟩, fun hh => ?_, by omega⟩
    intro ⟨_, g2⟩; omega
  · have hy := hn.no hok
    refine ⟨by rw [show o + (k + 1) * 19 = o + k * 19 + 19 by omega]; exact (SIn_node.1 m.at_).2, by omega, by omega, fun hh => by omega, fun hh => ?_, by omega⟩
    intro ⟨g1, g2⟩
    apply hok
    rw [e1, Bool.and_eq_true] at g1
    exact ⟨g1.1, by omega⟩
theorem rng0 {w : World} {b : Nat} {h : SH} {v1 v2 v3 v4 v : Value} (r : w.rangeAt b 0 (scells h v1 v2 v3 v4 v)) : w.cell? ⟨b, 0, Option.none⟩ = some (.int .i64 h.k) := r 0 _ rfl
theorem rng1 {w : World} {b : Nat} {h : SH} {v1 v2 v3 v4 v : Value} (r : w.rangeAt b 0 (scells h v1 v2 v3 v4 v)) : w.cell? ⟨b, 1, Option.none⟩ = some (.string h.s) := r 1 _ rfl
theorem l3S_1 (D : Nat) (hD : D ≤ 3) (h : SH) (l : SF) (hk : h.k = 1) (hsz : hsize h + ssize l ≤ 1048576)
    (w : World) (v1 v2 v3 v4 v : Value) (hv : HV w 0 h v1 v2 v3 v4) (hl : SV w 0 l v) :
    Calls Tryz.prog 150 #[sagg h v1 v2 v3 v4 v, .int .i64 (3 - (D : Int))] w fun e w' => ∃ r : Nat, e = .returned (.int .i64 (r : Int)) ∧ CnS D h l r ∧ Below w.heap.size w w' := by
  have T0 := hid (Bxs.start 98 hv hl)
  have hsx : xsize h.x1 ≤ 1048576 ∧ xsize h.x2 ≤ 1048576 ∧ xsize h.x3 ≤ 1048576 ∧ xsize h.x4 ≤ 1048576 ∧ h.s.size ≤ 1048576 ∧ ssize l ≤ 1048576 := by unfold hsize at hsz; omega
  have HX := hid hsx
  obtain ⟨a1, ha1⟩ : ∃ t, noX h.x1 = t := ⟨_, rfl⟩
  have Qa1 : Hid (∀ w, EV w 0 h.x1.l v1 → Calls Tryz.prog 167 #[.agg (xC h.x1 v1).toArray] w fun e w' => e = .returned (.bool a1) ∧ Below w.heap.size w w') := fun w p => by rw [← ha1]; exact l3No_is h.x1 w v1 p
  obtain ⟨t2, ht2⟩ : ∃ t, expOk h.x2 = t := ⟨_, rfl⟩
  have Qt2 : Hid (∀ w, EV w 0 h.x2.l v2 → Calls Tryz.prog 44 #[.agg (xC h.x2 v2).toArray] w fun e w' => e = .returned (.bool t2) ∧ Below w.heap.size w w') := fun w p => by rw [← ht2]; exact spec_ExpOk h.x2 HX.out.2.1 w v2 p
  obtain ⟨t3, ht3⟩ : ∃ t, noX h.x3 = t := ⟨_, rfl⟩
  have Qt3 : Hid (∀ w, EV w 0 h.x3.l v3 → Calls Tryz.prog 167 #[.agg (xC h.x3 v3).toArray] w fun e w' => e = .returned (.bool t3) ∧ Below w.heap.size w w') := fun w p => by rw [← ht3]; exact l3No_is h.x3 w v3 p
  obtain ⟨t4, ht4⟩ : ∃ t, noX h.x4 = t := ⟨_, rfl⟩
  have Qt4 : Hid (∀ w, EV w 0 h.x4.l v4 → Calls Tryz.prog 167 #[.agg (xC h.x4 v4).toArray] w fun e w' => e = .returned (.bool t4) ∧ Below w.heap.size w w') := fun w p => by rw [← ht4]; exact l3No_is h.x4 w v4 p
  obtain ⟨t5, ht5⟩ : ∃ t, nameOk h.s.data.toList = t := ⟨_, rfl⟩
  have H5 := hid ht5
  have HT : Hid (toldSt D h l = ((t5 && (t2 && (a1 && (t3 && t4)))) && (decide (slen l = 0)))) := show toldSt D h l = _ by
    have e1 : headOk h = (t5 && (t2 && (a1 && (t3 && t4)))) := by rw [← ha1, ← ht2, ← ht3, ← ht4, ← ht5]; simp [headOk, hk]
    unfold toldSt; rw [e1]; simp [hk]
  have e1 : (h.k == 1) = true := by rw [hk]; rfl
  have e2 : (h.k == 2) = false := by rw [hk]; rfl
  have e3 : (h.k == 3) = false := by rw [hk]; rfl
  have e4 : (h.k == 4) = false := by rw [hk]; rfl
  have e3n : (h.k != 3) = true := by rw [bne, e3]; rfl
  have hin1 : (decide ((1 : Int) ≤ h.k) && decide (h.k ≤ 4)) = true := by rw [hk]; rfl
  have Hin := hid hin1
  obtain ⟨va, vc, rfl⟩ := hl.shape
  have hDI : (D : Int) ≤ 3 := by omega
  clear hv hl hsz hsx hk hin1 ha1 ht2 ht3 ht4 ht5
  go_enter Tryz.func150, Tryz.ntmps150
  go_wp2_with (refine wpList_load_mid rfl 43 _ rfl w.heap.size 2 rfl _ _ (part1 T0.out.rg) Tryz.underlying43 rfl sizeIE2 ?_)
  refine (Qa1.out _ T0.out.hv.e1).mono ?_
  rintro e w1 ⟨rfl, hb1⟩
  have T1 := hid (T0.out.later hb1)
  clear hb1 T0
  have k0 := rng0 T1.out.rg
  have k1 := rng1 T1.out.rg
  go_wp2_with (refine wpList_load_mid rfl 43 _ rfl w.heap.size 6 rfl _ _ (part2 T1.out.rg) Tryz.underlying43 rfl sizeIE2 ?_)
  refine (Qt2.out _ T1.out.hv.e2).mono ?_
  rintro e w2 ⟨rfl, hb2⟩
  have T2 := hid (T1.out.later hb2)
  clear hb2 T1 k0 k1
  have k0 := rng0 T2.out.rg
  have k1 := rng1 T2.out.rg
  go_wp2_with (refine wpList_load_mid rfl 43 _ rfl w.heap.size 10 rfl _ _ (part3 T2.out.rg) Tryz.underlying43 rfl sizeIE2 ?_)
  refine (Qt3.out _ T2.out.hv.e3).mono ?_
  rintro e w3 ⟨rfl, hb3⟩
  have T3 := hid (T2.out.later hb3)
  clear hb3 T2 k0 k1
  have k0 := rng0 T3.out.rg
  have k1 := rng1 T3.out.rg
  go_wp2_with (refine wpList_load_mid rfl 43 _ rfl w.heap.size 14 rfl _ _ (part4 T3.out.rg) Tryz.underlying43 rfl sizeIE2 ?_)
  refine (Qt4.out _ T3.out.hv.e4).mono ?_
  rintro e w4 ⟨rfl, hb4⟩
  have T4 := hid (T3.out.later hb4)
  clear hb4 T3 k0 k1
  have k0 := rng0 T4.out.rg
  have k1 := rng1 T4.out.rg
  go_wp2_with fail
  refine (spec_NameOk h.s t5 H5.out (by have := HX.out; omega) _).mono ?_
  rintro e w5 ⟨rfl, hb5⟩
  have T5 := hid (T4.out.later hb5)
  clear hb5 T4 k0 k1
  have k0 := rng0 T5.out.rg
  have k1 := rng1 T5.out.rg
  have c18 := part5 T5.out.rg
  cases a1 with
  | false =>
    go_wp2
    go_ret
    exact ⟨100, rfl, CnS.bad (by simp [HT.out]), T5.out.low⟩
  | true =>
  cases t2 with
  | false =>
    go_wp2
    go_ret
    exact ⟨100, rfl, CnS.bad (by simp [HT.out]), T5.out.low⟩
  | true =>
  cases t3 with
  | false =>
    go_wp2
    go_ret
    exact ⟨100, rfl, CnS.bad (by simp [HT.out]), T5.out.low⟩
  | true =>
  cases t4 with
  | false =>
    go_wp2
    go_ret
    exact ⟨100, rfl, CnS.bad (by simp [HT.out]), T5.out.low⟩
  | true =>
  cases t5 with
  | false =>
    go_wp2
    go_ret
    exact ⟨100, rfl, CnS.bad (by simp [HT.out]), T5.out.low⟩
  | true =>
  go_wp2_with fail
  refine (l1In_is h.k 1 4 _).mono ?_
  rintro e wz ⟨rfl, hbz⟩
  subst hbz
  rw [Hin.out]
  by_cases hz : slen l = 0
  · have h1 : ¬ (0 : Int) < (slen l : Int) := by omega
    have Hz := hid hz
    clear hz
    go_wp2
    go_ret
    exact ⟨1, rfl, CnS.one (by rw [HT.out, Hz.out]; rfl) Hz.out, T5.out.low⟩
  · have h1 : (0 : Int) < (slen l : Int) := by omega
    have Hz := hid hz
    clear hz
    go_wp2
    go_ret
    exact ⟨100, rfl, CnS.bad (by rw [HT.out, decide_eq_false Hz.out]; rfl), T5.out.low⟩
theorem l3S_2 (D : Nat) (hD : D ≤ 3) (h : SH) (l : SF) (hk : h.k = 2) (hsz : hsize h + ssize l ≤ 1048576)
    (w : World) (v1 v2 v3 v4 v : Value) (hv : HV w 0 h v1 v2 v3 v4) (hl : SV w 0 l v) :
    Calls Tryz.prog 150 #[sagg h v1 v2 v3 v4 v, .int .i64 (3 - (D : Int))] w fun e w' => ∃ r : Nat, e = .returned (.int .i64 (r : Int)) ∧ CnS D h l r ∧ Below w.heap.size w w' := by
  have T0 := hid (Bxs.start 98 hv hl)
  have hsx : xsize h.x1 ≤ 1048576 ∧ xsize h.x2 ≤ 1048576 ∧ xsize h.x3 ≤ 1048576 ∧ xsize h.x4 ≤ 1048576 ∧ h.s.size ≤ 1048576 ∧ ssize l ≤ 1048576 := by unfold hsize at hsz; omega
  have HX := hid hsx
  obtain ⟨a1, ha1⟩ : ∃ t, noX h.x1 = t := ⟨_, rfl⟩
  have Qa1 : Hid (∀ w, EV w 0 h.x1.l v1 → Calls Tryz.prog 167 #[.agg (xC h.x1 v1).toArray] w fun e w' => e = .returned (.bool a1) ∧ Below w.heap.size w w') := fun w p => by rw [← ha1]; exact l3No_is h.x1 w v1 p
  obtain ⟨t2, ht2⟩ : ∃ t, expOk h.x2 = t := ⟨_, rfl⟩
  have Qt2 : Hid (∀ w, EV w 0 h.x2.l v2 → Calls Tryz.prog 44 #[.agg (xC h.x2 v2).toArray] w fun e w' => e = .returned (.bool t2) ∧ Below w.heap.size w w') := fun w p => by rw [← ht2]; exact spec_ExpOk h.x2 HX.out.2.1 w v2 p
  obtain ⟨t3, ht3⟩ : ∃ t, noX h.x3 = t := ⟨_, rfl⟩
  have Qt3 : Hid (∀ w, EV w 0 h.x3.l v3 → Calls Tryz.prog 167 #[.agg (xC h.x3 v3).toArray] w fun e w' => e = .returned (.bool t3) ∧ Below w.heap.size w w') := fun w p => by rw [← ht3]; exact l3No_is h.x3 w v3 p
  obtain ⟨t4, ht4⟩ : ∃ t, noX h.x4 = t := ⟨_, rfl⟩
  have Qt4 : Hid (∀ w, EV w 0 h.x4.l v4 → Calls Tryz.prog 167 #[.agg (xC h.x4 v4).toArray] w fun e w' => e = .returned (.bool t4) ∧ Below w.heap.size w w') := fun w p => by rw [← ht4]; exact l3No_is h.x4 w v4 p
  obtain ⟨b1, hb1⟩ : ∃ t, expOk h.x1 = t := ⟨_, rfl⟩
  have Qb1 : Hid (∀ w, EV w 0 h.x1.l v1 → Calls Tryz.prog 44 #[.agg (xC h.x1 v1).toArray] w fun e w' => e = .returned (.bool b1) ∧ Below w.heap.size w w') := fun w p => by rw [← hb1]; exact spec_ExpOk h.x1 HX.out.1 w v1 p
  obtain ⟨t5, ht5⟩ : ∃ t, nameOk h.s.data.toList = t := ⟨_, rfl⟩
  have H5 := hid ht5
  have HT : Hid (toldSt D h l = ((t5 && ((b1 && t2) && (t3 && t4))) && (decide (slen l = 0)))) := show toldSt D h l = _ by
    have e1 : headOk h = (t5 && ((b1 && t2) && (t3 && t4))) := by rw [← hb1, ← ht2, ← ht3, ← ht4, ← ht5]; simp [headOk, hk]
    unfold toldSt; rw [e1]; simp [hk]
  have e1 : (h.k == 1) = false := by rw [hk]; rfl
  have e2 : (h.k == 2) = true := by rw [hk]; rfl
  have e3 : (h.k == 3) = false := by rw [hk]; rfl
  have e4 : (h.k == 4) = false := by rw [hk]; rfl
  have e3n : (h.k != 3) = true := by rw [bne, e3]; rfl
  have hin1 : (decide ((1 : Int) ≤ h.k) && decide (h.k ≤ 4)) = true := by rw [hk]; rfl
  have Hin := hid hin1
  obtain ⟨va, vc, rfl⟩ := hl.shape
  have hDI : (D : Int) ≤ 3 := by omega
  clear hv hl hsz hsx hk hin1 ha1 ht2 ht3 ht4 hb1 ht5
  go_enter Tryz.func150, Tryz.ntmps150
  go_wp2_with (refine wpList_load_mid rfl 43 _ rfl w.heap.size 2 rfl _ _ (part1 T0.out.rg) Tryz.underlying43 rfl sizeIE2 ?_)
  refine (Qa1.out _ T0.out.hv.e1).mono ?_
  rintro e w1 ⟨rfl, hb1⟩
  have T1 := hid (T0.out.later hb1)
  clear hb1 T0
  have k0 := rng0 T1.out.rg
  have k1 := rng1 T1.out.rg
  go_wp2_with (refine wpList_load_mid rfl 43 _ rfl w.heap.size 6 rfl _ _ (part2 T1.out.rg) Tryz.underlying43 rfl sizeIE2 ?_)
  refine (Qt2.out _ T1.out.hv.e2).mono ?_
  rintro e w2 ⟨rfl, hb2⟩
  have T2 := hid (T1.out.later hb2)
  clear hb2 T1 k0 k1
  have k0 := rng0 T2.out.rg
  have k1 := rng1 T2.out.rg
  go_wp2_with (refine wpList_load_mid rfl 43 _ rfl w.heap.size 10 rfl _ _ (part3 T2.out.rg) Tryz.underlying43 rfl sizeIE2 ?_)
  refine (Qt3.out _ T2.out.hv.e3).mono ?_
  rintro e w3 ⟨rfl, hb3⟩
  have T3 := hid (T2.out.later hb3)
  clear hb3 T2 k0 k1
  have k0 := rng0 T3.out.rg
  have k1 := rng1 T3.out.rg
  go_wp2_with (refine wpList_load_mid rfl 43 _ rfl w.heap.size 14 rfl _ _ (part4 T3.out.rg) Tryz.underlying43 rfl sizeIE2 ?_)
  refine (Qt4.out _ T3.out.hv.e4).mono ?_
  rintro e w4 ⟨rfl, hb4⟩
  have T4 := hid (T3.out.later hb4)
  clear hb4 T3 k0 k1
  have k0 := rng0 T4.out.rg
  have k1 := rng1 T4.out.rg
  go_wp2_with fail
  refine (spec_NameOk h.s t5 H5.out (by have := HX.out; omega) _).mono ?_
  rintro e w5 ⟨rfl, hb5⟩
  have T5 := hid (T4.out.later hb5)
  clear hb5 T4 k0 k1
  have k0 := rng0 T5.out.rg
  have k1 := rng1 T5.out.rg
  go_wp2_with (refine wpList_load_mid rfl 43 _ rfl w.heap.size 2 rfl _ _ (part1 T5.out.rg) Tryz.underlying43 rfl sizeIE2 ?_)
  refine (Qb1.out _ T5.out.hv.e1).mono ?_
  rintro e w6 ⟨rfl, hb6⟩
  have T6 := hid (T5.out.later hb6)
  clear hb6 T5 k0 k1
  have k0 := rng0 T6.out.rg
  have k1 := rng1 T6.out.rg
  have c18 := part5 T6.out.rg
  cases b1 with
  | false =>
    go_wp2
    go_ret
    exact ⟨100, rfl, CnS.bad (by simp [HT.out]), T6.out.low⟩
  | true =>
  cases t2 with
  | false =>
    go_wp2
    go_ret
    exact ⟨100, rfl, CnS.bad (by simp [HT.out]), T6.out.low⟩
  | true =>
  cases t3 with
  | false =>
    go_wp2
    go_ret
    exact ⟨100, rfl, CnS.bad (by simp [HT.out]), T6.out.low⟩
  | true =>
  cases t4 with
  | false =>
    go_wp2
    go_ret
    exact ⟨100, rfl, CnS.bad (by simp [HT.out]), T6.out.low⟩
  | true =>
  cases t5 with
  | false =>
    go_wp2
    go_ret
    exact ⟨100, rfl, CnS.bad (by simp [HT.out]), T6.out.low⟩
  | true =>
  go_wp2_with fail
  refine (l1In_is h.k 1 4 _).mono ?_
  rintro e wz ⟨rfl, hbz⟩
  subst hbz
  rw [Hin.out]
  by_cases hz : slen l = 0
  · have h1 : ¬ (0 : Int) < (slen l : Int) := by omega
    have Hz := hid hz
    clear hz
    go_wp2
    go_ret
    exact ⟨1, rfl, CnS.one (by rw [HT.out, Hz.out]; rfl) Hz.out, T6.out.low⟩
  · have h1 : (0 : Int) < (slen l : Int) := by omega
    have Hz := hid hz
    clear hz
    go_wp2
    go_ret
    exact ⟨100, rfl, CnS.bad (by rw [HT.out, decide_eq_false Hz.out]; rfl), T6.out.low⟩
theorem l3S_4 (D : Nat) (hD : D ≤ 3) (h : SH) (l : SF) (hk : h.k = 4) (hsz : hsize h + ssize l ≤ 1048576)
    (w : World) (v1 v2 v3 v4 v : Value) (hv : HV w 0 h v1 v2 v3 v4) (hl : SV w 0 l v) :
    Calls Tryz.prog 150 #[sagg h v1 v2 v3 v4 v, .int .i64 (3 - (D : Int))] w fun e w' => ∃ r : Nat, e = .returned (.int .i64 (r : Int)) ∧ CnS D h l r ∧ Below w.heap.size w w' := by
  have T0 := hid (Bxs.start 98 hv hl)
  have hsx : xsize h.x1 ≤ 1048576 ∧ xsize h.x2 ≤ 1048576 ∧ xsize h.x3 ≤ 1048576 ∧ xsize h.x4 ≤ 1048576 ∧ h.s.size ≤ 1048576 ∧ ssize l ≤ 1048576 := by unfold hsize at hsz; omega
  have HX := hid hsx
  obtain ⟨a1, ha1⟩ : ∃ t, noX h.x1 = t := ⟨_, rfl⟩
  have Qa1 : Hid (∀ w, EV w 0 h.x1.l v1 → Calls Tryz.prog 167 #[.agg (xC h.x1 v1).toArray] w fun e w' => e = .returned (.bool a1) ∧ Below w.heap.size w w') := fun w p => by rw [← ha1]; exact l3No_is h.x1 w v1 p
  obtain ⟨t2, ht2⟩ : ∃ t, expOk h.x2 = t := ⟨_, rfl⟩
  have Qt2 : Hid (∀ w, EV w 0 h.x2.l v2 → Calls Tryz.prog 44 #[.agg (xC h.x2 v2).toArray] w fun e w' => e = .returned (.bool t2) ∧ Below w.heap.size w w') := fun w p => by rw [← ht2]; exact spec_ExpOk h.x2 HX.out.2.1 w v2 p
  obtain ⟨t3, ht3⟩ : ∃ t, noX h.x3 = t := ⟨_, rfl⟩
  have Qt3 : Hid (∀ w, EV w 0 h.x3.l v3 → Calls Tryz.prog 167 #[.agg (xC h.x3 v3).toArray] w fun e w' => e = .returned (.bool t3) ∧ Below w.heap.size w w') := fun w p => by rw [← ht3]; exact l3No_is h.x3 w v3 p
  obtain ⟨t4, ht4⟩ : ∃ t, noX h.x4 = t := ⟨_, rfl⟩
  have Qt4 : Hid (∀ w, EV w 0 h.x4.l v4 → Calls Tryz.prog 167 #[.agg (xC h.x4 v4).toArray] w fun e w' => e = .returned (.bool t4) ∧ Below w.heap.size w w') := fun w p => by rw [← ht4]; exact l3No_is h.x4 w v4 p
  obtain ⟨t5, ht5⟩ : ∃ t, nameOk h.s.data.toList = t := ⟨_, rfl⟩
  have H5 := hid ht5
  obtain ⟨ts, hts⟩ : ∃ t, decide (h.s.size = 0) = t := ⟨_, rfl⟩
  have Hs := hid hts
  have HT : Hid (toldSt D h l = ((ts && (t2 && (a1 && (t3 && t4)))) && (decide (slen l = 0)))) := show toldSt D h l = _ by
    have e1 : headOk h = (ts && (t2 && (a1 && (t3 && t4)))) := by rw [← ha1, ← ht2, ← ht3, ← ht4, ← hts]; simp [headOk, hk]
    unfold toldSt; rw [e1]; simp [hk]
  have e1 : (h.k == 1) = false := by rw [hk]; rfl
  have e2 : (h.k == 2) = false := by rw [hk]; rfl
  have e3 : (h.k == 3) = false := by rw [hk]; rfl
  have e4 : (h.k == 4) = true := by rw [hk]; rfl
  have e3n : (h.k != 3) = true := by rw [bne, e3]; rfl
  have hin1 : (decide ((1 : Int) ≤ h.k) && decide (h.k ≤ 4)) = true := by rw [hk]; rfl
  have Hin := hid hin1
  obtain ⟨va, vc, rfl⟩ := hl.shape
  have hDI : (D : Int) ≤ 3 := by omega
  clear hv hl hsz hsx hk hin1 ha1 ht2 ht3 ht4 ht5 hts
  go_enter Tryz.func150, Tryz.ntmps150
  go_wp2_with (refine wpList_load_mid rfl 43 _ rfl w.heap.size 2 rfl _ _ (part1 T0.out.rg) Tryz.underlying43 rfl sizeIE2 ?_)
  refine (Qa1.out _ T0.out.hv.e1).mono ?_
  rintro e w1 ⟨rfl, hb1⟩
  have T1 := hid (T0.out.later hb1)
  clear hb1 T0
  have k0 := rng0 T1.out.rg
  have k1 := rng1 T1.out.rg
  go_wp2_with (refine wpList_load_mid rfl 43 _ rfl w.heap.size 6 rfl _ _ (part2 T1.out.rg) Tryz.underlying43 rfl sizeIE2 ?_)
  refine (Qt2.out _ T1.out.hv.e2).mono ?_
  rintro e w2 ⟨rfl, hb2⟩
  have T2 := hid (T1.out.later hb2)
  clear hb2 T1 k0 k1
  have k0 := rng0 T2.out.rg
  have k1 := rng1 T2.out.rg
  go_wp2_with (refine wpList_load_mid rfl 43 _ rfl w.heap.size 10 rfl _ _ (part3 T2.out.rg) Tryz.underlying43 rfl sizeIE2 ?_)
  refine (Qt3.out _ T2.out.hv.e3).mono ?_
  rintro e w3 ⟨rfl, hb3⟩
  have T3 := hid (T2.out.later hb3)
  clear hb3 T2 k0 k1
  have k0 := rng0 T3.out.rg
  have k1 := rng1 T3.out.rg
  go_wp2_with (refine wpList_load_mid rfl 43 _ rfl w.heap.size 14 rfl _ _ (part4 T3.out.rg) Tryz.underlying43 rfl sizeIE2 ?_)
  refine (Qt4.out _ T3.out.hv.e4).mono ?_
  rintro e w4 ⟨rfl, hb4⟩
  have T4 := hid (T3.out.later hb4)
  clear hb4 T3 k0 k1
  have k0 := rng0 T4.out.rg
  have k1 := rng1 T4.out.rg
  go_wp2_with fail
  refine (spec_NameOk h.s t5 H5.out (by have := HX.out; omega) _).mono ?_
  rintro e w5 ⟨rfl, hb5⟩
  have T5 := hid (T4.out.later hb5)
  clear hb5 T4 k0 k1
  have k0 := rng0 T5.out.rg
  have k1 := rng1 T5.out.rg
  have c18 := part5 T5.out.rg
  have hse : (h.s.toList == []) = ts := by
    cases ts with
    | true => exact str_empty (by simpa using Hs.out)
    | false => exact str_full (by simpa using Hs.out)
  cases a1 with
  | false =>
    go_wp2
    go_ret
    exact ⟨100, rfl, CnS.bad (by simp [HT.out]), T5.out.low⟩
  | true =>
  cases t2 with
  | false =>
    go_wp2
    go_ret
    exact ⟨100, rfl, CnS.bad (by simp [HT.out]), T5.out.low⟩
  | true =>
  cases t3 with
  | false =>
    go_wp2
    go_ret
    exact ⟨100, rfl, CnS.bad (by simp [HT.out]), T5.out.low⟩
  | true =>
  cases t4 with
  | false =>
    go_wp2
    go_ret
    exact ⟨100, rfl, CnS.bad (by simp [HT.out]), T5.out.low⟩
  | true =>
  cases ts with
  | false =>
    go_wp2
    go_ret
    exact ⟨100, rfl, CnS.bad (by simp [HT.out]), T5.out.low⟩
  | true =>
  go_wp2_with fail
  refine (l1In_is h.k 1 4 _).mono ?_
  rintro e wz ⟨rfl, hbz⟩
  subst hbz
  rw [Hin.out]
  by_cases hz : slen l = 0
  · have h1 : ¬ (0 : Int) < (slen l : Int) := by omega
    have Hz := hid hz
    clear hz
    go_wp2
    go_ret
    exact ⟨1, rfl, CnS.one (by rw [HT.out, Hz.out]; rfl) Hz.out, T5.out.low⟩
  · have h1 : (0 : Int) < (slen l : Int) := by omega
    have Hz := hid hz
    clear hz
    go_wp2
    go_ret
    exact ⟨100, rfl, CnS.bad (by rw [HT.out, decide_eq_false Hz.out]; rfl), T5.out.low⟩
theorem l3S_0 (D : Nat) (hD : D ≤ 3) (h : SH) (l : SF) (hk : ¬ (1 ≤ h.k ∧ h.k ≤ 4)) (hsz : hsize h + ssize l ≤ 1048576)
    (w : World) (v1 v2 v3 v4 v : Value) (hv : HV w 0 h v1 v2 v3 v4) (hl : SV w 0 l v) :
    Calls Tryz.prog 150 #[sagg h v1 v2 v3 v4 v, .int .i64 (3 - (D : Int))] w fun e w' => ∃ r : Nat, e = .returned (.int .i64 (r : Int)) ∧ CnS D h l r ∧ Below w.heap.size w w' := by
  have T0 := hid (Bxs.start 98 hv hl)
  have hsx : xsize h.x1 ≤ 1048576 ∧ xsize h.x2 ≤ 1048576 ∧ xsize h.x3 ≤ 1048576 ∧ xsize h.x4 ≤ 1048576 ∧ h.s.size ≤ 1048576 ∧ ssize l ≤ 1048576 := by unfold hsize at hsz; omega
  have HX := hid hsx
  obtain ⟨a1, ha1⟩ : ∃ t, noX h.x1 = t := ⟨_, rfl⟩
  have Qa1 : Hid (∀ w, EV w 0 h.x1.l v1 → Calls Tryz.prog 167 #[.agg (xC h.x1 v1).toArray] w fun e w' => e = .returned (.bool a1) ∧ Below w.heap.size w w') := fun w p => by rw [← ha1]; exact l3No_is h.x1 w v1 p
  obtain ⟨t2, ht2⟩ : ∃ t, expOk h.x2 = t := ⟨_, rfl⟩
  have Qt2 : Hid (∀ w, EV w 0 h.x2.l v2 → Calls Tryz.prog 44 #[.agg (xC h.x2 v2).toArray] w fun e w' => e = .returned (.bool t2) ∧ Below w.heap.size w w') := fun w p => by rw [← ht2]; exact spec_ExpOk h.x2 HX.out.2.1 w v2 p
  obtain ⟨t3, ht3⟩ : ∃ t, noX h.x3 = t := ⟨_, rfl⟩
  have Qt3 : Hid (∀ w, EV w 0 h.x3.l v3 → Calls Tryz.prog 167 #[.agg (xC h.x3 v3).toArray] w fun e w' => e = .returned (.bool t3) ∧ Below w.heap.size w w') := fun w p => by rw [← ht3]; exact l3No_is h.x3 w v3 p
  obtain ⟨t4, ht4⟩ : ∃ t, noX h.x4 = t := ⟨_, rfl⟩
  have Qt4 : Hid (∀ w, EV w 0 h.x4.l v4 → Calls Tryz.prog 167 #[.agg (xC h.x4 v4).toArray] w fun e w' => e = .returned (.bool t4) ∧ Below w.heap.size w w') := fun w p => by rw [← ht4]; exact l3No_is h.x4 w v4 p
  obtain ⟨t5, ht5⟩ : ∃ t, nameOk h.s.data.toList = t := ⟨_, rfl⟩
  have H5 := hid ht5
  have HT : Hid (toldSt D h l = false) := show toldSt D h l = false by
    have : headOk h = false := by
      unfold headOk
      rw [if_neg (by omega), if_neg (by omega), if_neg (by omega), if_neg (by omega)]
    simp [toldSt, this]
  have e1 : (h.k == 1) = false := int_ne (by omega)
  have e2 : (h.k == 2) = false := int_ne (by omega)
  have e3 : (h.k == 3) = false := int_ne (by omega)
  have e4 : (h.k == 4) = false := int_ne (by omega)
  have e3n : (h.k != 3) = true := by rw [bne, e3]; rfl
  have hin1 : (decide ((1 : Int) ≤ h.k) && decide (h.k ≤ 4)) = false := by
    cases e : (decide ((1 : Int) ≤ h.k) && decide (h.k ≤ 4)) with
    | false => rfl
    | true => rw [Bool.and_eq_true, decide_eq_true_eq, decide_eq_true_eq] at e; exact absurd e hk
  have Hin := hid hin1
  obtain ⟨va, vc, rfl⟩ := hl.shape
  have hDI : (D : Int) ≤ 3 := by omega
  clear hv hl hsz hsx hk hin1 ha1 ht2 ht3 ht4 ht5
  go_enter Tryz.func150, Tryz.ntmps150
  go_wp2_with (refine wpList_load_mid rfl 43 _ rfl w.heap.size 2 rfl _ _ (part1 T0.out.rg) Tryz.underlying43 rfl sizeIE2 ?_)
  refine (Qa1.out _ T0.out.hv.e1).mono ?_
  rintro e w1 ⟨rfl, hb1⟩
  have T1 := hid (T0.out.later hb1)
  clear hb1 T0
  have k0 := rng0 T1.out.rg
  have k1 := rng1 T1.out.rg
  go_wp2_with (refine wpList_load_mid rfl 43 _ rfl w.heap.size 6 rfl _ _ (part2 T1.out.rg) Tryz.underlying43 rfl sizeIE2 ?_)
  refine (Qt2.out _ T1.out.hv.e2).mono ?_
  rintro e w2 ⟨rfl, hb2⟩
  have T2 := hid (T1.out.later hb2)
  clear hb2 T1 k0 k1
  have k0 := rng0 T2.out.rg
  have k1 := rng1 T2.out.rg
  go_wp2_with (refine wpList_load_mid rfl 43 _ rfl w.heap.size 10 rfl _ _ (part3 T2.out.rg) Tryz.underlying43 rfl sizeIE2 ?_)
  refine (Qt3.out _ T2.out.hv.e3).mono ?_
  rintro e w3 ⟨rfl, hb3⟩
  have T3 := hid (T2.out.later hb3)
  clear hb3 T2 k0 k1
  have k0 := rng0 T3.out.rg
  have k1 := rng1 T3.out.rg
  go_wp2_with (refine wpList_load_mid rfl 43 _ rfl w.heap.size 14 rfl _ _ (part4 T3.out.rg) Tryz.underlying43 rfl sizeIE2 ?_)
  refine (Qt4.out _ T3.out.hv.e4).mono ?_
  rintro e w4 ⟨rfl, hb4⟩
  have T4 := hid (T3.out.later hb4)
  clear hb4 T3 k0 k1
  have k0 := rng0 T4.out.rg
  have k1 := rng1 T4.out.rg
  go_wp2_with fail
  refine (spec_NameOk h.s t5 H5.out (by have := HX.out; omega) _).mono ?_
  rintro e w5 ⟨rfl, hb5⟩
  have T5 := hid (T4.out.later hb5)
  clear hb5 T4 k0 k1
  have k0 := rng0 T5.out.rg
  have k1 := rng1 T5.out.rg
  have c18 := part5 T5.out.rg
  cases a1 with
  | false =>
    go_wp2
    go_ret
    exact ⟨100, rfl, CnS.bad (by simp [HT.out]), T5.out.low⟩
  | true =>
  cases t2 with
  | false =>
    go_wp2
    go_ret
    exact ⟨100, rfl, CnS.bad (by simp [HT.out]), T5.out.low⟩
  | true =>
  cases t3 with
  | false =>
    go_wp2
    go_ret
    exact ⟨100, rfl, CnS.bad (by simp [HT.out]), T5.out.low⟩
  | true =>
  cases t4 with
  | false =>
    go_wp2
    go_ret
    exact ⟨100, rfl, CnS.bad (by simp [HT.out]), T5.out.low⟩
  | true =>
  cases t5 with
  | false =>
    go_wp2
    go_ret
    exact ⟨100, rfl, CnS.bad (by simp [HT.out]), T5.out.low⟩
  | true =>
  go_wp2_with fail
  refine (l1In_is h.k 1 4 _).mono ?_
  rintro e wz ⟨rfl, hbz⟩
  subst hbz
  rw [Hin.out]
  go_wp2
  go_ret
  exact ⟨100, rfl, CnS.bad HT.out, T5.out.low⟩
theorem l3S_3 (D : Nat) (hD : D ≤ 3) (h : SH) (l : SF) (hk : h.k = 3) (hsz : hsize h + ssize l ≤ 1048576)
    (ih : ∀ (g : SH) (m : SF), hsize g + ssize m ≤ 1048576 → ∀ (w : World) (v1 v2 v3 v4 v : Value), HV w 0 g v1 v2 v3 v4 → SV w 0 m v → 1 ≤ D → Calls Tryz.prog 150 #[.agg (scells g v1 v2 v3 v4 v).toArray, .int .i64 (4 - (D : Int))] w fun e w' => ∃ r : Nat, e = .returned (.int .i64 (r : Int)) ∧ CnS (D - 1) g m r ∧ Below w.heap.size w w')
    (w : World) (v1 v2 v3 v4 v : Value) (hv : HV w 0 h v1 v2 v3 v4) (hl : SV w 0 l v) :
    Calls Tryz.prog 150 #[sagg h v1 v2 v3 v4 v, .int .i64 (3 - (D : Int))] w fun e w' => ∃ r : Nat, e = .returned (.int .i64 (r : Int)) ∧ CnS D h l r ∧ Below w.heap.size w w' := by
  have T0 := hid (Bxs.start 98 hv hl)
  have hsx : xsize h.x1 ≤ 1048576 ∧ xsize h.x2 ≤ 1048576 ∧ xsize h.x3 ≤ 1048576 ∧ xsize h.x4 ≤ 1048576 ∧ h.s.size ≤ 1048576 ∧ ssize l ≤ 1048576 := by unfold hsize at hsz; omega
  have HX := hid hsx
  obtain ⟨a1, ha1⟩ : ∃ t, noX h.x1 = t := ⟨_, rfl⟩
  have Qa1 : Hid (∀ w, EV w 0 h.x1.l v1 → Calls Tryz.prog 167 #[.agg (xC h.x1 v1).toArray] w fun e w' => e = .returned (.bool a1) ∧ Below w.heap.size w w') := fun w p => by rw [← ha1]; exact l3No_is h.x1 w v1 p
  obtain ⟨t2, ht2⟩ : ∃ t, expOk h.x2 = t := ⟨_, rfl⟩
  have Qt2 : Hid (∀ w, EV w 0 h.x2.l v2 → Calls Tryz.prog 44 #[.agg (xC h.x2 v2).toArray] w fun e w' => e = .returned (.bool t2) ∧ Below w.heap.size w w') := fun w p => by rw [← ht2]; exact spec_ExpOk h.x2 HX.out.2.1 w v2 p
  obtain ⟨t3, ht3⟩ : ∃ t, noX h.x3 = t := ⟨_, rfl⟩
  have Qt3 : Hid (∀ w, EV w 0 h.x3.l v3 → Calls Tryz.prog 167 #[.agg (xC h.x3 v3).toArray] w fun e w' => e = .returned (.bool t3) ∧ Below w.heap.size w w') := fun w p => by rw [← ht3]; exact l3No_is h.x3 w v3 p
  obtain ⟨t4, ht4⟩ : ∃ t, noX h.x4 = t := ⟨_, rfl⟩
  have Qt4 : Hid (∀ w, EV w 0 h.x4.l v4 → Calls Tryz.prog 167 #[.agg (xC h.x4 v4).toArray] w fun e w' => e = .returned (.bool t4) ∧ Below w.heap.size w w') := fun w p => by rw [← ht4]; exact l3No_is h.x4 w v4 p
  obtain ⟨b2, hb2⟩ : ∃ t, noX h.x2 = t := ⟨_, rfl⟩
  have Qb2 : Hid (∀ w, EV w 0 h.x2.l v2 → Calls Tryz.prog 167 #[.agg (xC h.x2 v2).toArray] w fun e w' => e = .returned (.bool b2) ∧ Below w.heap.size w w') := fun w p => by rw [← hb2]; exact l3No_is h.x2 w v2 p
  obtain ⟨b3, hb3⟩ : ∃ t, expOk h.x3 = t := ⟨_, rfl⟩
  have Qb3 : Hid (∀ w, EV w 0 h.x3.l v3 → Calls Tryz.prog 44 #[.agg (xC h.x3 v3).toArray] w fun e w' => e = .returned (.bool b3) ∧ Below w.heap.size w w') := fun w p => by rw [← hb3]; exact spec_ExpOk h.x3 HX.out.2.2.1 w v3 p
  obtain ⟨b4, hb4⟩ : ∃ t, expOk h.x4 = t := ⟨_, rfl⟩
  have Qb4 : Hid (∀ w, EV w 0 h.x4.l v4 → Calls Tryz.prog 44 #[.agg (xC h.x4 v4).toArray] w fun e w' => e = .returned (.bool b4) ∧ Below w.heap.size w w') := fun w p => by rw [← hb4]; exact spec_ExpOk h.x4 HX.out.2.2.2.1 w v4 p
  obtain ⟨t5, ht5⟩ : ∃ t, nameOk h.s.data.toList = t := ⟨_, rfl⟩
  have H5 := hid ht5
  have HT : Hid (toldSt D h l = ((t5 && ((b3 && b4) && (a1 && b2))) && (decide (1 ≤ D) && bodyTold (D - 1) l))) := show toldSt D h l = _ by
    have e1 : headOk h = (t5 && ((b3 && b4) && (a1 && b2))) := by rw [← ha1, ← hb2, ← hb3, ← hb4, ← ht5]; simp [headOk, hk]
    unfold toldSt; rw [e1]; simp [hk]
  have e1 : (h.k == 1) = false := by rw [hk]; rfl
  have e2 : (h.k == 2) = false := by rw [hk]; rfl
  have e3 : (h.k == 3) = true := by rw [hk]; rfl
  have e4 : (h.k == 4) = false := by rw [hk]; rfl
  have e3n : (h.k != 3) = false := by rw [bne, e3]; rfl
  have hin1 : (decide ((1 : Int) ≤ h.k) && decide (h.k ≤ 4)) = true := by rw [hk]; rfl
  have Hin := hid hin1
  obtain ⟨va, vc, rfl⟩ := hl.shape
  have Hih := hid ih
  clear ih
  have hDI : (D : Int) ≤ 3 := by omega
  clear hv hl hsz hsx hk hin1 ha1 ht2 ht3 ht4 hb2 hb3 hb4 ht5
  go_enter Tryz.func150, Tryz.ntmps150
  go_wp2_with (refine wpList_load_mid rfl 43 _ rfl w.heap.size 2 rfl _ _ (part1 T0.out.rg) Tryz.underlying43 rfl sizeIE2 ?_)
  refine (Qa1.out _ T0.out.hv.e1).mono ?_
  rintro e w1 ⟨rfl, hb1⟩
  have T1 := hid (T0.out.later hb1)
  clear hb1 T0
  have k0 := rng0 T1.out.rg
  have k1 := rng1 T1.out.rg
  go_wp2_with (refine wpList_load_mid rfl 43 _ rfl w.heap.size 6 rfl _ _ (part2 T1.out.rg) Tryz.underlying43 rfl sizeIE2 ?_)
  refine (Qt2.out _ T1.out.hv.e2).mono ?_
  rintro e w2 ⟨rfl, hb2⟩
  have T2 := hid (T1.out.later hb2)
  clear hb2 T1 k0 k1
  have k0 := rng0 T2.out.rg
  have k1 := rng1 T2.out.rg
  go_wp2_with (refine wpList_load_mid rfl 43 _ rfl w.heap.size 10 rfl _ _ (part3 T2.out.rg) Tryz.underlying43 rfl sizeIE2 ?_)
  refine (Qt3.out _ T2.out.hv.e3).mono ?_
  rintro e w3 ⟨rfl, hb3⟩
  have T3 := hid (T2.out.later hb3)
  clear hb3 T2 k0 k1
  have k0 := rng0 T3.out.rg
  have k1 := rng1 T3.out.rg
  go_wp2_with (refine wpList_load_mid rfl 43 _ rfl w.heap.size 14 rfl _ _ (part4 T3.out.rg) Tryz.underlying43 rfl sizeIE2 ?_)
  refine (Qt4.out _ T3.out.hv.e4).mono ?_
  rintro e w4 ⟨rfl, hb4⟩
  have T4 := hid (T3.out.later hb4)
  clear hb4 T3 k0 k1
  have k0 := rng0 T4.out.rg
  have k1 := rng1 T4.out.rg
  go_wp2_with fail
  refine (spec_NameOk h.s t5 H5.out (by have := HX.out; omega) _).mono ?_
  rintro e w5 ⟨rfl, hb5⟩
  have T5 := hid (T4.out.later hb5)
  clear hb5 T4 k0 k1
  have k0 := rng0 T5.out.rg
  have k1 := rng1 T5.out.rg
  go_wp2_with (refine wpList_load_mid rfl 43 _ rfl w.heap.size 6 rfl _ _ (part2 T5.out.rg) Tryz.underlying43 rfl sizeIE2 ?_)
  refine (Qb2.out _ T5.out.hv.e2).mono ?_
  rintro e w6 ⟨rfl, hb6⟩
  have T6 := hid (T5.out.later hb6)
  clear hb6 T5 k0 k1
  have k0 := rng0 T6.out.rg
  have k1 := rng1 T6.out.rg
  go_wp2_with (refine wpList_load_mid rfl 43 _ rfl w.heap.size 10 rfl _ _ (part3 T6.out.rg) Tryz.underlying43 rfl sizeIE2 ?_)
  refine (Qb3.out _ T6.out.hv.e3).mono ?_
  rintro e w7 ⟨rfl, hb7⟩
  have T7 := hid (T6.out.later hb7)
  clear hb7 T6 k0 k1
  have k0 := rng0 T7.out.rg
  have k1 := rng1 T7.out.rg
  go_wp2_with (refine wpList_load_mid rfl 43 _ rfl w.heap.size 14 rfl _ _ (part4 T7.out.rg) Tryz.underlying43 rfl sizeIE2 ?_)
  refine (Qb4.out _ T7.out.hv.e4).mono ?_
  rintro e w8 ⟨rfl, hb8⟩
  have T8 := hid (T7.out.later hb8)
  clear hb8 T7 k0 k1
  have k0 := rng0 T8.out.rg
  have k1 := rng1 T8.out.rg
  have c18 := part5 T8.out.rg
  cases a1 with
  | false =>
    go_wp2
    go_ret
    exact ⟨100, rfl, CnS.bad (by simp [HT.out]), T8.out.low⟩
  | true =>
  cases b2 with
  | false =>
    go_wp2
    go_ret
    exact ⟨100, rfl, CnS.bad (by simp [HT.out]), T8.out.low⟩
  | true =>
  cases b3 with
  | false =>
    go_wp2
    go_ret
    exact ⟨100, rfl, CnS.bad (by simp [HT.out]), T8.out.low⟩
  | true =>
  cases b4 with
  | false =>
    go_wp2
    go_ret
    exact ⟨100, rfl, CnS.bad (by simp [HT.out]), T8.out.low⟩
  | true =>
  cases t5 with
  | false =>
    go_wp2
    go_ret
    exact ⟨100, rfl, CnS.bad (by simp [HT.out]), T8.out.low⟩
  | true =>
  go_wp2_with fail
  refine (l1In_is h.k 1 4 _).mono ?_
  rintro e wz ⟨rfl, hbz⟩
  subst hbz
  rw [Hin.out]
  by_cases hD0 : D = 0
  · have h1 : (3 : Int) ≤ 3 - (D : Int) := by omega
    have HD0 := hid hD0
    clear hD0
    go_wp2
    go_ret
    exact ⟨100, rfl, CnS.bad (by rw [HT.out, HD0.out]; rfl), T8.out.low⟩
  have h1 : ¬ (3 : Int) ≤ 3 - (D : Int) := by omega
  have HD0 := hid hD0
  clear hD0
  go_wp2_with fail
  refine (l1In_is (slen l : Int) 1 6 _).mono ?_
  rintro e wy ⟨rfl, hby⟩
  subst hby
  by_cases hb6 : 1 ≤ slen l ∧ slen l ≤ 6
  case neg =>
    rw [show (decide ((1 : Int) ≤ (slen l : Int)) && decide ((slen l : Int) ≤ 6)) = false by
      cases e : (decide ((1 : Int) ≤ (slen l : Int)) && decide ((slen l : Int) ≤ 6)) with
      | false => rfl
      | true => rw [Bool.and_eq_true, decide_eq_true_eq, decide_eq_true_eq] at e; exact absurd ⟨by omega, by omega⟩ hb6]
    have hbf : Hid (bodyTold (D - 1) l = false) := show bodyTold (D - 1) l = false by
      cases e : bodyTold (D - 1) l with
      | false => rfl
      | true =>
        unfold bodyTold at e
        rw [Bool.and_eq_true, Bool.and_eq_true, decide_eq_true_eq, decide_eq_true_eq] at e
        exact absurd ⟨e.1, e.2.1⟩ hb6
    clear hb6
    go_wp2
    go_ret
    exact ⟨100, rfl, CnS.bad (by rw [HT.out, hbf.out]; simp), T8.out.low⟩
  rw [show (decide ((1 : Int) ≤ (slen l : Int)) && decide ((slen l : Int) ≤ 6)) = true by rw [decide_eq_true (by omega), decide_eq_true (by omega)]; rfl]
  have HT2 : Hid (toldSt D h l = toldS (D - 1) l) := show toldSt D h l = toldS (D - 1) l by
    rw [HT.out]; unfold bodyTold
    rw [decide_eq_true (show 1 ≤ D by have := HD0.out; omega), decide_eq_true hb6.1, decide_eq_true hb6.2]; rfl
  have hl6 : (slen l : Int) ≤ 6 := by omega
  obtain ⟨bb, oo, ao, cap, hval, hao, _, hin⟩ := T8.out.sv
  injection hval with hva1 hva2 hva3
  subst hva1
  have HI := hid (And.intro hao hin)
  have H0 := T8
  clear hb6 hva2 hva3 hao hin
  go_wp2
  clear k0 k1 c18
  go_loopw [10, 11] (fun y i wr => ∃ (R : SF) (k c : Nat), i = .int .i64 (k : Int) ∧ y = .int .i64 (c : Int) ∧ Hid (CsM w8 (D - 1) l R k c bb oo) ∧ Hid (Below w8.heap.size w8 wr ∧ Bxs w wr w.heap.size h l v1 v2 v3 v4 (.slice va (slen l) vc))) (fun _ i _ => slen l - (RowKit.intOf i).toNat)
  case atStart => exact ⟨l, 0, 1, rfl, rfl, ⟨by simpa using HI.out.2, by omega, HX.out.2.2.2.2.2, fun _ => ⟨rfl, by omega⟩, fun h => by omega, by omega⟩, ⟨Below.refl _ _, H0.out⟩⟩
  case round =>
    obtain ⟨R, k, c, rfl, rfl, hm, hT⟩ := hrel
    have c18 := part5 hT.out.2.rg
    have hcb := hm.out.big
    have hcI : (c : Int) ≤ 640 := by omega
    cases R with
    | nil =>
      have hk : ¬ (k : Int) < (slen l : Int) := by have := hm.out.num; simp only [slen] at this; omega
      go_wp2
      go_ret
      refine ⟨c, rfl, ⟨fun hok => ?_, fun hok => ?_, by have := HD0.out; omega⟩, hT.out.2.low⟩
      · rcases Nat.lt_or_ge 40 c with h6 | h6
        · exact absurd ⟨by have := hok.1; rw [HT2.out] at this; exact this, hok.2⟩ (hm.out.high h6)
        · have := (hm.out.low h6).2; simp only [snodes] at this; omega
      · rcases Nat.lt_or_ge 40 c with h6 | h6
        · exact h6
        · obtain ⟨g1, g2⟩ := hm.out.low h6
          exact absurd ⟨by rw [HT2.out, g1]; rfl, by simp only [snodes] at g2; omega⟩ hok
    | node p q g m r =>
      have hlt : (k : Int) < (slen l : Int) := by have := hm.out.num; simp only [slen] at this; omega
      by_cases h6 : (c : Int) ≤ 40
      · have hne : ¬ l = .nil := by intro e; have := hm.out.num; rw [e] at this; simp only [slen] at this; omega
        obtain rfl : va = some ⟨bb, oo, Option.none⟩ := HI.out.1.resolve_right hne
        obtain ⟨y1, y2, y3, y4, u, hu, hul, hrg⟩ := (SIn_node.1 (SIn_later hT.out.1 _ _ _ hm.out.at_)).1.range
        have Hrg := hid hrg
        have hsz : hsize g + ssize m ≤ 1048576 := by have := hm.out.siz; simp only [ssize] at this; omega
        have Hl := hid (Hih.out g m hsz)
        have HU := hid (And.intro hu hul)
        have h9 : (3 : Int) - (D : Int) + 1 = 4 - (D : Int) := by omega
        clear hne hsz hu hul hcb hrg
        go_wp2_with (refine wpList_load_mid rfl 98 _ rfl bb (oo + k * 19) rfl _ _ Hrg.out Tryz.underlying98 rfl sizeIS ?_)
        refine (Hl.out _ y1 y2 y3 y4 u HU.out.1 HU.out.2 (by have := HD0.out; omega)).mono ?_
        rintro e w2x ⟨rr, rfl, hrr, hb2⟩
        have hm2 := hid (hm.out.next (by omega) hrr)
        have hrb : (rr : Int) ≤ 640 := by have := hrr.big; omega
        have hT2 : Hid (Below w8.heap.size w8 w2x ∧ Bxs w w2x w.heap.size h l v1 v2 v3 v4 (.slice (some ⟨bb, oo, Option.none⟩) (slen l) vc)) := ⟨hT.out.1.trans (hb2.mono hT.out.1.size), hT.out.2.later hb2⟩
        clear hb2 hrr c18 h9 Hrg hT
        go_wp2
        go_roundw
        case rel => exact ⟨r, k + 1, c + rr, by go_num, by go_num, hm2, hT2⟩
        case measure => simp [RowKit.intOf]; omega
      · go_wp2
        go_ret
        have h6' : 40 < c := by omega
        refine ⟨c, rfl, ⟨fun hok => ?_, fun _ => h6', by have := HD0.out; omega⟩, hT.out.2.low⟩
        exact absurd ⟨by have := hok.1; rw [HT2.out] at this; exact this, hok.2⟩ (hm.out.high h6')
theorem l3Stmt_all : ∀ (D : Nat), D ≤ 3 → ∀ (h : SH) (l : SF), hsize h + ssize l ≤ 1048576 → ∀ (w : World) (v1 v2 v3 v4 v : Value), HV w 0 h v1 v2 v3 v4 → SV w 0 l v → Calls Tryz.prog 150 #[.agg (scells h v1 v2 v3 v4 v).toArray, .int .i64 (3 - (D : Int))] w fun e w' => ∃ r : Nat, e = .returned (.int .i64 (r : Int)) ∧ CnS D h l r ∧ Below w.heap.size w w' := by
  intro D
  induction D with
  | zero =>
    intro hD h l hs w v1 v2 v3 v4 v hv hl
    by_cases hk : 1 ≤ h.k ∧ h.k ≤ 4
    · obtain e | e | e | e : h.k = 1 ∨ h.k = 2 ∨ h.k = 3 ∨ h.k = 4 := by omega
      · exact l3S_1 0 hD h l e hs w v1 v2 v3 v4 v hv hl
      · exact l3S_2 0 hD h l e hs w v1 v2 v3 v4 v hv hl
      · exact l3S_3 0 hD h l e hs (fun _ _ _ _ _ _ _ _ _ _ _ h => absurd h (by omega)) w v1 v2 v3 v4 v hv hl
      · exact l3S_4 0 hD h l e hs w v1 v2 v3 v4 v hv hl
    · exact l3S_0 0 hD h l hk hs w v1 v2 v3 v4 v hv hl
  | succ D ih =>
    intro hD h l hs w v1 v2 v3 v4 v hv hl
    by_cases hk : 1 ≤ h.k ∧ h.k ≤ 4
    · obtain e | e | e | e : h.k = 1 ∨ h.k = 2 ∨ h.k = 3 ∨ h.k = 4 := by omega
      · exact l3S_1 (D + 1) hD h l e hs w v1 v2 v3 v4 v hv hl
      · exact l3S_2 (D + 1) hD h l e hs w v1 v2 v3 v4 v hv hl
      · refine l3S_3 (D + 1) hD h l e hs (fun g m hg w v1 v2 v3 v4 v a b _ => ?_) w v1 v2 v3 v4 v hv hl
        rw [show (4 : Int) - ((D + 1 : Nat) : Int) = 3 - (D : Int) by omega]
        exact ih (by omega) g m hg w v1 v2 v3 v4 v a b
      · exact l3S_4 (D + 1) hD h l e hs w v1 v2 v3 v4 v hv hl
    · exact l3S_0 (D + 1) hD h l hk hs w v1 v2 v3 v4 v hv hl
theorem spec_StmtOk (h : SH) (l : SF) (hs : hsize h + ssize l ≤ 1048576) (w : World) (v1 v2 v3 v4 v : Value) (hv : HV w 0 h v1 v2 v3 v4) (hl : SV w 0 l v) :
    Calls Tryz.prog 114 #[.agg (scells h v1 v2 v3 v4 v).toArray] w fun e w' => e = .returned (.bool (stmtOk h l)) ∧ Below w.heap.size w w' := by
  show Calls Tryz.prog 114 #[sagg h v1 v2 v3 v4 v] w _
  have T0 := hid (Bxs.start 98 hv hl)
  have Hs := hid hs
  clear hv hl hs
  go_enter Tryz.func114, Tryz.ntmps114
  go_wp2_with (refine wpList_load_mid rfl 98 _ rfl w.heap.size 0 rfl _ _ T0.out.rg Tryz.underlying98 rfl sizeIS ?_)
  refine (l3Stmt_all 3 (by omega) h l Hs.out _ v1 v2 v3 v4 v T0.out.hv T0.out.sv).mono ?_
  rintro e w1 ⟨r, rfl, hr, hb1⟩
  have B1 := (T0.out.later hb1).low
  have Hr := hid hr
  clear hb1 hr T0
  by_cases hok : okS 3 h l
  · have h6 : (r : Int) ≤ 40 := by have := Hr.out.yes hok; have := hok.2; omega
    have Hok := hid hok
    clear hok
    go_wp2
    go_ret
    exact retB (by rw [stmtOk, Hok.out.1, decide_eq_true Hok.out.2]; rfl) B1
  · have h6 : ¬ (r : Int) ≤ 40 := by have := Hr.out.no hok; omega
    have hf : Hid (stmtOk h l = false) := show stmtOk h l = false by
      cases e : stmtOk h l with
      | false => rfl
      | true =>
        unfold stmtOk at e
        rw [Bool.and_eq_true, decide_eq_true_eq] at e
        exact absurd e hok
    clear hok
    go_wp2
    go_ret
    exact retB (by rw [hf.out]; symm; first | rfl | (simp; omega)) B1
end Go.Proofs.YtpinockfakndlaaGreat
