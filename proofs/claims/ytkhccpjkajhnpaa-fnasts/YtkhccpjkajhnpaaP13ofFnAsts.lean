/-
  Texts in one: AstStm, AstHead, AstSameS.
-/
import Derived.Test.YtkhccpjkajhnpaaP12ofFnAsts
import Derived.Test.YtkhccpjkajhnpaaP03ofFnAsts
/-
  The contracts of the specification's l3Stmt and StmtOk.
-/
namespace Go.Proofs.Ytkhccpjkajhnpaa
open Go.RowKit Go.Lib
set_option linter.unusedSimpArgs false
set_option linter.unusedVariables false

def okS (D : Nat) (h : SH) (l : SF) : Prop := toldSt D h l = true ∧ snodes l + 1 ≤ 40
structure CnS (D : Nat) (h : SH) (l : SF) (r : Nat) : Prop where
  yes : okS D h l → r = snodes l + 1
  no : ¬ okS D h l → 40 < r
  big : r ≤ 100 + 40 * D
theorem CnS.bad {D : Nat} {h : SH} {l : SF} (hn : toldSt D h l = false) : CnS D h l 100 := ⟨fun e => absurd (e.1.symm.trans hn) (by simp), fun _ => by omega, by omega⟩
theorem CnS.one {D : Nat} {h : SH} {l : SF} (hy : toldSt D h l = true) (hl : slen l = 0) : CnS D h l 1 := by
  have : l = .nil := by
    cases l with
    | nil => rfl
    | node _ _ _ _ _ => simp [slen] at hl
  subst this
  exact ⟨fun _ => rfl, fun e => absurd ⟨hy, by simp [snodes]⟩ e, by omega⟩
/-- Between two rounds. -/
structure CsM (w : World) (D : Nat) (xl R : SF) (k c b o : Nat) : Prop where
  at_ : SIn w 0 R b (o + k * 19)
  num : k + slen R = slen xl
  siz : ssize R ≤ 1048576
  low : c ≤ 40 → toldS D xl = toldS D R ∧ c + snodes R = snodes xl + 1
  high : 40 < c → ¬ (toldS D xl = true ∧ snodes xl + 1 ≤ 40)
  big : c ≤ 140 + 40 * D
theorem CsM.next {w : World} {D p q : Nat} {xl : SF} {h : SH} {l r : SF} {k c b o n : Nat} (m : CsM w D xl (.node p q h l r) k c b o) (hc : c ≤ 40) (hn : CnS D h l n) : CsM w D xl r (k + 1) (c + n) b o := by
  obtain ⟨e1, e2⟩ := m.low hc
  rw [toldS_node] at e1
  have h1 := m.num
  have h2 := m.siz
  simp only [slen, ssize, snodes] at h1 h2 e2
  have hb := hn.big
  by_cases hok : okS D h l
  · have hy := hn.yes hok
    have ht := hok.1
    rw [ht, Bool.true_and] at e1
    refine ⟨by rw [show o + (k + 1) * 19 = o + k * 19 + 19 by omega]; exact (SIn_node.1 m.at_).2, by omega, by omega, fun _ => ⟨e1, by omega⟩, fun hh => ?_, by omega⟩
    intro ⟨_, g2⟩; omega
  · have hy := hn.no hok
    refine ⟨by rw [show o + (k + 1) * 19 = o + k * 19 + 19 by omega]; exact (SIn_node.1 m.at_).2, by omega, by omega, fun hh => by omega, fun hh => ?_, by omega⟩
    intro ⟨g1, g2⟩
    apply hok
    rw [e1, Bool.and_eq_true] at g1
    exact ⟨g1.1, by omega⟩
theorem rng0 {w : World} {b : Nat} {h : SH} {v1 v2 v3 v4 v : Value} (r : w.rangeAt b 0 (scells h v1 v2 v3 v4 v)) : w.cell? ⟨b, 0, Option.none⟩ = some (.int .i64 h.k) := r 0 _ rfl
theorem rng1 {w : World} {b : Nat} {h : SH} {v1 v2 v3 v4 v : Value} (r : w.rangeAt b 0 (scells h v1 v2 v3 v4 v)) : w.cell? ⟨b, 1, Option.none⟩ = some (.string h.s) := r 1 _ rfl
set_option maxHeartbeats 4000000 in
set_option maxRecDepth 100000 in
theorem l3S_1 (D : Nat) (hD : D ≤ 3) (h : SH) (l : SF) (hk : h.k = 1) (hsz : hsize h + ssize l ≤ 1048576)
    (w : World) (v1 v2 v3 v4 v : Value) (hv : HV w 0 h v1 v2 v3 v4) (hl : SV w 0 l v) :
    Calls Try.prog 32 #[sagg h v1 v2 v3 v4 v, .int .i64 (3 - (D : Int))] w fun e w' => ∃ r : Nat, e = .returned (.int .i64 (r : Int)) ∧ CnS D h l r ∧ Below w.heap.size w w' := by
  have T0 := Lib.hid (Bxs.start 30 hv hl)
  have hsx : xsize h.x1 ≤ 1048576 ∧ xsize h.x2 ≤ 1048576 ∧ xsize h.x3 ≤ 1048576 ∧ xsize h.x4 ≤ 1048576 ∧ h.s.size ≤ 1048576 ∧ ssize l ≤ 1048576 := by unfold hsize at hsz; omega
  have HX := Lib.hid hsx
  obtain ⟨a1, ha1⟩ : ∃ t, noX h.x1 = t := ⟨_, rfl⟩
  have Qa1 : Hid (∀ w, EV w 0 h.x1.l v1 → Calls Try.prog 54 #[.agg (xcells h.x1 v1).toArray] w fun e w' => e = .returned (.bool a1) ∧ Below w.heap.size w w') := fun w p => by rw [← ha1]; exact l3No_is h.x1 w v1 p
  obtain ⟨t2, ht2⟩ : ∃ t, expOk h.x2 = t := ⟨_, rfl⟩
  have Qt2 : Hid (∀ w, EV w 0 h.x2.l v2 → Calls Try.prog 11 #[.agg (xcells h.x2 v2).toArray] w fun e w' => e = .returned (.bool t2) ∧ Below w.heap.size w w') := fun w p => by rw [← ht2]; exact spec_ExpOk h.x2 HX.out.2.1 w v2 p
  obtain ⟨t3, ht3⟩ : ∃ t, noX h.x3 = t := ⟨_, rfl⟩
  have Qt3 : Hid (∀ w, EV w 0 h.x3.l v3 → Calls Try.prog 54 #[.agg (xcells h.x3 v3).toArray] w fun e w' => e = .returned (.bool t3) ∧ Below w.heap.size w w') := fun w p => by rw [← ht3]; exact l3No_is h.x3 w v3 p
  obtain ⟨t4, ht4⟩ : ∃ t, noX h.x4 = t := ⟨_, rfl⟩
  have Qt4 : Hid (∀ w, EV w 0 h.x4.l v4 → Calls Try.prog 54 #[.agg (xcells h.x4 v4).toArray] w fun e w' => e = .returned (.bool t4) ∧ Below w.heap.size w w') := fun w p => by rw [← ht4]; exact l3No_is h.x4 w v4 p
  obtain ⟨t5, ht5⟩ : ∃ t, nameOk h.s.data.toList = t := ⟨_, rfl⟩
  have H5 := Lib.hid ht5
  have HT : Hid (toldSt D h l = ((t5 && (t2 && (a1 && (t3 && t4)))) && (decide (slen l = 0)))) := show toldSt D h l = _ by
    have e1 : headOk h = (t5 && (t2 && (a1 && (t3 && t4)))) := by rw [← ha1, ← ht2, ← ht3, ← ht4, ← ht5]; simp [headOk, hk]
    unfold toldSt; rw [e1]; simp [hk]
  have e1 : (h.k == 1) = true := by rw [hk]; rfl
  have e2 : (h.k == 2) = false := by rw [hk]; rfl
  have e3 : (h.k == 3) = false := by rw [hk]; rfl
  have e4 : (h.k == 4) = false := by rw [hk]; rfl
  have e3n : (h.k != 3) = true := by rw [bne, e3]; rfl
  have hin1 : (decide ((1 : Int) ≤ h.k) && decide (h.k ≤ 4)) = true := by rw [hk]; rfl
  have Hin := Lib.hid hin1
  obtain ⟨va, vc, rfl⟩ := hl.shape
  have hDI : (D : Int) ≤ 3 := by omega
  clear hv hl hsz hsx hk hin1 ha1 ht2 ht3 ht4 ht5
  go_enter Try.func32, Try.ntmps32
  go_wp2_with (refine wpList_load_mid rfl 26 _ rfl w.heap.size 2 rfl _ _ (part1 T0.out.rg) Try.underlying26 rfl sizeIE2 ?_)
  refine (Qa1.out _ T0.out.hv.e1).mono ?_
  rintro e w1 ⟨rfl, hb1⟩
  have T1 := Lib.hid (T0.out.later hb1)
  clear hb1 T0
  have k0 := rng0 T1.out.rg
  have k1 := rng1 T1.out.rg
  go_wp2_with (refine wpList_load_mid rfl 26 _ rfl w.heap.size 6 rfl _ _ (part2 T1.out.rg) Try.underlying26 rfl sizeIE2 ?_)
  refine (Qt2.out _ T1.out.hv.e2).mono ?_
  rintro e w2 ⟨rfl, hb2⟩
  have T2 := Lib.hid (T1.out.later hb2)
  clear hb2 T1 k0 k1
  have k0 := rng0 T2.out.rg
  have k1 := rng1 T2.out.rg
  go_wp2_with (refine wpList_load_mid rfl 26 _ rfl w.heap.size 10 rfl _ _ (part3 T2.out.rg) Try.underlying26 rfl sizeIE2 ?_)
  refine (Qt3.out _ T2.out.hv.e3).mono ?_
  rintro e w3 ⟨rfl, hb3⟩
  have T3 := Lib.hid (T2.out.later hb3)
  clear hb3 T2 k0 k1
  have k0 := rng0 T3.out.rg
  have k1 := rng1 T3.out.rg
  go_wp2_with (refine wpList_load_mid rfl 26 _ rfl w.heap.size 14 rfl _ _ (part4 T3.out.rg) Try.underlying26 rfl sizeIE2 ?_)
  refine (Qt4.out _ T3.out.hv.e4).mono ?_
  rintro e w4 ⟨rfl, hb4⟩
  have T4 := Lib.hid (T3.out.later hb4)
  clear hb4 T3 k0 k1
  have k0 := rng0 T4.out.rg
  have k1 := rng1 T4.out.rg
  go_wp2_with fail
  refine (spec_NameOk h.s t5 H5.out (by have := HX.out; omega) _).mono ?_
  rintro e w5 ⟨rfl, hb5⟩
  have T5 := Lib.hid (T4.out.later hb5)
  clear hb5 T4 k0 k1
  have k0 := rng0 T5.out.rg
  have k1 := rng1 T5.out.rg
  have c18 := part5 T5.out.rg
  cases a1 with
  | false =>
    go_wp2
    go_ret
    exact ⟨100, rfl, CnS.bad (by simp [HT.out]), T5.out.low⟩
  | true =>
  cases t2 with
  | false =>
    go_wp2
    go_ret
    exact ⟨100, rfl, CnS.bad (by simp [HT.out]), T5.out.low⟩
  | true =>
  cases t3 with
  | false =>
    go_wp2
    go_ret
    exact ⟨100, rfl, CnS.bad (by simp [HT.out]), T5.out.low⟩
  | true =>
  cases t4 with
  | false =>
    go_wp2
    go_ret
    exact ⟨100, rfl, CnS.bad (by simp [HT.out]), T5.out.low⟩
  | true =>
  cases t5 with
  | false =>
    go_wp2
    go_ret
    exact ⟨100, rfl, CnS.bad (by simp [HT.out]), T5.out.low⟩
  | true =>
  go_wp2_with fail
  refine (l1In_is h.k 1 4 _).mono ?_
  rintro e wz ⟨rfl, hbz⟩
  subst hbz
  rw [Hin.out]
  by_cases hz : slen l = 0
  · have h1 : ¬ (0 : Int) < (slen l : Int) := by omega
    have Hz := Lib.hid hz
    clear hz
    go_wp2
    go_ret
    exact ⟨1, rfl, CnS.one (by rw [HT.out, Hz.out]; rfl) Hz.out, T5.out.low⟩
  · have h1 : (0 : Int) < (slen l : Int) := by omega
    have Hz := Lib.hid hz
    clear hz
    go_wp2
    go_ret
    exact ⟨100, rfl, CnS.bad (by rw [HT.out, decide_eq_false Hz.out]; rfl), T5.out.low⟩
set_option maxHeartbeats 4000000 in
set_option maxRecDepth 100000 in
theorem l3S_2 (D : Nat) (hD : D ≤ 3) (h : SH) (l : SF) (hk : h.k = 2) (hsz : hsize h + ssize l ≤ 1048576)
    (w : World) (v1 v2 v3 v4 v : Value) (hv : HV w 0 h v1 v2 v3 v4) (hl : SV w 0 l v) :
    Calls Try.prog 32 #[sagg h v1 v2 v3 v4 v, .int .i64 (3 - (D : Int))] w fun e w' => ∃ r : Nat, e = .returned (.int .i64 (r : Int)) ∧ CnS D h l r ∧ Below w.heap.size w w' := by
  have T0 := Lib.hid (Bxs.start 30 hv hl)
  have hsx : xsize h.x1 ≤ 1048576 ∧ xsize h.x2 ≤ 1048576 ∧ xsize h.x3 ≤ 1048576 ∧ xsize h.x4 ≤ 1048576 ∧ h.s.size ≤ 1048576 ∧ ssize l ≤ 1048576 := by unfold hsize at hsz; omega
  have HX := Lib.hid hsx
  obtain ⟨a1, ha1⟩ : ∃ t, noX h.x1 = t := ⟨_, rfl⟩
  have Qa1 : Hid (∀ w, EV w 0 h.x1.l v1 → Calls Try.prog 54 #[.agg (xcells h.x1 v1).toArray] w fun e w' => e = .returned (.bool a1) ∧ Below w.heap.size w w') := fun w p => by rw [← ha1]; exact l3No_is h.x1 w v1 p
  obtain ⟨t2, ht2⟩ : ∃ t, expOk h.x2 = t := ⟨_, rfl⟩
  have Qt2 : Hid (∀ w, EV w 0 h.x2.l v2 → Calls Try.prog 11 #[.agg (xcells h.x2 v2).toArray] w fun e w' => e = .returned (.bool t2) ∧ Below w.heap.size w w') := fun w p => by rw [← ht2]; exact spec_ExpOk h.x2 HX.out.2.1 w v2 p
  obtain ⟨t3, ht3⟩ : ∃ t, noX h.x3 = t := ⟨_, rfl⟩
  have Qt3 : Hid (∀ w, EV w 0 h.x3.l v3 → Calls Try.prog 54 #[.agg (xcells h.x3 v3).toArray] w fun e w' => e = .returned (.bool t3) ∧ Below w.heap.size w w') := fun w p => by rw [← ht3]; exact l3No_is h.x3 w v3 p
  obtain ⟨t4, ht4⟩ : ∃ t, noX h.x4 = t := ⟨_, rfl⟩
  have Qt4 : Hid (∀ w, EV w 0 h.x4.l v4 → Calls Try.prog 54 #[.agg (xcells h.x4 v4).toArray] w fun e w' => e = .returned (.bool t4) ∧ Below w.heap.size w w') := fun w p => by rw [← ht4]; exact l3No_is h.x4 w v4 p
  obtain ⟨b1, hb1⟩ : ∃ t, expOk h.x1 = t := ⟨_, rfl⟩
  have Qb1 : Hid (∀ w, EV w 0 h.x1.l v1 → Calls Try.prog 11 #[.agg (xcells h.x1 v1).toArray] w fun e w' => e = .returned (.bool b1) ∧ Below w.heap.size w w') := fun w p => by rw [← hb1]; exact spec_ExpOk h.x1 HX.out.1 w v1 p
  obtain ⟨t5, ht5⟩ : ∃ t, nameOk h.s.data.toList = t := ⟨_, rfl⟩
  have H5 := Lib.hid ht5
  have HT : Hid (toldSt D h l = ((t5 && ((b1 && t2) && (t3 && t4))) && (decide (slen l = 0)))) := show toldSt D h l = _ by
    have e1 : headOk h = (t5 && ((b1 && t2) && (t3 && t4))) := by rw [← hb1, ← ht2, ← ht3, ← ht4, ← ht5]; simp [headOk, hk]
    unfold toldSt; rw [e1]; simp [hk]
  have e1 : (h.k == 1) = false := by rw [hk]; rfl
  have e2 : (h.k == 2) = true := by rw [hk]; rfl
  have e3 : (h.k == 3) = false := by rw [hk]; rfl
  have e4 : (h.k == 4) = false := by rw [hk]; rfl
  have e3n : (h.k != 3) = true := by rw [bne, e3]; rfl
  have hin1 : (decide ((1 : Int) ≤ h.k) && decide (h.k ≤ 4)) = true := by rw [hk]; rfl
  have Hin := Lib.hid hin1
  obtain ⟨va, vc, rfl⟩ := hl.shape
  have hDI : (D : Int) ≤ 3 := by omega
  clear hv hl hsz hsx hk hin1 ha1 ht2 ht3 ht4 hb1 ht5
  go_enter Try.func32, Try.ntmps32
  go_wp2_with (refine wpList_load_mid rfl 26 _ rfl w.heap.size 2 rfl _ _ (part1 T0.out.rg) Try.underlying26 rfl sizeIE2 ?_)
  refine (Qa1.out _ T0.out.hv.e1).mono ?_
  rintro e w1 ⟨rfl, hb1⟩
  have T1 := Lib.hid (T0.out.later hb1)
  clear hb1 T0
  have k0 := rng0 T1.out.rg
  have k1 := rng1 T1.out.rg
  go_wp2_with (refine wpList_load_mid rfl 26 _ rfl w.heap.size 6 rfl _ _ (part2 T1.out.rg) Try.underlying26 rfl sizeIE2 ?_)
  refine (Qt2.out _ T1.out.hv.e2).mono ?_
  rintro e w2 ⟨rfl, hb2⟩
  have T2 := Lib.hid (T1.out.later hb2)
  clear hb2 T1 k0 k1
  have k0 := rng0 T2.out.rg
  have k1 := rng1 T2.out.rg
  go_wp2_with (refine wpList_load_mid rfl 26 _ rfl w.heap.size 10 rfl _ _ (part3 T2.out.rg) Try.underlying26 rfl sizeIE2 ?_)
  refine (Qt3.out _ T2.out.hv.e3).mono ?_
  rintro e w3 ⟨rfl, hb3⟩
  have T3 := Lib.hid (T2.out.later hb3)
  clear hb3 T2 k0 k1
  have k0 := rng0 T3.out.rg
  have k1 := rng1 T3.out.rg
  go_wp2_with (refine wpList_load_mid rfl 26 _ rfl w.heap.size 14 rfl _ _ (part4 T3.out.rg) Try.underlying26 rfl sizeIE2 ?_)
  refine (Qt4.out _ T3.out.hv.e4).mono ?_
  rintro e w4 ⟨rfl, hb4⟩
  have T4 := Lib.hid (T3.out.later hb4)
  clear hb4 T3 k0 k1
  have k0 := rng0 T4.out.rg
  have k1 := rng1 T4.out.rg
  go_wp2_with fail
  refine (spec_NameOk h.s t5 H5.out (by have := HX.out; omega) _).mono ?_
  rintro e w5 ⟨rfl, hb5⟩
  have T5 := Lib.hid (T4.out.later hb5)
  clear hb5 T4 k0 k1
  have k0 := rng0 T5.out.rg
  have k1 := rng1 T5.out.rg
  go_wp2_with (refine wpList_load_mid rfl 26 _ rfl w.heap.size 2 rfl _ _ (part1 T5.out.rg) Try.underlying26 rfl sizeIE2 ?_)
  refine (Qb1.out _ T5.out.hv.e1).mono ?_
  rintro e w6 ⟨rfl, hb6⟩
  have T6 := Lib.hid (T5.out.later hb6)
  clear hb6 T5 k0 k1
  have k0 := rng0 T6.out.rg
  have k1 := rng1 T6.out.rg
  have c18 := part5 T6.out.rg
  cases b1 with
  | false =>
    go_wp2
    go_ret
    exact ⟨100, rfl, CnS.bad (by simp [HT.out]), T6.out.low⟩
  | true =>
  cases t2 with
  | false =>
    go_wp2
    go_ret
    exact ⟨100, rfl, CnS.bad (by simp [HT.out]), T6.out.low⟩
  | true =>
  cases t3 with
  | false =>
    go_wp2
    go_ret
    exact ⟨100, rfl, CnS.bad (by simp [HT.out]), T6.out.low⟩
  | true =>
  cases t4 with
  | false =>
    go_wp2
    go_ret
    exact ⟨100, rfl, CnS.bad (by simp [HT.out]), T6.out.low⟩
  | true =>
  cases t5 with
  | false =>
    go_wp2
    go_ret
    exact ⟨100, rfl, CnS.bad (by simp [HT.out]), T6.out.low⟩
  | true =>
  go_wp2_with fail
  refine (l1In_is h.k 1 4 _).mono ?_
  rintro e wz ⟨rfl, hbz⟩
  subst hbz
  rw [Hin.out]
  by_cases hz : slen l = 0
  · have h1 : ¬ (0 : Int) < (slen l : Int) := by omega
    have Hz := Lib.hid hz
    clear hz
    go_wp2
    go_ret
    exact ⟨1, rfl, CnS.one (by rw [HT.out, Hz.out]; rfl) Hz.out, T6.out.low⟩
  · have h1 : (0 : Int) < (slen l : Int) := by omega
    have Hz := Lib.hid hz
    clear hz
    go_wp2
    go_ret
    exact ⟨100, rfl, CnS.bad (by rw [HT.out, decide_eq_false Hz.out]; rfl), T6.out.low⟩
set_option maxHeartbeats 4000000 in
set_option maxRecDepth 100000 in
theorem l3S_4 (D : Nat) (hD : D ≤ 3) (h : SH) (l : SF) (hk : h.k = 4) (hsz : hsize h + ssize l ≤ 1048576)
    (w : World) (v1 v2 v3 v4 v : Value) (hv : HV w 0 h v1 v2 v3 v4) (hl : SV w 0 l v) :
    Calls Try.prog 32 #[sagg h v1 v2 v3 v4 v, .int .i64 (3 - (D : Int))] w fun e w' => ∃ r : Nat, e = .returned (.int .i64 (r : Int)) ∧ CnS D h l r ∧ Below w.heap.size w w' := by
  have T0 := Lib.hid (Bxs.start 30 hv hl)
  have hsx : xsize h.x1 ≤ 1048576 ∧ xsize h.x2 ≤ 1048576 ∧ xsize h.x3 ≤ 1048576 ∧ xsize h.x4 ≤ 1048576 ∧ h.s.size ≤ 1048576 ∧ ssize l ≤ 1048576 := by unfold hsize at hsz; omega
  have HX := Lib.hid hsx
  obtain ⟨a1, ha1⟩ : ∃ t, noX h.x1 = t := ⟨_, rfl⟩
  have Qa1 : Hid (∀ w, EV w 0 h.x1.l v1 → Calls Try.prog 54 #[.agg (xcells h.x1 v1).toArray] w fun e w' => e = .returned (.bool a1) ∧ Below w.heap.size w w') := fun w p => by rw [← ha1]; exact l3No_is h.x1 w v1 p
  obtain ⟨t2, ht2⟩ : ∃ t, expOk h.x2 = t := ⟨_, rfl⟩
  have Qt2 : Hid (∀ w, EV w 0 h.x2.l v2 → Calls Try.prog 11 #[.agg (xcells h.x2 v2).toArray] w fun e w' => e = .returned (.bool t2) ∧ Below w.heap.size w w') := fun w p => by rw [← ht2]; exact spec_ExpOk h.x2 HX.out.2.1 w v2 p
  obtain ⟨t3, ht3⟩ : ∃ t, noX h.x3 = t := ⟨_, rfl⟩
  have Qt3 : Hid (∀ w, EV w 0 h.x3.l v3 → Calls Try.prog 54 #[.agg (xcells h.x3 v3).toArray] w fun e w' => e = .returned (.bool t3) ∧ Below w.heap.size w w') := fun w p => by rw [← ht3]; exact l3No_is h.x3 w v3 p
  obtain ⟨t4, ht4⟩ : ∃ t, noX h.x4 = t := ⟨_, rfl⟩
  have Qt4 : Hid (∀ w, EV w 0 h.x4.l v4 → Calls Try.prog 54 #[.agg (xcells h.x4 v4).toArray] w fun e w' => e = .returned (.bool t4) ∧ Below w.heap.size w w') := fun w p => by rw [← ht4]; exact l3No_is h.x4 w v4 p
  obtain ⟨t5, ht5⟩ : ∃ t, nameOk h.s.data.toList = t := ⟨_, rfl⟩
  have H5 := Lib.hid ht5
  obtain ⟨ts, hts⟩ : ∃ t, decide (h.s.size = 0) = t := ⟨_, rfl⟩
  have Hs := Lib.hid hts
  have HT : Hid (toldSt D h l = ((ts && (t2 && (a1 && (t3 && t4)))) && (decide (slen l = 0)))) := show toldSt D h l = _ by
    have e1 : headOk h = (ts && (t2 && (a1 && (t3 && t4)))) := by rw [← ha1, ← ht2, ← ht3, ← ht4, ← hts]; simp [headOk, hk]
    unfold toldSt; rw [e1]; simp [hk]
  have e1 : (h.k == 1) = false := by rw [hk]; rfl
  have e2 : (h.k == 2) = false := by rw [hk]; rfl
  have e3 : (h.k == 3) = false := by rw [hk]; rfl
  have e4 : (h.k == 4) = true := by rw [hk]; rfl
  have e3n : (h.k != 3) = true := by rw [bne, e3]; rfl
  have hin1 : (decide ((1 : Int) ≤ h.k) && decide (h.k ≤ 4)) = true := by rw [hk]; rfl
  have Hin := Lib.hid hin1
  obtain ⟨va, vc, rfl⟩ := hl.shape
  have hDI : (D : Int) ≤ 3 := by omega
  clear hv hl hsz hsx hk hin1 ha1 ht2 ht3 ht4 ht5 hts
  go_enter Try.func32, Try.ntmps32
  go_wp2_with (refine wpList_load_mid rfl 26 _ rfl w.heap.size 2 rfl _ _ (part1 T0.out.rg) Try.underlying26 rfl sizeIE2 ?_)
  refine (Qa1.out _ T0.out.hv.e1).mono ?_
  rintro e w1 ⟨rfl, hb1⟩
  have T1 := Lib.hid (T0.out.later hb1)
  clear hb1 T0
  have k0 := rng0 T1.out.rg
  have k1 := rng1 T1.out.rg
  go_wp2_with (refine wpList_load_mid rfl 26 _ rfl w.heap.size 6 rfl _ _ (part2 T1.out.rg) Try.underlying26 rfl sizeIE2 ?_)
  refine (Qt2.out _ T1.out.hv.e2).mono ?_
  rintro e w2 ⟨rfl, hb2⟩
  have T2 := Lib.hid (T1.out.later hb2)
  clear hb2 T1 k0 k1
  have k0 := rng0 T2.out.rg
  have k1 := rng1 T2.out.rg
  go_wp2_with (refine wpList_load_mid rfl 26 _ rfl w.heap.size 10 rfl _ _ (part3 T2.out.rg) Try.underlying26 rfl sizeIE2 ?_)
  refine (Qt3.out _ T2.out.hv.e3).mono ?_
  rintro e w3 ⟨rfl, hb3⟩
  have T3 := Lib.hid (T2.out.later hb3)
  clear hb3 T2 k0 k1
  have k0 := rng0 T3.out.rg
  have k1 := rng1 T3.out.rg
  go_wp2_with (refine wpList_load_mid rfl 26 _ rfl w.heap.size 14 rfl _ _ (part4 T3.out.rg) Try.underlying26 rfl sizeIE2 ?_)
  refine (Qt4.out _ T3.out.hv.e4).mono ?_
  rintro e w4 ⟨rfl, hb4⟩
  have T4 := Lib.hid (T3.out.later hb4)
  clear hb4 T3 k0 k1
  have k0 := rng0 T4.out.rg
  have k1 := rng1 T4.out.rg
  go_wp2_with fail
  refine (spec_NameOk h.s t5 H5.out (by have := HX.out; omega) _).mono ?_
  rintro e w5 ⟨rfl, hb5⟩
  have T5 := Lib.hid (T4.out.later hb5)
  clear hb5 T4 k0 k1
  have k0 := rng0 T5.out.rg
  have k1 := rng1 T5.out.rg
  have c18 := part5 T5.out.rg
  have hse : (h.s.toList == []) = ts := by
    cases ts with
    | true => exact str_empty (by simpa using Hs.out)
    | false => exact str_full (by simpa using Hs.out)
  cases a1 with
  | false =>
    go_wp2
    go_ret
    exact ⟨100, rfl, CnS.bad (by simp [HT.out]), T5.out.low⟩
  | true =>
  cases t2 with
  | false =>
    go_wp2
    go_ret
    exact ⟨100, rfl, CnS.bad (by simp [HT.out]), T5.out.low⟩
  | true =>
  cases t3 with
  | false =>
    go_wp2
    go_ret
    exact ⟨100, rfl, CnS.bad (by simp [HT.out]), T5.out.low⟩
  | true =>
  cases t4 with
  | false =>
    go_wp2
    go_ret
    exact ⟨100, rfl, CnS.bad (by simp [HT.out]), T5.out.low⟩
  | true =>
  cases ts with
  | false =>
    go_wp2
    go_ret
    exact ⟨100, rfl, CnS.bad (by simp [HT.out]), T5.out.low⟩
  | true =>
  go_wp2_with fail
  refine (l1In_is h.k 1 4 _).mono ?_
  rintro e wz ⟨rfl, hbz⟩
  subst hbz
  rw [Hin.out]
  by_cases hz : slen l = 0
  · have h1 : ¬ (0 : Int) < (slen l : Int) := by omega
    have Hz := Lib.hid hz
    clear hz
    go_wp2
    go_ret
    exact ⟨1, rfl, CnS.one (by rw [HT.out, Hz.out]; rfl) Hz.out, T5.out.low⟩
  · have h1 : (0 : Int) < (slen l : Int) := by omega
    have Hz := Lib.hid hz
    clear hz
    go_wp2
    go_ret
    exact ⟨100, rfl, CnS.bad (by rw [HT.out, decide_eq_false Hz.out]; rfl), T5.out.low⟩
set_option maxHeartbeats 4000000 in
set_option maxRecDepth 100000 in
theorem l3S_0 (D : Nat) (hD : D ≤ 3) (h : SH) (l : SF) (hk : ¬ (1 ≤ h.k ∧ h.k ≤ 4)) (hsz : hsize h + ssize l ≤ 1048576)
    (w : World) (v1 v2 v3 v4 v : Value) (hv : HV w 0 h v1 v2 v3 v4) (hl : SV w 0 l v) :
    Calls Try.prog 32 #[sagg h v1 v2 v3 v4 v, .int .i64 (3 - (D : Int))] w fun e w' => ∃ r : Nat, e = .returned (.int .i64 (r : Int)) ∧ CnS D h l r ∧ Below w.heap.size w w' := by
  have T0 := Lib.hid (Bxs.start 30 hv hl)
  have hsx : xsize h.x1 ≤ 1048576 ∧ xsize h.x2 ≤ 1048576 ∧ xsize h.x3 ≤ 1048576 ∧ xsize h.x4 ≤ 1048576 ∧ h.s.size ≤ 1048576 ∧ ssize l ≤ 1048576 := by unfold hsize at hsz; omega
  have HX := Lib.hid hsx
  obtain ⟨a1, ha1⟩ : ∃ t, noX h.x1 = t := ⟨_, rfl⟩
  have Qa1 : Hid (∀ w, EV w 0 h.x1.l v1 → Calls Try.prog 54 #[.agg (xcells h.x1 v1).toArray] w fun e w' => e = .returned (.bool a1) ∧ Below w.heap.size w w') := fun w p => by rw [← ha1]; exact l3No_is h.x1 w v1 p
  obtain ⟨t2, ht2⟩ : ∃ t, expOk h.x2 = t := ⟨_, rfl⟩
  have Qt2 : Hid (∀ w, EV w 0 h.x2.l v2 → Calls Try.prog 11 #[.agg (xcells h.x2 v2).toArray] w fun e w' => e = .returned (.bool t2) ∧ Below w.heap.size w w') := fun w p => by rw [← ht2]; exact spec_ExpOk h.x2 HX.out.2.1 w v2 p
  obtain ⟨t3, ht3⟩ : ∃ t, noX h.x3 = t := ⟨_, rfl⟩
  have Qt3 : Hid (∀ w, EV w 0 h.x3.l v3 → Calls Try.prog 54 #[.agg (xcells h.x3 v3).toArray] w fun e w' => e = .returned (.bool t3) ∧ Below w.heap.size w w') := fun w p => by rw [← ht3]; exact l3No_is h.x3 w v3 p
  obtain ⟨t4, ht4⟩ : ∃ t, noX h.x4 = t := ⟨_, rfl⟩
  have Qt4 : Hid (∀ w, EV w 0 h.x4.l v4 → Calls Try.prog 54 #[.agg (xcells h.x4 v4).toArray] w fun e w' => e = .returned (.bool t4) ∧ Below w.heap.size w w') := fun w p => by rw [← ht4]; exact l3No_is h.x4 w v4 p
  obtain ⟨t5, ht5⟩ : ∃ t, nameOk h.s.data.toList = t := ⟨_, rfl⟩
  have H5 := Lib.hid ht5
  have HT : Hid (toldSt D h l = false) := show toldSt D h l = false by
    have : headOk h = false := by
      unfold headOk
      rw [if_neg (by omega), if_neg (by omega), if_neg (by omega), if_neg (by omega)]
    simp [toldSt, this]
  have e1 : (h.k == 1) = false := int_ne (by omega)
  have e2 : (h.k == 2) = false := int_ne (by omega)
  have e3 : (h.k == 3) = false := int_ne (by omega)
  have e4 : (h.k == 4) = false := int_ne (by omega)
  have e3n : (h.k != 3) = true := by rw [bne, e3]; rfl
  have hin1 : (decide ((1 : Int) ≤ h.k) && decide (h.k ≤ 4)) = false := by
    cases e : (decide ((1 : Int) ≤ h.k) && decide (h.k ≤ 4)) with
    | false => rfl
    | true => rw [Bool.and_eq_true, decide_eq_true_eq, decide_eq_true_eq] at e; exact absurd e hk
  have Hin := Lib.hid hin1
  obtain ⟨va, vc, rfl⟩ := hl.shape
  have hDI : (D : Int) ≤ 3 := by omega
  clear hv hl hsz hsx hk hin1 ha1 ht2 ht3 ht4 ht5
  go_enter Try.func32, Try.ntmps32
  go_wp2_with (refine wpList_load_mid rfl 26 _ rfl w.heap.size 2 rfl _ _ (part1 T0.out.rg) Try.underlying26 rfl sizeIE2 ?_)
  refine (Qa1.out _ T0.out.hv.e1).mono ?_
  rintro e w1 ⟨rfl, hb1⟩
  have T1 := Lib.hid (T0.out.later hb1)
  clear hb1 T0
  have k0 := rng0 T1.out.rg
  have k1 := rng1 T1.out.rg
  go_wp2_with (refine wpList_load_mid rfl 26 _ rfl w.heap.size 6 rfl _ _ (part2 T1.out.rg) Try.underlying26 rfl sizeIE2 ?_)
  refine (Qt2.out _ T1.out.hv.e2).mono ?_
  rintro e w2 ⟨rfl, hb2⟩
  have T2 := Lib.hid (T1.out.later hb2)
  clear hb2 T1 k0 k1
  have k0 := rng0 T2.out.rg
  have k1 := rng1 T2.out.rg
  go_wp2_with (refine wpList_load_mid rfl 26 _ rfl w.heap.size 10 rfl _ _ (part3 T2.out.rg) Try.underlying26 rfl sizeIE2 ?_)
  refine (Qt3.out _ T2.out.hv.e3).mono ?_
  rintro e w3 ⟨rfl, hb3⟩
  have T3 := Lib.hid (T2.out.later hb3)
  clear hb3 T2 k0 k1
  have k0 := rng0 T3.out.rg
  have k1 := rng1 T3.out.rg
  go_wp2_with (refine wpList_load_mid rfl 26 _ rfl w.heap.size 14 rfl _ _ (part4 T3.out.rg) Try.underlying26 rfl sizeIE2 ?_)
  refine (Qt4.out _ T3.out.hv.e4).mono ?_
  rintro e w4 ⟨rfl, hb4⟩
  have T4 := Lib.hid (T3.out.later hb4)
  clear hb4 T3 k0 k1
  have k0 := rng0 T4.out.rg
  have k1 := rng1 T4.out.rg
  go_wp2_with fail
  refine (spec_NameOk h.s t5 H5.out (by have := HX.out; omega) _).mono ?_
  rintro e w5 ⟨rfl, hb5⟩
  have T5 := Lib.hid (T4.out.later hb5)
  clear hb5 T4 k0 k1
  have k0 := rng0 T5.out.rg
  have k1 := rng1 T5.out.rg
  have c18 := part5 T5.out.rg
  cases a1 with
  | false =>
    go_wp2
    go_ret
    exact ⟨100, rfl, CnS.bad (by simp [HT.out]), T5.out.low⟩
  | true =>
  cases t2 with
  | false =>
    go_wp2
    go_ret
    exact ⟨100, rfl, CnS.bad (by simp [HT.out]), T5.out.low⟩
  | true =>
  cases t3 with
  | false =>
    go_wp2
    go_ret
    exact ⟨100, rfl, CnS.bad (by simp [HT.out]), T5.out.low⟩
  | true =>
  cases t4 with
  | false =>
    go_wp2
    go_ret
    exact ⟨100, rfl, CnS.bad (by simp [HT.out]), T5.out.low⟩
  | true =>
  cases t5 with
  | false =>
    go_wp2
    go_ret
    exact ⟨100, rfl, CnS.bad (by simp [HT.out]), T5.out.low⟩
  | true =>
  go_wp2_with fail
  refine (l1In_is h.k 1 4 _).mono ?_
  rintro e wz ⟨rfl, hbz⟩
  subst hbz
  rw [Hin.out]
  go_wp2
  go_ret
  exact ⟨100, rfl, CnS.bad HT.out, T5.out.low⟩
set_option maxHeartbeats 4000000 in
set_option maxRecDepth 100000 in
theorem l3S_3 (D : Nat) (hD : D ≤ 3) (h : SH) (l : SF) (hk : h.k = 3) (hsz : hsize h + ssize l ≤ 1048576)
    (ih : ∀ (g : SH) (m : SF), hsize g + ssize m ≤ 1048576 → ∀ (w : World) (v1 v2 v3 v4 v : Value), HV w 0 g v1 v2 v3 v4 → SV w 0 m v → 1 ≤ D → Calls Try.prog 32 #[.agg (scells g v1 v2 v3 v4 v).toArray, .int .i64 (4 - (D : Int))] w fun e w' => ∃ r : Nat, e = .returned (.int .i64 (r : Int)) ∧ CnS (D - 1) g m r ∧ Below w.heap.size w w')
    (w : World) (v1 v2 v3 v4 v : Value) (hv : HV w 0 h v1 v2 v3 v4) (hl : SV w 0 l v) :
    Calls Try.prog 32 #[sagg h v1 v2 v3 v4 v, .int .i64 (3 - (D : Int))] w fun e w' => ∃ r : Nat, e = .returned (.int .i64 (r : Int)) ∧ CnS D h l r ∧ Below w.heap.size w w' := by
  have T0 := Lib.hid (Bxs.start 30 hv hl)
  have hsx : xsize h.x1 ≤ 1048576 ∧ xsize h.x2 ≤ 1048576 ∧ xsize h.x3 ≤ 1048576 ∧ xsize h.x4 ≤ 1048576 ∧ h.s.size ≤ 1048576 ∧ ssize l ≤ 1048576 := by unfold hsize at hsz; omega
  have HX := Lib.hid hsx
  obtain ⟨a1, ha1⟩ : ∃ t, noX h.x1 = t := ⟨_, rfl⟩
  have Qa1 : Hid (∀ w, EV w 0 h.x1.l v1 → Calls Try.prog 54 #[.agg (xcells h.x1 v1).toArray] w fun e w' => e = .returned (.bool a1) ∧ Below w.heap.size w w') := fun w p => by rw [← ha1]; exact l3No_is h.x1 w v1 p
  obtain ⟨t2, ht2⟩ : ∃ t, expOk h.x2 = t := ⟨_, rfl⟩
  have Qt2 : Hid (∀ w, EV w 0 h.x2.l v2 → Calls Try.prog 11 #[.agg (xcells h.x2 v2).toArray] w fun e w' => e = .returned (.bool t2) ∧ Below w.heap.size w w') := fun w p => by rw [← ht2]; exact spec_ExpOk h.x2 HX.out.2.1 w v2 p
  obtain ⟨t3, ht3⟩ : ∃ t, noX h.x3 = t := ⟨_, rfl⟩
  have Qt3 : Hid (∀ w, EV w 0 h.x3.l v3 → Calls Try.prog 54 #[.agg (xcells h.x3 v3).toArray] w fun e w' => e = .returned (.bool t3) ∧ Below w.heap.size w w') := fun w p => by rw [← ht3]; exact l3No_is h.x3 w v3 p
  obtain ⟨t4, ht4⟩ : ∃ t, noX h.x4 = t := ⟨_, rfl⟩
  have Qt4 : Hid (∀ w, EV w 0 h.x4.l v4 → Calls Try.prog 54 #[.agg (xcells h.x4 v4).toArray] w fun e w' => e = .returned (.bool t4) ∧ Below w.heap.size w w') := fun w p => by rw [← ht4]; exact l3No_is h.x4 w v4 p
  obtain ⟨b2, hb2⟩ : ∃ t, noX h.x2 = t := ⟨_, rfl⟩
  have Qb2 : Hid (∀ w, EV w 0 h.x2.l v2 → Calls Try.prog 54 #[.agg (xcells h.x2 v2).toArray] w fun e w' => e = .returned (.bool b2) ∧ Below w.heap.size w w') := fun w p => by rw [← hb2]; exact l3No_is h.x2 w v2 p
  obtain ⟨b3, hb3⟩ : ∃ t, expOk h.x3 = t := ⟨_, rfl⟩
  have Qb3 : Hid (∀ w, EV w 0 h.x3.l v3 → Calls Try.prog 11 #[.agg (xcells h.x3 v3).toArray] w fun e w' => e = .returned (.bool b3) ∧ Below w.heap.size w w') := fun w p => by rw [← hb3]; exact spec_ExpOk h.x3 HX.out.2.2.1 w v3 p
  obtain ⟨b4, hb4⟩ : ∃ t, expOk h.x4 = t := ⟨_, rfl⟩
  have Qb4 : Hid (∀ w, EV w 0 h.x4.l v4 → Calls Try.prog 11 #[.agg (xcells h.x4 v4).toArray] w fun e w' => e = .returned (.bool b4) ∧ Below w.heap.size w w') := fun w p => by rw [← hb4]; exact spec_ExpOk h.x4 HX.out.2.2.2.1 w v4 p
  obtain ⟨t5, ht5⟩ : ∃ t, nameOk h.s.data.toList = t := ⟨_, rfl⟩
  have H5 := Lib.hid ht5
  have HT : Hid (toldSt D h l = ((t5 && ((b3 && b4) && (a1 && b2))) && (decide (1 ≤ D) && bodyTold (D - 1) l))) := show toldSt D h l = _ by
    have e1 : headOk h = (t5 && ((b3 && b4) && (a1 && b2))) := by rw [← ha1, ← hb2, ← hb3, ← hb4, ← ht5]; simp [headOk, hk]
    unfold toldSt; rw [e1]; simp [hk]
  have e1 : (h.k == 1) = false := by rw [hk]; rfl
  have e2 : (h.k == 2) = false := by rw [hk]; rfl
  have e3 : (h.k == 3) = true := by rw [hk]; rfl
  have e4 : (h.k == 4) = false := by rw [hk]; rfl
  have e3n : (h.k != 3) = false := by rw [bne, e3]; rfl
  have hin1 : (decide ((1 : Int) ≤ h.k) && decide (h.k ≤ 4)) = true := by rw [hk]; rfl
  have Hin := Lib.hid hin1
  obtain ⟨va, vc, rfl⟩ := hl.shape
  have Hih := Lib.hid ih
  clear ih
  have hDI : (D : Int) ≤ 3 := by omega
  clear hv hl hsz hsx hk hin1 ha1 ht2 ht3 ht4 hb2 hb3 hb4 ht5
  go_enter Try.func32, Try.ntmps32
  go_wp2_with (refine wpList_load_mid rfl 26 _ rfl w.heap.size 2 rfl _ _ (part1 T0.out.rg) Try.underlying26 rfl sizeIE2 ?_)
  refine (Qa1.out _ T0.out.hv.e1).mono ?_
  rintro e w1 ⟨rfl, hb1⟩
  have T1 := Lib.hid (T0.out.later hb1)
  clear hb1 T0
  have k0 := rng0 T1.out.rg
  have k1 := rng1 T1.out.rg
  go_wp2_with (refine wpList_load_mid rfl 26 _ rfl w.heap.size 6 rfl _ _ (part2 T1.out.rg) Try.underlying26 rfl sizeIE2 ?_)
  refine (Qt2.out _ T1.out.hv.e2).mono ?_
  rintro e w2 ⟨rfl, hb2⟩
  have T2 := Lib.hid (T1.out.later hb2)
  clear hb2 T1 k0 k1
  have k0 := rng0 T2.out.rg
  have k1 := rng1 T2.out.rg
  go_wp2_with (refine wpList_load_mid rfl 26 _ rfl w.heap.size 10 rfl _ _ (part3 T2.out.rg) Try.underlying26 rfl sizeIE2 ?_)
  refine (Qt3.out _ T2.out.hv.e3).mono ?_
  rintro e w3 ⟨rfl, hb3⟩
  have T3 := Lib.hid (T2.out.later hb3)
  clear hb3 T2 k0 k1
  have k0 := rng0 T3.out.rg
  have k1 := rng1 T3.out.rg
  go_wp2_with (refine wpList_load_mid rfl 26 _ rfl w.heap.size 14 rfl _ _ (part4 T3.out.rg) Try.underlying26 rfl sizeIE2 ?_)
  refine (Qt4.out _ T3.out.hv.e4).mono ?_
  rintro e w4 ⟨rfl, hb4⟩
  have T4 := Lib.hid (T3.out.later hb4)
  clear hb4 T3 k0 k1
  have k0 := rng0 T4.out.rg
  have k1 := rng1 T4.out.rg
  go_wp2_with fail
  refine (spec_NameOk h.s t5 H5.out (by have := HX.out; omega) _).mono ?_
  rintro e w5 ⟨rfl, hb5⟩
  have T5 := Lib.hid (T4.out.later hb5)
  clear hb5 T4 k0 k1
  have k0 := rng0 T5.out.rg
  have k1 := rng1 T5.out.rg
  go_wp2_with (refine wpList_load_mid rfl 26 _ rfl w.heap.size 6 rfl _ _ (part2 T5.out.rg) Try.underlying26 rfl sizeIE2 ?_)
  refine (Qb2.out _ T5.out.hv.e2).mono ?_
  rintro e w6 ⟨rfl, hb6⟩
  have T6 := Lib.hid (T5.out.later hb6)
  clear hb6 T5 k0 k1
  have k0 := rng0 T6.out.rg
  have k1 := rng1 T6.out.rg
  go_wp2_with (refine wpList_load_mid rfl 26 _ rfl w.heap.size 10 rfl _ _ (part3 T6.out.rg) Try.underlying26 rfl sizeIE2 ?_)
  refine (Qb3.out _ T6.out.hv.e3).mono ?_
  rintro e w7 ⟨rfl, hb7⟩
  have T7 := Lib.hid (T6.out.later hb7)
  clear hb7 T6 k0 k1
  have k0 := rng0 T7.out.rg
  have k1 := rng1 T7.out.rg
  go_wp2_with (refine wpList_load_mid rfl 26 _ rfl w.heap.size 14 rfl _ _ (part4 T7.out.rg) Try.underlying26 rfl sizeIE2 ?_)
  refine (Qb4.out _ T7.out.hv.e4).mono ?_
  rintro e w8 ⟨rfl, hb8⟩
  have T8 := Lib.hid (T7.out.later hb8)
  clear hb8 T7 k0 k1
  have k0 := rng0 T8.out.rg
  have k1 := rng1 T8.out.rg
  have c18 := part5 T8.out.rg
  cases a1 with
  | false =>
    go_wp2
    go_ret
    exact ⟨100, rfl, CnS.bad (by simp [HT.out]), T8.out.low⟩
  | true =>
  cases b2 with
  | false =>
    go_wp2
    go_ret
    exact ⟨100, rfl, CnS.bad (by simp [HT.out]), T8.out.low⟩
  | true =>
  cases b3 with
  | false =>
    go_wp2
    go_ret
    exact ⟨100, rfl, CnS.bad (by simp [HT.out]), T8.out.low⟩
  | true =>
  cases b4 with
  | false =>
    go_wp2
    go_ret
    exact ⟨100, rfl, CnS.bad (by simp [HT.out]), T8.out.low⟩
  | true =>
  cases t5 with
  | false =>
    go_wp2
    go_ret
    exact ⟨100, rfl, CnS.bad (by simp [HT.out]), T8.out.low⟩
  | true =>
  go_wp2_with fail
  refine (l1In_is h.k 1 4 _).mono ?_
  rintro e wz ⟨rfl, hbz⟩
  subst hbz
  rw [Hin.out]
  by_cases hD0 : D = 0
  · have h1 : (3 : Int) ≤ 3 - (D : Int) := by omega
    have HD0 := Lib.hid hD0
    clear hD0
    go_wp2
    go_ret
    exact ⟨100, rfl, CnS.bad (by rw [HT.out, HD0.out]; rfl), T8.out.low⟩
  have h1 : ¬ (3 : Int) ≤ 3 - (D : Int) := by omega
  have HD0 := Lib.hid hD0
  clear hD0
  go_wp2_with fail
  refine (l1In_is (slen l : Int) 1 6 _).mono ?_
  rintro e wy ⟨rfl, hby⟩
  subst hby
  by_cases hb6 : 1 ≤ slen l ∧ slen l ≤ 6
  case neg =>
    rw [show (decide ((1 : Int) ≤ (slen l : Int)) && decide ((slen l : Int) ≤ 6)) = false by
      cases e : (decide ((1 : Int) ≤ (slen l : Int)) && decide ((slen l : Int) ≤ 6)) with
      | false => rfl
      | true => rw [Bool.and_eq_true, decide_eq_true_eq, decide_eq_true_eq] at e; exact absurd ⟨by omega, by omega⟩ hb6]
    have hbf : Hid (bodyTold (D - 1) l = false) := show bodyTold (D - 1) l = false by
      cases e : bodyTold (D - 1) l with
      | false => rfl
      | true =>
        unfold bodyTold at e
        rw [Bool.and_eq_true, Bool.and_eq_true, decide_eq_true_eq, decide_eq_true_eq] at e
        exact absurd ⟨e.1, e.2.1⟩ hb6
    clear hb6
    go_wp2
    go_ret
    exact ⟨100, rfl, CnS.bad (by rw [HT.out, hbf.out]; simp), T8.out.low⟩
  rw [show (decide ((1 : Int) ≤ (slen l : Int)) && decide ((slen l : Int) ≤ 6)) = true by rw [decide_eq_true (by omega), decide_eq_true (by omega)]; rfl]
  have HT2 : Hid (toldSt D h l = toldS (D - 1) l) := show toldSt D h l = toldS (D - 1) l by
    rw [HT.out]; unfold bodyTold
    rw [decide_eq_true (show 1 ≤ D by have := HD0.out; omega), decide_eq_true hb6.1, decide_eq_true hb6.2]; rfl
  have hl6 : (slen l : Int) ≤ 6 := by omega
  obtain ⟨bb, oo, ao, cap, hval, hao, _, hin⟩ := T8.out.sv
  injection hval with hva1 hva2 hva3
  subst hva1
  have HI := Lib.hid (And.intro hao hin)
  have H0 := T8
  clear hb6 hva2 hva3 hao hin
  go_wp2
  clear k0 k1 c18
  go_loopw [10, 11] (fun y i wr => ∃ (R : SF) (k c : Nat), i = .int .i64 (k : Int) ∧ y = .int .i64 (c : Int) ∧ Hid (CsM w8 (D - 1) l R k c bb oo) ∧ Hid (Below w8.heap.size w8 wr ∧ Bxs w wr w.heap.size h l v1 v2 v3 v4 (.slice va (slen l) vc))) (fun _ i _ => slen l - (RowKit.intOf i).toNat)
  case atStart => exact ⟨l, 0, 1, rfl, rfl, ⟨by simpa using HI.out.2, by omega, HX.out.2.2.2.2.2, fun _ => ⟨rfl, by omega⟩, fun h => by omega, by omega⟩, ⟨Below.refl _ _, H0.out⟩⟩
  case round =>
    obtain ⟨R, k, c, rfl, rfl, hm, hT⟩ := hrel
    have c18 := part5 hT.out.2.rg
    have hcb := hm.out.big
    have hcI : (c : Int) ≤ 640 := by omega
    cases R with
    | nil =>
      have hk : ¬ (k : Int) < (slen l : Int) := by have := hm.out.num; simp only [slen] at this; omega
      go_wp2
      go_ret
      refine ⟨c, rfl, ⟨fun hok => ?_, fun hok => ?_, by have := HD0.out; omega⟩, hT.out.2.low⟩
      · rcases Nat.lt_or_ge 40 c with h6 | h6
        · exact absurd ⟨by have := hok.1; rw [HT2.out] at this; exact this, hok.2⟩ (hm.out.high h6)
        · have := (hm.out.low h6).2; simp only [snodes] at this; omega
      · rcases Nat.lt_or_ge 40 c with h6 | h6
        · exact h6
        · obtain ⟨g1, g2⟩ := hm.out.low h6
          exact absurd ⟨by rw [HT2.out, g1]; rfl, by simp only [snodes] at g2; omega⟩ hok
    | node p q g m r =>
      have hlt : (k : Int) < (slen l : Int) := by have := hm.out.num; simp only [slen] at this; omega
      by_cases h6 : (c : Int) ≤ 40
      · have hne : ¬ l = .nil := by intro e; have := hm.out.num; rw [e] at this; simp only [slen] at this; omega
        obtain rfl : va = some ⟨bb, oo, Option.none⟩ := HI.out.1.resolve_right hne
        obtain ⟨y1, y2, y3, y4, u, hu, hul, hrg⟩ := (SIn_node.1 (SIn_later hT.out.1 _ _ _ hm.out.at_)).1.range
        have Hrg := Lib.hid hrg
        have hsz : hsize g + ssize m ≤ 1048576 := by have := hm.out.siz; simp only [ssize] at this; omega
        have Hl := Lib.hid (Hih.out g m hsz)
        have HU := Lib.hid (And.intro hu hul)
        have h9 : (3 : Int) - (D : Int) + 1 = 4 - (D : Int) := by omega
        clear hne hsz hu hul hcb hrg
        go_wp2_with (refine wpList_load_mid rfl 30 _ rfl bb (oo + k * 19) rfl _ _ Hrg.out Try.underlying30 rfl sizeIS ?_)
        refine (Hl.out _ y1 y2 y3 y4 u HU.out.1 HU.out.2 (by have := HD0.out; omega)).mono ?_
        rintro e w2x ⟨rr, rfl, hrr, hb2⟩
        have hm2 := Lib.hid (hm.out.next (by omega) hrr)
        have hrb : (rr : Int) ≤ 640 := by have := hrr.big; omega
        have hT2 : Hid (Below w8.heap.size w8 w2x ∧ Bxs w w2x w.heap.size h l v1 v2 v3 v4 (.slice (some ⟨bb, oo, Option.none⟩) (slen l) vc)) := ⟨hT.out.1.trans (hb2.mono hT.out.1.size), hT.out.2.later hb2⟩
        clear hb2 hrr c18 h9 Hrg hT
        go_wp2
        go_roundw
        case rel => exact ⟨r, k + 1, c + rr, by go_num, by go_num, hm2, hT2⟩
        case measure => simp [RowKit.intOf]; omega
      · go_wp2
        go_ret
        have h6' : 40 < c := by omega
        refine ⟨c, rfl, ⟨fun hok => ?_, fun _ => h6', by have := HD0.out; omega⟩, hT.out.2.low⟩
        exact absurd ⟨by have := hok.1; rw [HT2.out] at this; exact this, hok.2⟩ (hm.out.high h6')
theorem l3Stmt_all : ∀ (D : Nat), D ≤ 3 → ∀ (h : SH) (l : SF), hsize h + ssize l ≤ 1048576 → ∀ (w : World) (v1 v2 v3 v4 v : Value), HV w 0 h v1 v2 v3 v4 → SV w 0 l v → Calls Try.prog 32 #[.agg (scells h v1 v2 v3 v4 v).toArray, .int .i64 (3 - (D : Int))] w fun e w' => ∃ r : Nat, e = .returned (.int .i64 (r : Int)) ∧ CnS D h l r ∧ Below w.heap.size w w' := by
  intro D
  induction D with
  | zero =>
    intro hD h l hs w v1 v2 v3 v4 v hv hl
    by_cases hk : 1 ≤ h.k ∧ h.k ≤ 4
    · obtain e | e | e | e : h.k = 1 ∨ h.k = 2 ∨ h.k = 3 ∨ h.k = 4 := by omega
      · exact l3S_1 0 hD h l e hs w v1 v2 v3 v4 v hv hl
      · exact l3S_2 0 hD h l e hs w v1 v2 v3 v4 v hv hl
      · exact l3S_3 0 hD h l e hs (fun _ _ _ _ _ _ _ _ _ _ _ h => absurd h (by omega)) w v1 v2 v3 v4 v hv hl
      · exact l3S_4 0 hD h l e hs w v1 v2 v3 v4 v hv hl
    · exact l3S_0 0 hD h l hk hs w v1 v2 v3 v4 v hv hl
  | succ D ih =>
    intro hD h l hs w v1 v2 v3 v4 v hv hl
    by_cases hk : 1 ≤ h.k ∧ h.k ≤ 4
    · obtain e | e | e | e : h.k = 1 ∨ h.k = 2 ∨ h.k = 3 ∨ h.k = 4 := by omega
      · exact l3S_1 (D + 1) hD h l e hs w v1 v2 v3 v4 v hv hl
      · exact l3S_2 (D + 1) hD h l e hs w v1 v2 v3 v4 v hv hl
      · refine l3S_3 (D + 1) hD h l e hs (fun g m hg w v1 v2 v3 v4 v a b _ => ?_) w v1 v2 v3 v4 v hv hl
        rw [show (4 : Int) - ((D + 1 : Nat) : Int) = 3 - (D : Int) by omega]
        exact ih (by omega) g m hg w v1 v2 v3 v4 v a b
      · exact l3S_4 (D + 1) hD h l e hs w v1 v2 v3 v4 v hv hl
    · exact l3S_0 (D + 1) hD h l hk hs w v1 v2 v3 v4 v hv hl
set_option maxRecDepth 100000 in
theorem spec_StmtOk (h : SH) (l : SF) (hs : hsize h + ssize l ≤ 1048576) (w : World) (v1 v2 v3 v4 v : Value) (hv : HV w 0 h v1 v2 v3 v4) (hl : SV w 0 l v) :
    Calls Try.prog 13 #[.agg (scells h v1 v2 v3 v4 v).toArray] w fun e w' => e = .returned (.bool (stmtOk h l)) ∧ Below w.heap.size w w' := by
  show Calls Try.prog 13 #[sagg h v1 v2 v3 v4 v] w _
  have T0 := Lib.hid (Bxs.start 30 hv hl)
  have Hs := Lib.hid hs
  clear hv hl hs
  go_enter Try.func13, Try.ntmps13
  go_wp2_with (refine wpList_load_mid rfl 30 _ rfl w.heap.size 0 rfl _ _ T0.out.rg Try.underlying30 rfl sizeIS ?_)
  refine (l3Stmt_all 3 (by omega) h l Hs.out _ v1 v2 v3 v4 v T0.out.hv T0.out.sv).mono ?_
  rintro e w1 ⟨r, rfl, hr, hb1⟩
  have B1 := (T0.out.later hb1).low
  have Hr := Lib.hid hr
  clear hb1 hr T0
  by_cases hok : okS 3 h l
  · have h6 : (r : Int) ≤ 40 := by have := Hr.out.yes hok; have := hok.2; omega
    have Hok := Lib.hid hok
    clear hok
    go_wp2
    go_ret
    exact retB (by rw [stmtOk, Hok.out.1, decide_eq_true Hok.out.2]; rfl) B1
  · have h6 : ¬ (r : Int) ≤ 40 := by have := Hr.out.no hok; omega
    have hf : Hid (stmtOk h l = false) := show stmtOk h l = false by
      cases e : stmtOk h l with
      | false => rfl
      | true =>
        unfold stmtOk at e
        rw [Bool.and_eq_true, decide_eq_true_eq] at e
        exact absurd e hok
    clear hok
    go_wp2
    go_ret
    exact retB (by rw [hf.out]; symm; first | rfl | (simp; omega)) B1
end Go.Proofs.Ytkhccpjkajhnpaa
/-
  What it is that two statements are the same; the contract of the landed code's sameHead.
-/
namespace Go.Proofs.Ytkhccpjkajhnpaa
open Go.RowKit Go.Lib
set_option linter.unusedSimpArgs false
set_option linter.unusedVariables false

def ssameH (a b : SH) : Bool := decide (a.k = b.k) && decide (a.s = b.s) && xsame a.x1 b.x1 && xsame a.x2 b.x2 && xsame a.x3 b.x3 && xsame a.x4 b.x4
def ssame : SF → SF → Bool
  | .nil, .nil => true
  | .node _ _ h l r, .node _ _ h' l' r' => ssameH h h' && (ssame l l' && ssame r r')
  | _, _ => false
theorem ssame_len : ∀ F G : SF, ssame F G = true → slen F = slen G
  | .nil, .nil, _ => rfl
  | .node _ _ h l r, .node _ _ h' l' r', e => by
    simp only [ssame, Bool.and_eq_true] at e
    have := ssame_len r r' e.2.2
    simp only [slen]; omega
  | .nil, .node _ _ _ _ _, e => by simp [ssame] at e
  | .node _ _ _ _ _, .nil, e => by simp [ssame] at e
theorem ssame_diff {F G : SF} (h : ¬ slen F = slen G) : ssame F G = false := by
  cases e : ssame F G with
  | false => rfl
  | true => exact absurd (ssame_len F G e) h
theorem ssame_node (p q p' q' : Nat) (h h' : SH) (l r l' r' : SF) : ssame (.node p q h l r) (.node p' q' h' l' r') = ((ssameH h h' && ssame l l') && ssame r r') := by simp only [ssame, Bool.and_assoc]
/-- All expressions of a statement's head hold so many at most. -/
def small (h : SH) : Prop := enodes h.x1.l ≤ 10000000 ∧ enodes h.x2.l ≤ 10000000 ∧ enodes h.x3.l ≤ 10000000 ∧ enodes h.x4.l ≤ 10000000
def allSmall : SF → Prop
  | .nil => True
  | .node _ _ h l r => small h ∧ allSmall l ∧ allSmall r
set_option maxHeartbeats 4000000 in
set_option maxRecDepth 100000 in
theorem sameHead_is (g h : SH) (hg : small g) (w : World) (a1 a2 a3 a4 a b1 b2 b3 b4 b : Value) (ha : HV w 0 g a1 a2 a3 a4) (hb : HV w 0 h b1 b2 b3 b4) :
    Calls Try.prog 36 #[.agg (scells g a1 a2 a3 a4 a).toArray, .agg (scells h b1 b2 b3 b4 b).toArray] w fun e w' => e = .returned (.bool (ssameH g h)) ∧ Below w.heap.size w w' := by
  show Calls Try.prog 36 #[sagg g a1 a2 a3 a4 a, sagg h b1 b2 b3 b4 b] w _
  obtain ⟨t1, ht1⟩ : ∃ t, xsame g.x1 h.x1 = t := ⟨_, rfl⟩
  obtain ⟨t2, ht2⟩ : ∃ t, xsame g.x2 h.x2 = t := ⟨_, rfl⟩
  obtain ⟨t3, ht3⟩ : ∃ t, xsame g.x3 h.x3 = t := ⟨_, rfl⟩
  obtain ⟨t4, ht4⟩ : ∃ t, xsame g.x4 h.x4 = t := ⟨_, rfl⟩
  have Hq1 : Hid (∀ w, EV w 0 g.x1.l a1 → EV w 0 h.x1.l b1 → Calls Try.prog 14 #[.agg #[.int .i64 g.x1.h.k, .int .i64 g.x1.h.n, .string g.x1.h.s, a1], .agg #[.int .i64 h.x1.h.k, .int .i64 h.x1.h.n, .string h.x1.h.s, b1]] w fun e w' => e = .returned (.bool t1) ∧ Below w.heap.size w w') := fun w p q => by rw [← ht1]; exact impl_SameExp g.x1 h.x1 hg.1 w a1 b1 p q
  have Hq2 : Hid (∀ w, EV w 0 g.x2.l a2 → EV w 0 h.x2.l b2 → Calls Try.prog 14 #[.agg #[.int .i64 g.x2.h.k, .int .i64 g.x2.h.n, .string g.x2.h.s, a2], .agg #[.int .i64 h.x2.h.k, .int .i64 h.x2.h.n, .string h.x2.h.s, b2]] w fun e w' => e = .returned (.bool t2) ∧ Below w.heap.size w w') := fun w p q => by rw [← ht2]; exact impl_SameExp g.x2 h.x2 hg.2.1 w a2 b2 p q
  have Hq3 : Hid (∀ w, EV w 0 g.x3.l a3 → EV w 0 h.x3.l b3 → Calls Try.prog 14 #[.agg #[.int .i64 g.x3.h.k, .int .i64 g.x3.h.n, .string g.x3.h.s, a3], .agg #[.int .i64 h.x3.h.k, .int .i64 h.x3.h.n, .string h.x3.h.s, b3]] w fun e w' => e = .returned (.bool t3) ∧ Below w.heap.size w w') := fun w p q => by rw [← ht3]; exact impl_SameExp g.x3 h.x3 hg.2.2.1 w a3 b3 p q
  have Hq4 : Hid (∀ w, EV w 0 g.x4.l a4 → EV w 0 h.x4.l b4 → Calls Try.prog 14 #[.agg #[.int .i64 g.x4.h.k, .int .i64 g.x4.h.n, .string g.x4.h.s, a4], .agg #[.int .i64 h.x4.h.k, .int .i64 h.x4.h.n, .string h.x4.h.s, b4]] w fun e w' => e = .returned (.bool t4) ∧ Below w.heap.size w w') := fun w p q => by rw [← ht4]; exact impl_SameExp g.x4 h.x4 hg.2.2.2 w a4 b4 p q
  have HT : Hid (xsame g.x1 h.x1 = t1 ∧ xsame g.x2 h.x2 = t2 ∧ xsame g.x3 h.x3 = t3 ∧ xsame g.x4 h.x4 = t4) := ⟨ht1, ht2, ht3, ht4⟩
  have T0 := Lib.hid (Two.start w g h a1 a2 a3 a4 a b1 b2 b3 b4 b 30 30)
  have HA := Lib.hid (And.intro ha hb)
  clear ht1 ht2 ht3 ht4 ha hb
  by_cases hk : g.k = h.k
  case neg =>
    have hf : Hid (ssameH g h = false) := show ssameH g h = false by simp [ssameH, hk]
    have h1 := int_ne hk
    go_enter Try.func36, Try.ntmps36
    go_wp2
    go_ret
    exact retB hf.out T0.out.low
  by_cases hs : g.s = h.s
  case neg =>
    have hf : Hid (ssameH g h = false) := show ssameH g h = false by simp [ssameH, hs]
    have h1 := str_ne hs
    have h2 : (g.k == h.k) = true := by rw [beq_iff_eq]; exact hk
    have h3 : (g.k != h.k) = false := by rw [bne, h2]; rfl
    clear hs hk
    go_enter Try.func36, Try.ntmps36
    go_wp2
    go_ret
    exact retB hf.out T0.out.low
  have Hks : Hid (g.k = h.k ∧ g.s = h.s) := ⟨hk, hs⟩
  have h2 : (g.k == h.k) = true := by rw [beq_iff_eq]; exact hk
  have h3 : (g.k != h.k) = false := by rw [bne, h2]; rfl
  have h4 : (g.s.toList == h.s.toList) = true := by rw [hs]; simp
  have h5 : (g.s.toList != h.s.toList) = false := by rw [bne, h4]; rfl
  clear hk hs
  go_enter Try.func36, Try.ntmps36
  go_wp2_with fail
  refine (Hq1.out _ (HA.out.1.e1.later T0.out.low) (HA.out.2.e1.later T0.out.low)).mono ?_
  rintro e w1 ⟨rfl, hb1⟩
  have T1 := Lib.hid (T0.out.later hb1)
  clear hb1 T0
  cases t1 with
  | false =>
    have hf : Hid (ssameH g h = false) := show ssameH g h = false by simp [ssameH, HT.out]
    go_wp2
    go_ret
    exact retB hf.out T1.out.low
  | true =>
  have c20 := part2 T1.out.r1 0 _ rfl
  have d20 := part2 T1.out.r2 0 _ rfl
  have c21 := part2 T1.out.r1 1 _ rfl
  have d21 := part2 T1.out.r2 1 _ rfl
  have c22 := part2 T1.out.r1 2 _ rfl
  have d22 := part2 T1.out.r2 2 _ rfl
  have c23 := part2 T1.out.r1 3 _ rfl
  have d23 := part2 T1.out.r2 3 _ rfl
  simp only [Nat.add_zero, Nat.reduceAdd] at c20 d20 c21 d21 c22 d22 c23 d23
  go_wp2_with fail
  refine (Hq2.out _ (HA.out.1.e2.later T1.out.low) (HA.out.2.e2.later T1.out.low)).mono ?_
  rintro e w2 ⟨rfl, hb2⟩
  have T2 := Lib.hid (T1.out.later hb2)
  clear c20 d20 c21 d21 c22 d22 c23 d23
  clear hb2 T1
  cases t2 with
  | false =>
    have hf : Hid (ssameH g h = false) := show ssameH g h = false by simp [ssameH, HT.out]
    go_wp2
    go_ret
    exact retB hf.out T2.out.low
  | true =>
  have c30 := part3 T2.out.r1 0 _ rfl
  have d30 := part3 T2.out.r2 0 _ rfl
  have c31 := part3 T2.out.r1 1 _ rfl
  have d31 := part3 T2.out.r2 1 _ rfl
  have c32 := part3 T2.out.r1 2 _ rfl
  have d32 := part3 T2.out.r2 2 _ rfl
  have c33 := part3 T2.out.r1 3 _ rfl
  have d33 := part3 T2.out.r2 3 _ rfl
  simp only [Nat.add_zero, Nat.reduceAdd] at c30 d30 c31 d31 c32 d32 c33 d33
  go_wp2_with fail
  refine (Hq3.out _ (HA.out.1.e3.later T2.out.low) (HA.out.2.e3.later T2.out.low)).mono ?_
  rintro e w3 ⟨rfl, hb3⟩
  have T3 := Lib.hid (T2.out.later hb3)
  clear c30 d30 c31 d31 c32 d32 c33 d33
  clear hb3 T2
  cases t3 with
  | false =>
    have hf : Hid (ssameH g h = false) := show ssameH g h = false by simp [ssameH, HT.out]
    go_wp2
    go_ret
    exact retB hf.out T3.out.low
  | true =>
  have c40 := part4 T3.out.r1 0 _ rfl
  have d40 := part4 T3.out.r2 0 _ rfl
  have c41 := part4 T3.out.r1 1 _ rfl
  have d41 := part4 T3.out.r2 1 _ rfl
  have c42 := part4 T3.out.r1 2 _ rfl
  have d42 := part4 T3.out.r2 2 _ rfl
  have c43 := part4 T3.out.r1 3 _ rfl
  have d43 := part4 T3.out.r2 3 _ rfl
  simp only [Nat.add_zero, Nat.reduceAdd] at c40 d40 c41 d41 c42 d42 c43 d43
  go_wp2_with fail
  refine (Hq4.out _ (HA.out.1.e4.later T3.out.low) (HA.out.2.e4.later T3.out.low)).mono ?_
  rintro e w4 ⟨rfl, hb4⟩
  have T4 := Lib.hid (T3.out.later hb4)
  clear c40 d40 c41 d41 c42 d42 c43 d43
  clear hb4 T3
  cases t4 with
  | false =>
    have hf : Hid (ssameH g h = false) := show ssameH g h = false by simp [ssameH, HT.out]
    go_wp2
    go_ret
    exact retB hf.out T4.out.low
  | true =>
  have hf : Hid (ssameH g h = true) := show ssameH g h = true by simp [ssameH, HT.out, Hks.out]
  go_wp2
  go_ret
  exact retB hf.out T4.out.low
end Go.Proofs.Ytkhccpjkajhnpaa
/-
  The contract of the specification's SameStmt.
-/
namespace Go.Proofs.Ytkhccpjkajhnpaa
open Go.RowKit Go.Lib
set_option linter.unusedSimpArgs false
set_option linter.unusedVariables false

set_option maxHeartbeats 4000000 in
set_option maxRecDepth 100000 in
theorem spec_SameStmt_step (g h : SH) (l l' : SF) (hg : small g) (hh : small h) (hl : allSmall l) (hl' : allSmall l') (hx : snodes l ≤ 10000000) (hy : snodes l' ≤ 10000000)
    (ih : ∀ (g h : SH) (l1 l2 : SF), snodes l1 < snodes l → small g → small h → allSmall l1 → allSmall l2 → snodes l2 ≤ 10000000 → ∀ (w : World) (a1 a2 a3 a4 a b1 b2 b3 b4 b : Value), HV w 0 g a1 a2 a3 a4 → HV w 0 h b1 b2 b3 b4 → SV w 0 l1 a → SV w 0 l2 b → Calls Try.prog 17 #[.agg (scells g a1 a2 a3 a4 a).toArray, .agg (scells h b1 b2 b3 b4 b).toArray] w fun e w' => e = .returned (.bool (ssameH g h && ssame l1 l2)) ∧ Below w.heap.size w w')
    (w : World) (a1 a2 a3 a4 a b1 b2 b3 b4 b : Value) (ha : HV w 0 g a1 a2 a3 a4) (hb : HV w 0 h b1 b2 b3 b4) (hal : SV w 0 l a) (hbl : SV w 0 l' b) :
    Calls Try.prog 17 #[.agg (scells g a1 a2 a3 a4 a).toArray, .agg (scells h b1 b2 b3 b4 b).toArray] w fun e w' => e = .returned (.bool (ssameH g h && ssame l l')) ∧ Below w.heap.size w w' := by
  show Calls Try.prog 17 #[sagg g a1 a2 a3 a4 a, sagg h b1 b2 b3 b4 b] w _
  obtain ⟨bb1, o1, ao1, cap1, rfl, hao1, _, hin1⟩ := hal
  obtain ⟨bb2, o2, ao2, cap2, rfl, hao2, _, hin2⟩ := hbl
  have Hih := Lib.hid ih
  have HS := Lib.hid (And.intro hl hl')
  have HI := Lib.hid (And.intro (And.intro hao1 hin1) (And.intro hao2 hin2))
  have HXY := Lib.hid (And.intro hx hy)
  clear ih hl hl' hao1 hin1 hao2 hin2 hx hy
  obtain ⟨t1, ht1⟩ : ∃ t, xsame g.x1 h.x1 = t := ⟨_, rfl⟩
  obtain ⟨t2, ht2⟩ : ∃ t, xsame g.x2 h.x2 = t := ⟨_, rfl⟩
  obtain ⟨t3, ht3⟩ : ∃ t, xsame g.x3 h.x3 = t := ⟨_, rfl⟩
  obtain ⟨t4, ht4⟩ : ∃ t, xsame g.x4 h.x4 = t := ⟨_, rfl⟩
  have Hq1 : Hid (∀ w, EV w 0 g.x1.l a1 → EV w 0 h.x1.l b1 → Calls Try.prog 15 #[.agg #[.int .i64 g.x1.h.k, .int .i64 g.x1.h.n, .string g.x1.h.s, a1], .agg #[.int .i64 h.x1.h.k, .int .i64 h.x1.h.n, .string h.x1.h.s, b1]] w fun e w' => e = .returned (.bool t1) ∧ Below w.heap.size w w') := fun w p q => by rw [← ht1]; exact spec_SameExp g.x1 h.x1 hg.1 hh.1 w a1 b1 p q
  have Hq2 : Hid (∀ w, EV w 0 g.x2.l a2 → EV w 0 h.x2.l b2 → Calls Try.prog 15 #[.agg #[.int .i64 g.x2.h.k, .int .i64 g.x2.h.n, .string g.x2.h.s, a2], .agg #[.int .i64 h.x2.h.k, .int .i64 h.x2.h.n, .string h.x2.h.s, b2]] w fun e w' => e = .returned (.bool t2) ∧ Below w.heap.size w w') := fun w p q => by rw [← ht2]; exact spec_SameExp g.x2 h.x2 hg.2.1 hh.2.1 w a2 b2 p q
  have Hq3 : Hid (∀ w, EV w 0 g.x3.l a3 → EV w 0 h.x3.l b3 → Calls Try.prog 15 #[.agg #[.int .i64 g.x3.h.k, .int .i64 g.x3.h.n, .string g.x3.h.s, a3], .agg #[.int .i64 h.x3.h.k, .int .i64 h.x3.h.n, .string h.x3.h.s, b3]] w fun e w' => e = .returned (.bool t3) ∧ Below w.heap.size w w') := fun w p q => by rw [← ht3]; exact spec_SameExp g.x3 h.x3 hg.2.2.1 hh.2.2.1 w a3 b3 p q
  have Hq4 : Hid (∀ w, EV w 0 g.x4.l a4 → EV w 0 h.x4.l b4 → Calls Try.prog 15 #[.agg #[.int .i64 g.x4.h.k, .int .i64 g.x4.h.n, .string g.x4.h.s, a4], .agg #[.int .i64 h.x4.h.k, .int .i64 h.x4.h.n, .string h.x4.h.s, b4]] w fun e w' => e = .returned (.bool t4) ∧ Below w.heap.size w w') := fun w p q => by rw [← ht4]; exact spec_SameExp g.x4 h.x4 hg.2.2.2 hh.2.2.2 w a4 b4 p q
  have HT : Hid (xsame g.x1 h.x1 = t1 ∧ xsame g.x2 h.x2 = t2 ∧ xsame g.x3 h.x3 = t3 ∧ xsame g.x4 h.x4 = t4) := ⟨ht1, ht2, ht3, ht4⟩
  have T0 := Lib.hid (Two.start w g h a1 a2 a3 a4 (.slice ao1 (slen l) cap1) b1 b2 b3 b4 (.slice ao2 (slen l') cap2) 30 30)
  have HA := Lib.hid (And.intro ha hb)
  clear ht1 ht2 ht3 ht4 ha hb
  by_cases hk : g.k = h.k
  case neg =>
    have hf : Hid (ssameH g h = false) := show ssameH g h = false by simp [ssameH, hk]
    have h1 := int_ne hk
    go_enter Try.func17, Try.ntmps17
    go_wp2
    go_ret
    exact retB (by rw [hf.out]; rfl) T0.out.low
  by_cases hs : g.s = h.s
  case neg =>
    have hf : Hid (ssameH g h = false) := show ssameH g h = false by simp [ssameH, hs]
    have h1 := str_ne hs
    have h2 : (g.k == h.k) = true := by rw [beq_iff_eq]; exact hk
    have h3 : (g.k != h.k) = false := by rw [bne, h2]; rfl
    clear hs hk
    go_enter Try.func17, Try.ntmps17
    go_wp2
    go_ret
    exact retB (by rw [hf.out]; rfl) T0.out.low
  have Hks : Hid (g.k = h.k ∧ g.s = h.s) := ⟨hk, hs⟩
  have h2 : (g.k == h.k) = true := by rw [beq_iff_eq]; exact hk
  have h3 : (g.k != h.k) = false := by rw [bne, h2]; rfl
  have h4 : (g.s.toList == h.s.toList) = true := by rw [hs]; simp
  have h5 : (g.s.toList != h.s.toList) = false := by rw [bne, h4]; rfl
  clear hk hs
  go_enter Try.func17, Try.ntmps17
  go_wp2_with fail
  refine (Hq1.out _ (HA.out.1.e1.later T0.out.low) (HA.out.2.e1.later T0.out.low)).mono ?_
  rintro e w1 ⟨rfl, hb1⟩
  have T1 := Lib.hid (T0.out.later hb1)
  clear hb1 T0
  cases t1 with
  | false =>
    have hf : Hid (ssameH g h = false) := show ssameH g h = false by simp [ssameH, HT.out]
    go_wp2
    go_ret
    exact retB (by rw [hf.out]; rfl) T1.out.low
  | true =>
  have c20 := part2 T1.out.r1 0 _ rfl
  have d20 := part2 T1.out.r2 0 _ rfl
  have c21 := part2 T1.out.r1 1 _ rfl
  have d21 := part2 T1.out.r2 1 _ rfl
  have c22 := part2 T1.out.r1 2 _ rfl
  have d22 := part2 T1.out.r2 2 _ rfl
  have c23 := part2 T1.out.r1 3 _ rfl
  have d23 := part2 T1.out.r2 3 _ rfl
  simp only [Nat.add_zero, Nat.reduceAdd] at c20 d20 c21 d21 c22 d22 c23 d23
  go_wp2_with fail
  refine (Hq2.out _ (HA.out.1.e2.later T1.out.low) (HA.out.2.e2.later T1.out.low)).mono ?_
  rintro e w2 ⟨rfl, hb2⟩
  have T2 := Lib.hid (T1.out.later hb2)
  clear c20 d20 c21 d21 c22 d22 c23 d23
  clear hb2 T1
  cases t2 with
  | false =>
    have hf : Hid (ssameH g h = false) := show ssameH g h = false by simp [ssameH, HT.out]
    go_wp2
    go_ret
    exact retB (by rw [hf.out]; rfl) T2.out.low
  | true =>
  have c30 := part3 T2.out.r1 0 _ rfl
  have d30 := part3 T2.out.r2 0 _ rfl
  have c31 := part3 T2.out.r1 1 _ rfl
  have d31 := part3 T2.out.r2 1 _ rfl
  have c32 := part3 T2.out.r1 2 _ rfl
  have d32 := part3 T2.out.r2 2 _ rfl
  have c33 := part3 T2.out.r1 3 _ rfl
  have d33 := part3 T2.out.r2 3 _ rfl
  simp only [Nat.add_zero, Nat.reduceAdd] at c30 d30 c31 d31 c32 d32 c33 d33
  go_wp2_with fail
  refine (Hq3.out _ (HA.out.1.e3.later T2.out.low) (HA.out.2.e3.later T2.out.low)).mono ?_
  rintro e w3 ⟨rfl, hb3⟩
  have T3 := Lib.hid (T2.out.later hb3)
  clear c30 d30 c31 d31 c32 d32 c33 d33
  clear hb3 T2
  cases t3 with
  | false =>
    have hf : Hid (ssameH g h = false) := show ssameH g h = false by simp [ssameH, HT.out]
    go_wp2
    go_ret
    exact retB (by rw [hf.out]; rfl) T3.out.low
  | true =>
  have c40 := part4 T3.out.r1 0 _ rfl
  have d40 := part4 T3.out.r2 0 _ rfl
  have c41 := part4 T3.out.r1 1 _ rfl
  have d41 := part4 T3.out.r2 1 _ rfl
  have c42 := part4 T3.out.r1 2 _ rfl
  have d42 := part4 T3.out.r2 2 _ rfl
  have c43 := part4 T3.out.r1 3 _ rfl
  have d43 := part4 T3.out.r2 3 _ rfl
  simp only [Nat.add_zero, Nat.reduceAdd] at c40 d40 c41 d41 c42 d42 c43 d43
  go_wp2_with fail
  refine (Hq4.out _ (HA.out.1.e4.later T3.out.low) (HA.out.2.e4.later T3.out.low)).mono ?_
  rintro e w4 ⟨rfl, hb4⟩
  have T4 := Lib.hid (T3.out.later hb4)
  clear c40 d40 c41 d41 c42 d42 c43 d43
  clear hb4 T3
  cases t4 with
  | false =>
    have hf : Hid (ssameH g h = false) := show ssameH g h = false by simp [ssameH, HT.out]
    go_wp2
    go_ret
    exact retB (by rw [hf.out]; rfl) T4.out.low
  | true =>
  have hf0 : Hid (ssameH g h = true) := show ssameH g h = true by simp [ssameH, HT.out, Hks.out]
  have c18 := part5 T4.out.r1
  have d18 := part5 T4.out.r2
  by_cases hL : slen l = slen l'
  case neg =>
    have hf : Hid ((ssameH g h && ssame l l') = false) := show (ssameH g h && ssame l l') = false by rw [ssame_diff hL]; simp
    have g1 : ((slen l : Int) == (slen l' : Int)) = false := int_ne (by omega)
    clear hL
    go_wp2
    go_ret
    exact retB hf.out T4.out.low
  have g1 : ((slen l : Int) == (slen l' : Int)) = true := by rw [beq_iff_eq]; omega
  have g2 : ((slen l : Int) != (slen l' : Int)) = false := by rw [bne, g1]; rfl
  have HL := Lib.hid hL
  have hlx : (slen l : Int) ≤ 10000000 := by have := slen_le l; have := HXY.out.1; omega
  clear hL
  go_wp2
  go_loopw [5] (fun i wr => ∃ (R S : SF) (k : Nat), i = .int .i64 (k : Int) ∧ Hid (k + slen R = slen l ∧ k + slen S = slen l' ∧ snodes R ≤ snodes l ∧ snodes S ≤ snodes l' ∧ SIn w 0 R bb1 (o1 + k * 19) ∧ SIn w 0 S bb2 (o2 + k * 19) ∧ ssame l l' = ssame R S ∧ allSmall R ∧ allSmall S) ∧ Hid (Two w wr w.heap.size g h a1 a2 a3 a4 (.slice ao1 (slen l) cap1) b1 b2 b3 b4 (.slice ao2 (slen l') cap2))) (fun i _ => slen l - (RowKit.intOf i).toNat)
  case atStart => exact ⟨l, l', 0, rfl, ⟨by omega, by have := HL.out; omega, Nat.le_refl _, Nat.le_refl _, by simpa using HI.out.1.2, by simpa using HI.out.2.2, rfl, HS.out.1, HS.out.2⟩, T4⟩
  case round =>
    obtain ⟨R, S, k, rfl, hr, hT⟩ := hrel
    clear c18 d18 T4
    obtain ⟨e1, e2, e3, e4, e5, e6, e7, e8, e9⟩ := hr.out
    have c18 := part5 hT.out.r1
    have d18 := part5 hT.out.r2
    cases R with
    | nil =>
      have hk : ¬ (k : Int) < (slen l : Int) := by simp only [slen] at e1; omega
      have hres : Hid (ssame l l' = true) := show ssame l l' = true by
        rw [e7]
        cases S with
        | nil => rfl
        | node _ _ _ _ _ => simp only [slen] at e1 e2; have := HL.out; omega
      clear e1 e2 e3 e4 e5 e6 e7 e8 e9
      go_wp2
      go_ret
      exact retB (by rw [hf0.out, hres.out]; rfl) hT.out.low
    | node p q h1 l1 r =>
      cases S with
      | nil => simp only [slen] at e1 e2; have := HL.out; omega
      | node p' q' h2' l2 r' =>
      have hlt : (k : Int) < (slen l : Int) := by simp only [slen] at e1; omega
      have hlt2 : (k : Int) < (slen l' : Int) := by simp only [slen] at e2; omega
      have hk0 : (0 : Int) ≤ (k : Int) := by omega
      have hne1 : ¬ l = .nil := by intro e; rw [e] at e1; simp only [slen] at e1; omega
      have hne2 : ¬ l' = .nil := by intro e; rw [e] at e2; simp only [slen] at e2; omega
      obtain rfl : ao1 = some ⟨bb1, o1, Option.none⟩ := HI.out.1.1.resolve_right hne1
      obtain rfl : ao2 = some ⟨bb2, o2, Option.none⟩ := HI.out.2.1.resolve_right hne2
      have hbw := hT.out.low
      obtain ⟨p1, p2, p3, p4, pv, hp, hpl, ra⟩ := (SIn_node.1 (SIn_later hbw _ _ _ e5)).1.range
      obtain ⟨q1, q2, q3, q4, qv, hq, hql, rc⟩ := (SIn_node.1 (SIn_later hbw _ _ _ e6)).1.range
      simp only [snodes] at e3 e4
      have Hl := Lib.hid (Hih.out h1 h2' l1 l2 (by omega) e8.1 e9.1 e8.2.1 e9.2.1 (by have := HXY.out.2; omega))
      rw [ssame_node] at e7
      have He : Hid (k + 1 + slen r = slen l ∧ k + 1 + slen r' = slen l' ∧ snodes r ≤ snodes l ∧ snodes r' ≤ snodes l' ∧ SIn w 0 r bb1 (o1 + (k + 1) * 19) ∧ SIn w 0 r' bb2 (o2 + (k + 1) * 19) ∧ ssame l l' = ((ssameH h1 h2' && ssame l1 l2) && ssame r r') ∧ allSmall r ∧ allSmall r') := ⟨by simp only [slen] at e1; omega, by simp only [slen] at e2; omega, by omega, by omega, by rw [show o1 + (k + 1) * 19 = o1 + k * 19 + 19 by omega]; exact (SIn_node.1 e5).2, by rw [show o2 + (k + 1) * 19 = o2 + k * 19 + 19 by omega]; exact (SIn_node.1 e6).2, e7, e8.2.2, e9.2.2⟩
      have HU : Hid ((HV wr 0 h1 p1 p2 p3 p4 ∧ SV wr 0 l1 pv) ∧ (HV wr 0 h2' q1 q2 q3 q4 ∧ SV wr 0 l2 qv)) := ⟨⟨hp, hpl⟩, ⟨hq, hql⟩⟩
      obtain ⟨A, HA1⟩ : ∃ A, Hid (A = scells h1 p1 p2 p3 p4 pv) := ⟨_, rfl⟩
      obtain ⟨C, HC1⟩ : ∃ C, Hid (C = scells h2' q1 q2 q3 q4 qv) := ⟨_, rfl⟩
      rw [← HA1.out] at ra
      rw [← HC1.out] at rc
      have hiA : (Try.prog.info? 30).map (·.size) = some A.length := by rw [HA1.out]; exact sizeIS
      have hiC : (Try.prog.info? 30).map (·.size) = some C.length := by rw [HC1.out]; exact sizeIS
      obtain ⟨tv, htv⟩ : ∃ tv, (ssameH h1 h2' && ssame l1 l2) = tv := ⟨_, rfl⟩
      have Htv := Lib.hid htv
      clear hr e1 e2 e3 e4 e5 e6 e7 e8 e9 hne1 hne2 hp hpl hq hql htv hbw
      go_wp2_with fail
      refine wp_region_held_drew (S := fun w' => (w'.cell? ⟨w.heap.size, 18, Option.none⟩ = some (.slice (some ⟨bb1, o1, Option.none⟩) (slen l) cap1) ∧ w'.cell? ⟨w.heap.size + 1, 18, Option.none⟩ = some (.slice (some ⟨bb2, o2, Option.none⟩) (slen l') cap2)) ∧ (w'.rangeAt bb1 (o1 + k * 19) A ∧ w'.rangeAt bb2 (o2 + k * 19) C)) (by kernel_rfl) ⟨⟨c18, d18⟩, ⟨(World.rangeAt_drew _ _ _ _).2 ra, (World.rangeAt_drew _ _ _ _).2 rc⟩⟩ (fun hHeld => ?_)
      refine wpAnyH_take (i := 0) (v := .pointer (some ⟨w.heap.size, 18, Option.none⟩)) rfl (by kernel_rfl) (by kernel_rfl) (by kernel_rfl) (fun _ _ _ h => h) (Or.inl ⟨by rfl, ?yz0⟩) hHeld ?_
      case yz0 => intro w hSw; go_simp
      simp only [Act.put, List.getElem_toArray, List.getElem_cons_succ, List.getElem_cons_zero, List.setIfInBounds_toArray, List.set_cons_zero, List.set_cons_succ]
      refine wpAnyH_take (i := 1) (v := .slice (some ⟨bb1, o1, Option.none⟩) (slen l) cap1) rfl (by kernel_rfl) (by kernel_rfl) (by kernel_rfl) (fun _ _ _ h => h) (Or.inl ⟨by rfl, ?yz1⟩) hHeld ?_
      case yz1 => intro w hSw; have q1 := hSw.1.1; clear hSw c18 d18 ra rc hHeld; go_simp
      simp only [Act.put, List.getElem_toArray, List.getElem_cons_succ, List.getElem_cons_zero, List.setIfInBounds_toArray, List.set_cons_zero, List.set_cons_succ]
      refine wpAnyH_take (i := 2) (v := .int .i64 (k : Int)) rfl (by kernel_rfl) (by kernel_rfl) (by kernel_rfl) (fun _ _ _ h => h) (Or.inl ⟨by rfl, ?yz2⟩) hHeld ?_
      case yz2 => intro w hSw; go_simp
      simp only [Act.put, List.getElem_toArray, List.getElem_cons_succ, List.getElem_cons_zero, List.setIfInBounds_toArray, List.set_cons_zero, List.set_cons_succ]
      refine wpAnyH_take (i := 3) (v := .pointer (some ⟨bb1, o1 + k * 19, Option.none⟩)) rfl (by kernel_rfl) (by kernel_rfl) (by kernel_rfl) (fun _ _ _ h => h) (Or.inl ⟨by rfl, ?yz3⟩) hHeld ?_
      case yz3 => intro w hSw; go_simp
      simp only [Act.put, List.getElem_toArray, List.getElem_cons_succ, List.getElem_cons_zero, List.setIfInBounds_toArray, List.set_cons_zero, List.set_cons_succ]
      refine wpAnyH_take (i := 4) (v := .agg (A).toArray) rfl (by kernel_rfl) (by kernel_rfl) (by kernel_rfl) (fun _ _ _ h => h) (yieldsIf_load_mid (by rfl) 30 _ rfl (bb1) (o1 + k * 19) rfl (A) _ (fun w h => h.2.1) Try.underlying30 rfl hiA) hHeld ?_
      simp only [Act.put, List.getElem_toArray, List.getElem_cons_succ, List.getElem_cons_zero, List.setIfInBounds_toArray, List.set_cons_zero, List.set_cons_succ]
      refine wpAnyH_take (i := 5) (v := .pointer (some ⟨w.heap.size + 1, 18, Option.none⟩)) rfl (by kernel_rfl) (by kernel_rfl) (by kernel_rfl) (fun _ _ _ h => h) (Or.inl ⟨by rfl, ?yz5⟩) hHeld ?_
      case yz5 => intro w hSw; go_simp
      simp only [Act.put, List.getElem_toArray, List.getElem_cons_succ, List.getElem_cons_zero, List.setIfInBounds_toArray, List.set_cons_zero, List.set_cons_succ]
      refine wpAnyH_take (i := 6) (v := .slice (some ⟨bb2, o2, Option.none⟩) (slen l') cap2) rfl (by kernel_rfl) (by kernel_rfl) (by kernel_rfl) (fun _ _ _ h => h) (Or.inl ⟨by rfl, ?yz6⟩) hHeld ?_
      case yz6 => intro w hSw; have q1 := hSw.1.2; clear hSw c18 d18 ra rc hHeld; go_simp
      simp only [Act.put, List.getElem_toArray, List.getElem_cons_succ, List.getElem_cons_zero, List.setIfInBounds_toArray, List.set_cons_zero, List.set_cons_succ]
      refine wpAnyH_take (i := 7) (v := .int .i64 (k : Int)) rfl (by kernel_rfl) (by kernel_rfl) (by kernel_rfl) (fun _ _ _ h => h) (Or.inl ⟨by rfl, ?yz7⟩) hHeld ?_
      case yz7 => intro w hSw; go_simp
      simp only [Act.put, List.getElem_toArray, List.getElem_cons_succ, List.getElem_cons_zero, List.setIfInBounds_toArray, List.set_cons_zero, List.set_cons_succ]
      refine wpAnyH_take (i := 8) (v := .pointer (some ⟨bb2, o2 + k * 19, Option.none⟩)) rfl (by kernel_rfl) (by kernel_rfl) (by kernel_rfl) (fun _ _ _ h => h) (Or.inl ⟨by rfl, ?yz8⟩) hHeld ?_
      case yz8 => intro w hSw; go_simp
      simp only [Act.put, List.getElem_toArray, List.getElem_cons_succ, List.getElem_cons_zero, List.setIfInBounds_toArray, List.set_cons_zero, List.set_cons_succ]
      refine wpAnyH_take (i := 9) (v := .agg (C).toArray) rfl (by kernel_rfl) (by kernel_rfl) (by kernel_rfl) (fun _ _ _ h => h) (yieldsIf_load_mid (by rfl) 30 _ rfl (bb2) (o2 + k * 19) rfl (C) _ (fun w h => h.2.2) Try.underlying30 rfl hiC) hHeld ?_
      simp only [Act.put, List.getElem_toArray, List.getElem_cons_succ, List.getElem_cons_zero, List.setIfInBounds_toArray, List.set_cons_zero, List.set_cons_succ]
      have HQ : Hid (Calls Try.prog 17 #[.agg A.toArray, .agg C.toArray] wr.drew fun e w' => e = .returned (.bool tv) ∧ Below wr.drew.heap.size wr.drew w') := by
        have hq := Hl.out wr.drew p1 p2 p3 p4 pv q1 q2 q3 q4 qv HU.out.1.1.drew HU.out.2.1.drew HU.out.1.2.drew HU.out.2.2.drew
        rw [Htv.out, ← HA1.out, ← HC1.out] at hq
        exact hq
      refine wpAnyH_ready (rs := [10]) (by kernel_rfl) (by simp) ?_
      refine AllReadyH.cons rfl (fun K hK => ?_) AllReadyH.nil
      rw [if_pos (by rfl)]
      simp only [List.getElem_toArray, List.getElem_cons_succ, List.getElem_cons_zero]
      go_wp2_with fail
      refine (HQ.out).mono ?_
      rintro e w1 ⟨rfl, hb1⟩
      go_wp2_with fail
      refine hK.out _ _ (⟨⟨keeps hb1 hHeld.1.1, keeps hb1 hHeld.1.2⟩, ⟨rangeAt_later hHeld.2.1 hb1, rangeAt_later hHeld.2.2 hb1⟩⟩) (fun hHeld => ?_)
      refine wpAnyH_take (i := 11) (v := .bool (!tv)) rfl (by kernel_rfl) (by kernel_rfl) (by kernel_rfl) (fun _ _ _ h => h) (Or.inl ⟨by rfl, ?yz11⟩) hHeld ?_
      case yz11 => intro w hSw; go_simp
      simp only [Act.put, List.getElem_toArray, List.getElem_cons_succ, List.getElem_cons_zero, List.setIfInBounds_toArray, List.set_cons_zero, List.set_cons_succ]
      refine wpAnyH_done (by kernel_rfl) ?_ _
      have bd : Below wr.heap.size wr wr.drew := (Below.refl _ wr).drew
      have hT2 := Lib.hid ((hT.out.later bd).later hb1)
      clear hHeld bd hb1 ra rc hiA hiC c18 d18 hT HQ
      cases tv with
      | false =>
        have hres : Hid (ssame l l' = false) := show ssame l l' = false by rw [He.out.2.2.2.2.2.2.1, Htv.out]; rfl
        go_wp2
        go_ret
        exact retB (by rw [hf0.out, hres.out]; rfl) hT2.out.low
      | true =>
        go_wp2
        go_roundw
        case rel =>
          obtain ⟨g1, g2, g3, g4, g5, g6, g7, g8, g9⟩ := He.out
          exact ⟨r, r', k + 1, by go_num, ⟨g1, g2, g3, g4, g5, g6, by rw [g7, Htv.out, Bool.true_and], g8, g9⟩, hT2⟩
        case measure => simp [RowKit.intOf]; omega
theorem spec_SameStmt_all : ∀ (n : Nat) (g h : SH) (l l' : SF), snodes l < n → small g → small h → allSmall l → allSmall l' → snodes l ≤ 10000000 → snodes l' ≤ 10000000 → ∀ (w : World) (a1 a2 a3 a4 a b1 b2 b3 b4 b : Value), HV w 0 g a1 a2 a3 a4 → HV w 0 h b1 b2 b3 b4 → SV w 0 l a → SV w 0 l' b → Calls Try.prog 17 #[.agg (scells g a1 a2 a3 a4 a).toArray, .agg (scells h b1 b2 b3 b4 b).toArray] w fun e w' => e = .returned (.bool (ssameH g h && ssame l l')) ∧ Below w.heap.size w w'
  | 0, _, _, _, _, h, _, _, _, _, _, _, _, _, _, _, _, _, _, _, _, _, _, _, _, _, _ => absurd h (by omega)
  | n + 1, g, h, l, l', hn, k1, k2, k3, k4, hx, hy, w, a1, a2, a3, a4, a, b1, b2, b3, b4, b, ha, hb, hal, hbl => spec_SameStmt_step g h l l' k1 k2 k3 k4 hx hy (fun g h l1 l2 c1 c2 c3 c4 c5 c6 w a1 a2 a3 a4 a b1 b2 b3 b4 b d1 d2 d3 d4 => spec_SameStmt_all n g h l1 l2 (by omega) c2 c3 c4 c5 (by omega) c6 w a1 a2 a3 a4 a b1 b2 b3 b4 b d1 d2 d3 d4) w a1 a2 a3 a4 a b1 b2 b3 b4 b ha hb hal hbl
theorem spec_SameStmt (g h : SH) (l l' : SF) (k1 : small g) (k2 : small h) (k3 : allSmall l) (k4 : allSmall l') (hx : snodes l ≤ 10000000) (hy : snodes l' ≤ 10000000) (w : World) (a1 a2 a3 a4 a b1 b2 b3 b4 b : Value) (ha : HV w 0 g a1 a2 a3 a4) (hb : HV w 0 h b1 b2 b3 b4) (hal : SV w 0 l a) (hbl : SV w 0 l' b) :
    Calls Try.prog 17 #[.agg (scells g a1 a2 a3 a4 a).toArray, .agg (scells h b1 b2 b3 b4 b).toArray] w fun e w' => e = .returned (.bool (ssameH g h && ssame l l')) ∧ Below w.heap.size w w' :=
  spec_SameStmt_all _ g h l l' (Nat.lt_succ_self _) k1 k2 k3 k4 hx hy w a1 a2 a3 a4 a b1 b2 b3 b4 b ha hb hal hbl
end Go.Proofs.Ytkhccpjkajhnpaa
