/-
  Texts in one: MtDist, MtDistS.
-/
import Derived.Test.YtjdpddcnogdekaaMtRest
import Derived.Test.YtjdpddcnogdekaaAffOkS
import Derived.BigQuiet
/-
  By how many rounds two sums of one name alone are apart.
-/
namespace Go.Proofs.Ytjdpddcnogdekaa
open Go.RowKit Go.Lib
set_option linter.unusedSimpArgs false
set_option linter.unusedVariables false

def alone11 (ts : List AR) (s : ByteArray) : Bool := match ts with | [] => true | [t] => decide (t.s = s) | _ => false
def dist11 (c : Int) (ts : List AR) (d : Int) (us : List AR) (s : ByteArray) : Int × Bool :=
  if coefA ts s ≠ 0 ∧ coefA us s = coefA ts s ∧ alone11 ts s = true ∧ alone11 us s = true ∧ (c - d).tmod (coefA ts s) = 0 then ((c - d).tdiv (coefA ts s), true) else (0, false)
def distR (x : Int × Bool) : Ending := .returned (.tuple #[.int .i64 x.1, .bool x.2])
theorem rest_alone {ts : List AR} {s : ByteArray} (h : okFrom8 none ts = true) : (rest11 ts s).length = 0 ↔ alone11 ts s = true := by
  rw [List.length_eq_zero_iff]
  match ts, h with
  | [], _ => simp [rest11, alone11]
  | [t], _ => simp [rest11, alone11]
  | t :: u :: r, h =>
    have h1 : blt t.s u.s = true := okFrom8_later (u :: r) t.s (by rw [okFrom8, Bool.and_eq_true] at h; exact h.2) u (by simp)
    simp only [alone11]
    constructor
    · intro e
      rw [rest11, List.filter_eq_nil_iff] at e
      have e1 := e t (by simp); have e2 := e u (by simp)
      simp at e1 e2
      rw [e1, e2, blt_irrefl] at h1; cases h1
    · intro e; cases e
theorem tdiv_bd {a n : Int} (h : -200000 ≤ a ∧ a ≤ 200000) : wrap64 (a.tdiv n) = a.tdiv n := by
  have h1 : (a.tdiv n).natAbs = a.natAbs / n.natAbs := Int.natAbs_tdiv a n
  have h2 : a.natAbs / n.natAbs ≤ a.natAbs := Nat.div_le_self _ _
  unfold wrap64; omega
theorem affOk_k {c : Int} {ts : List AR} (h : affOk8 c ts = true) : okFrom8 none ts = true := by simp only [affOk8, Bool.and_eq_true] at h; exact h.2
theorem affOk_cd {c : Int} {ts : List AR} (h : affOk8 c ts = true) : -100000 ≤ c ∧ c ≤ 100000 := by
  simp only [affOk8, inMax8, Bool.and_eq_true, decide_eq_true_eq] at h
  exact h.1
set_option maxHeartbeats 1000000 in
theorem alone_is (c : Int) (ts : List AR) (hn : ts.length ≤ 10000000) (s : ByteArray) (va : Value) (w : World) (ha : AV w 0 va ts) (v : Bool) (hv : alone11 ts s = v) :
    Calls Try.prog 76 #[.agg #[.int .i64 c, va], .string s] w fun e w' => e = .returned (.bool v) ∧ Below w.heap.size w w' := by
  obtain ⟨ao, cap, rfl, hr⟩ := ha
  have B := Lib.hid (alloc_below w (.cells #[.int .i64 c, .slice ao ts.length cap] 26))
  obtain ⟨⟨y0, y1⟩, _⟩ := blk2 (heap_last w (.cells #[.int .i64 c, .slice ao ts.length cap] 26))
  have hcs : (ts.length = 0 ∧ v = true) ∨ (∃ t, ts[0]? = some t ∧ ts.length = 1 ∧ decide (t.s = s) = v) ∨ (2 ≤ ts.length ∧ v = false) := by
    match ts, hv with
    | [], hv => exact .inl ⟨rfl, hv.symm⟩
    | [t], hv => exact .inr (.inl ⟨t, rfl, rfl, hv⟩)
    | t :: u :: r, hv => exact .inr (.inr ⟨by simp, hv.symm⟩)
  clear hv
  rcases hcs with ⟨hL, rfl⟩ | ⟨t, ht, hL, hv⟩ | ⟨hL, rfl⟩
  · rw [hL] at B y1 ⊢
    clear hr
    go_enter Try.func76, Try.ntmps76
    go_wp2
    go_ret
    exact ⟨rfl, B.out⟩
  · rcases hr with hr | ⟨g, off, rfl, _, gl, hc⟩
    · subst hr; cases hL
    have A0 := ((alloc_below w (.cells #[.int .i64 c, .slice (some ⟨g, off, Option.none⟩) ts.length cap] 26)).cell (p := ⟨g, off, Option.none⟩) gl).trans (by simpa using (hc 0 t ht).1)
    rw [hL] at A0 B y1 ⊢
    clear hc ht
    by_cases he : t.s = s
    · obtain rfl : v = true := by rw [← hv]; simp [he]
      subst he
      go_enter Try.func76, Try.ntmps76
      go_wp2
      go_ret
      exact ⟨ret_bool (by simp), B.out⟩
    · obtain rfl : v = false := by rw [← hv]; simp [he]
      have hne := str_ne he
      go_enter Try.func76, Try.ntmps76
      go_wp2
      go_ret
      exact ⟨rfl, B.out⟩
  · obtain ⟨L, hL2⟩ : ∃ L, ts.length = L := ⟨_, rfl⟩
    rw [hL2] at hL B y1 ⊢
    have hL0 : ¬ (L : Int) = 0 := by omega
    have hL1 : ¬ (L : Int) = 1 := by omega
    clear hr hL2
    go_enter Try.func76, Try.ntmps76
    go_wp2
    go_ret
    exact ⟨ret_bool (beq_eq_false_iff_ne.2 hL0), B.out⟩
set_option maxHeartbeats 2000000 in
theorem like_is (c : Int) (ts : List AR) (hn : ts.length ≤ 10000000) (hts : ∀ t ∈ ts, t.s.size ≤ 281474976710656) (d : Int) (us : List AR) (hn2 : us.length ≤ 10000000) (hus : ∀ t ∈ us, t.s.size ≤ 281474976710656) (s : ByteArray) (hok : affOk8 c ts = true) (hok2 : affOk8 d us = true) (va vb : Value) (w : World) (ha : AV w 0 va ts) (hb : AV w 0 vb us) (v : Bool) (hv : (alone11 ts s && alone11 us s && decide (coefA ts s ≠ 0) && decide (coefA us s = coefA ts s)) = v) :
    Calls Try.prog 58 #[.agg #[.int .i64 c, va], .agg #[.int .i64 d, vb], .string s] w fun e w' => e = .returned (.bool v) ∧ Below w.heap.size w w' := by
  have T0 := Lib.hid (Two11.start w c d 26 ha hb (RV.nil11 w))
  have HM := Lib.hid (And.intro hn hn2)
  have HS := Lib.hid (And.intro hts hus)
  have HO := Lib.hid (And.intro hok hok2)
  obtain ⟨a1, c1, rfl⟩ := ha.shape
  obtain ⟨a2, c2, rfl⟩ := hb.shape
  obtain ⟨n, hN⟩ : ∃ n, Hid (coefA ts s = n) := ⟨_, rfl⟩
  obtain ⟨m, hM⟩ : ∃ m, Hid (coefA us s = m) := ⟨_, rfl⟩
  clear ha hb hn hn2 hts hus hok hok2
  rw [hN.out, hM.out] at hv
  cases h1 : alone11 ts s with
  | false =>
    have H1 := Lib.hid h1
    have HV : Hid (v = false) := show _ = _ by rw [← hv]; simp [h1]
    clear hv
    clear h1
    go_enter Try.func58, Try.ntmps58
    go_wp2_with fail
    refine (spec_CoefOf c ts (by have := HM.out; omega) s _ _ T0.out.a1).mono ?_
    rintro e w1 ⟨rfl, hw1⟩
    have T1 := Lib.hid (T0.out.later (hw1 ▸ alloc_below _ _))
    rw [hN.out]
    clear hw1 T0
    obtain ⟨D0, D1⟩ := And.intro (cellC11 T1.out.r1) (cellT11 T1.out.r1)
    go_wp2_with fail
    refine (spec_AffOk c ts (by have := HM.out; omega) HS.out.1 _ _ T1.out.a1 true HO.out.1).mono ?_
    rintro e w2 ⟨rfl, hb1⟩
    have T2 := Lib.hid (T1.out.later hb1)
    clear hb1 T1 D0 D1
    obtain ⟨D0, D1⟩ := And.intro (cellC11 T2.out.r2) (cellT11 T2.out.r2)
    go_wp2_with fail
    refine (spec_AffOk d us (by have := HM.out; omega) HS.out.2 _ _ T2.out.a2 true HO.out.2).mono ?_
    rintro e w3 ⟨rfl, hb1⟩
    have T3 := Lib.hid (T2.out.later hb1)
    clear hb1 T2 D0 D1
    obtain ⟨D0, D1⟩ := And.intro (cellC11 T3.out.r1) (cellT11 T3.out.r1)
    go_wp2_with fail
    refine (alone_is c ts HM.out.1 s _ _ T3.out.a1 false H1.out).mono ?_
    rintro e w4 ⟨rfl, hb1⟩
    have T4 := Lib.hid (T3.out.later hb1)
    clear hb1 T3 D0 D1
    go_wp2
    go_ret
    exact ⟨by rw [HV.out]; rfl, T4.out.low⟩
  | true =>
    have H1 := Lib.hid h1
    cases h2 : alone11 us s with
    | false =>
      have H2 := Lib.hid h2
      have HV : Hid (v = false) := show _ = _ by rw [← hv]; simp [h1, h2]
      clear hv
      clear h1 h2
      go_enter Try.func58, Try.ntmps58
      go_wp2_with fail
      refine (spec_CoefOf c ts (by have := HM.out; omega) s _ _ T0.out.a1).mono ?_
      rintro e w1 ⟨rfl, hw1⟩
      have T1 := Lib.hid (T0.out.later (hw1 ▸ alloc_below _ _))
      rw [hN.out]
      clear hw1 T0
      obtain ⟨D0, D1⟩ := And.intro (cellC11 T1.out.r1) (cellT11 T1.out.r1)
      go_wp2_with fail
      refine (spec_AffOk c ts (by have := HM.out; omega) HS.out.1 _ _ T1.out.a1 true HO.out.1).mono ?_
      rintro e w2 ⟨rfl, hb1⟩
      have T2 := Lib.hid (T1.out.later hb1)
      clear hb1 T1 D0 D1
      obtain ⟨D0, D1⟩ := And.intro (cellC11 T2.out.r2) (cellT11 T2.out.r2)
      go_wp2_with fail
      refine (spec_AffOk d us (by have := HM.out; omega) HS.out.2 _ _ T2.out.a2 true HO.out.2).mono ?_
      rintro e w3 ⟨rfl, hb1⟩
      have T3 := Lib.hid (T2.out.later hb1)
      clear hb1 T2 D0 D1
      obtain ⟨D0, D1⟩ := And.intro (cellC11 T3.out.r1) (cellT11 T3.out.r1)
      go_wp2_with fail
      refine (alone_is c ts HM.out.1 s _ _ T3.out.a1 true H1.out).mono ?_
      rintro e w4 ⟨rfl, hb1⟩
      have T4 := Lib.hid (T3.out.later hb1)
      clear hb1 T3 D0 D1
      obtain ⟨D0, D1⟩ := And.intro (cellC11 T4.out.r2) (cellT11 T4.out.r2)
      go_wp2_with fail
      refine (alone_is d us HM.out.2 s _ _ T4.out.a2 false H2.out).mono ?_
      rintro e w5 ⟨rfl, hb1⟩
      have T5 := Lib.hid (T4.out.later hb1)
      clear hb1 T4 D0 D1
      go_wp2
      go_ret
      exact ⟨by rw [HV.out]; rfl, T5.out.low⟩
    | true =>
      have H2 := Lib.hid h2
      by_cases h3 : n = 0
      ·
        have HV : Hid (v = false) := show _ = _ by rw [← hv]; simp [h1, h2, h3]
        clear hv
        clear h1 h2
        go_enter Try.func58, Try.ntmps58
        go_wp2_with fail
        refine (spec_CoefOf c ts (by have := HM.out; omega) s _ _ T0.out.a1).mono ?_
        rintro e w1 ⟨rfl, hw1⟩
        have T1 := Lib.hid (T0.out.later (hw1 ▸ alloc_below _ _))
        rw [hN.out]
        clear hw1 T0
        obtain ⟨D0, D1⟩ := And.intro (cellC11 T1.out.r1) (cellT11 T1.out.r1)
        go_wp2_with fail
        refine (spec_AffOk c ts (by have := HM.out; omega) HS.out.1 _ _ T1.out.a1 true HO.out.1).mono ?_
        rintro e w2 ⟨rfl, hb1⟩
        have T2 := Lib.hid (T1.out.later hb1)
        clear hb1 T1 D0 D1
        obtain ⟨D0, D1⟩ := And.intro (cellC11 T2.out.r2) (cellT11 T2.out.r2)
        go_wp2_with fail
        refine (spec_AffOk d us (by have := HM.out; omega) HS.out.2 _ _ T2.out.a2 true HO.out.2).mono ?_
        rintro e w3 ⟨rfl, hb1⟩
        have T3 := Lib.hid (T2.out.later hb1)
        clear hb1 T2 D0 D1
        obtain ⟨D0, D1⟩ := And.intro (cellC11 T3.out.r1) (cellT11 T3.out.r1)
        go_wp2_with fail
        refine (alone_is c ts HM.out.1 s _ _ T3.out.a1 true H1.out).mono ?_
        rintro e w4 ⟨rfl, hb1⟩
        have T4 := Lib.hid (T3.out.later hb1)
        clear hb1 T3 D0 D1
        obtain ⟨D0, D1⟩ := And.intro (cellC11 T4.out.r2) (cellT11 T4.out.r2)
        go_wp2_with fail
        refine (alone_is d us HM.out.2 s _ _ T4.out.a2 true H2.out).mono ?_
        rintro e w5 ⟨rfl, hb1⟩
        have T5 := Lib.hid (T4.out.later hb1)
        clear hb1 T4 D0 D1
        go_wp2
        go_ret
        exact ⟨by rw [HV.out]; rfl, T5.out.low⟩
      ·
        by_cases h4 : m = n
        ·
          have HV : Hid (v = true) := show _ = _ by rw [← hv]; simp [h1, h2, h3, h4]
          clear hv
          clear h1 h2
          subst h4
          go_enter Try.func58, Try.ntmps58
          go_wp2_with fail
          refine (spec_CoefOf c ts (by have := HM.out; omega) s _ _ T0.out.a1).mono ?_
          rintro e w1 ⟨rfl, hw1⟩
          have T1 := Lib.hid (T0.out.later (hw1 ▸ alloc_below _ _))
          rw [hN.out]
          clear hw1 T0
          obtain ⟨D0, D1⟩ := And.intro (cellC11 T1.out.r1) (cellT11 T1.out.r1)
          go_wp2_with fail
          refine (spec_AffOk c ts (by have := HM.out; omega) HS.out.1 _ _ T1.out.a1 true HO.out.1).mono ?_
          rintro e w2 ⟨rfl, hb1⟩
          have T2 := Lib.hid (T1.out.later hb1)
          clear hb1 T1 D0 D1
          obtain ⟨D0, D1⟩ := And.intro (cellC11 T2.out.r2) (cellT11 T2.out.r2)
          go_wp2_with fail
          refine (spec_AffOk d us (by have := HM.out; omega) HS.out.2 _ _ T2.out.a2 true HO.out.2).mono ?_
          rintro e w3 ⟨rfl, hb1⟩
          have T3 := Lib.hid (T2.out.later hb1)
          clear hb1 T2 D0 D1
          obtain ⟨D0, D1⟩ := And.intro (cellC11 T3.out.r1) (cellT11 T3.out.r1)
          go_wp2_with fail
          refine (alone_is c ts HM.out.1 s _ _ T3.out.a1 true H1.out).mono ?_
          rintro e w4 ⟨rfl, hb1⟩
          have T4 := Lib.hid (T3.out.later hb1)
          clear hb1 T3 D0 D1
          obtain ⟨D0, D1⟩ := And.intro (cellC11 T4.out.r2) (cellT11 T4.out.r2)
          go_wp2_with fail
          refine (alone_is d us HM.out.2 s _ _ T4.out.a2 true H2.out).mono ?_
          rintro e w5 ⟨rfl, hb1⟩
          have T5 := Lib.hid (T4.out.later hb1)
          clear hb1 T4 D0 D1
          obtain ⟨D0, D1⟩ := And.intro (cellC11 T5.out.r2) (cellT11 T5.out.r2)
          go_wp2_with fail
          refine (spec_CoefOf d us (by have := HM.out; omega) s _ _ T5.out.a2).mono ?_
          rintro e w6 ⟨rfl, hw1⟩
          have T6 := Lib.hid (T5.out.later (hw1 ▸ alloc_below _ _))
          rw [hM.out]
          clear hw1 T5 D0 D1
          go_wp2
          go_ret
          exact ⟨ret_bool (by rw [HV.out]; simp [h3]), T6.out.low⟩
        ·
          have HV : Hid (v = false) := show _ = _ by rw [← hv]; simp [h1, h2, h3, h4]
          clear hv
          clear h1 h2
          go_enter Try.func58, Try.ntmps58
          go_wp2_with fail
          refine (spec_CoefOf c ts (by have := HM.out; omega) s _ _ T0.out.a1).mono ?_
          rintro e w1 ⟨rfl, hw1⟩
          have T1 := Lib.hid (T0.out.later (hw1 ▸ alloc_below _ _))
          rw [hN.out]
          clear hw1 T0
          obtain ⟨D0, D1⟩ := And.intro (cellC11 T1.out.r1) (cellT11 T1.out.r1)
          go_wp2_with fail
          refine (spec_AffOk c ts (by have := HM.out; omega) HS.out.1 _ _ T1.out.a1 true HO.out.1).mono ?_
          rintro e w2 ⟨rfl, hb1⟩
          have T2 := Lib.hid (T1.out.later hb1)
          clear hb1 T1 D0 D1
          obtain ⟨D0, D1⟩ := And.intro (cellC11 T2.out.r2) (cellT11 T2.out.r2)
          go_wp2_with fail
          refine (spec_AffOk d us (by have := HM.out; omega) HS.out.2 _ _ T2.out.a2 true HO.out.2).mono ?_
          rintro e w3 ⟨rfl, hb1⟩
          have T3 := Lib.hid (T2.out.later hb1)
          clear hb1 T2 D0 D1
          obtain ⟨D0, D1⟩ := And.intro (cellC11 T3.out.r1) (cellT11 T3.out.r1)
          go_wp2_with fail
          refine (alone_is c ts HM.out.1 s _ _ T3.out.a1 true H1.out).mono ?_
          rintro e w4 ⟨rfl, hb1⟩
          have T4 := Lib.hid (T3.out.later hb1)
          clear hb1 T3 D0 D1
          obtain ⟨D0, D1⟩ := And.intro (cellC11 T4.out.r2) (cellT11 T4.out.r2)
          go_wp2_with fail
          refine (alone_is d us HM.out.2 s _ _ T4.out.a2 true H2.out).mono ?_
          rintro e w5 ⟨rfl, hb1⟩
          have T5 := Lib.hid (T4.out.later hb1)
          clear hb1 T4 D0 D1
          obtain ⟨D0, D1⟩ := And.intro (cellC11 T5.out.r2) (cellT11 T5.out.r2)
          go_wp2_with fail
          refine (spec_CoefOf d us (by have := HM.out; omega) s _ _ T5.out.a2).mono ?_
          rintro e w6 ⟨rfl, hw1⟩
          have T6 := Lib.hid (T5.out.later (hw1 ▸ alloc_below _ _))
          rw [hM.out]
          clear hw1 T5 D0 D1
          go_wp2
          go_ret
          exact ⟨ret_bool (by rw [HV.out]; simp [h3, h4]), T6.out.low⟩
set_option maxHeartbeats 2000000 in
set_option maxRecDepth 100000 in
theorem impl_DistOf (c : Int) (ts : List AR) (hn : ts.length ≤ 10000000) (hts : ∀ t ∈ ts, t.s.size ≤ 281474976710656) (d : Int) (us : List AR) (hn2 : us.length ≤ 10000000) (hus : ∀ t ∈ us, t.s.size ≤ 281474976710656) (s : ByteArray) (hok : affOk8 c ts = true) (hok2 : affOk8 d us = true) (va vb : Value) (w : World) (ha : AV w 0 va ts) (hb : AV w 0 vb us) (x : Int × Bool) (hx : dist11 c ts d us s = x) :
    Calls Try.prog 9 #[.agg #[.int .i64 c, va], .agg #[.int .i64 d, vb], .string s] w fun e w' => e = distR x ∧ Below w.heap.size w w' := by
  have T0 := Lib.hid (Two11.start w c d 26 ha hb (RV.nil11 w))
  have HM := Lib.hid (And.intro hn hn2)
  have HS := Lib.hid (And.intro hts hus)
  have HO := Lib.hid (And.intro hok hok2)
  obtain ⟨a1, c1, rfl⟩ := ha.shape
  obtain ⟨a2, c2, rfl⟩ := hb.shape
  obtain ⟨n, hN⟩ : ∃ n, Hid (coefA ts s = n) := ⟨_, rfl⟩
  obtain ⟨m, hM⟩ : ∃ m, Hid (coefA us s = m) := ⟨_, rfl⟩
  clear ha hb hn hn2 hts hus hok hok2
  have hcb := affOk_cd HO.out.1
  have hdb := affOk_cd HO.out.2
  unfold dist11 at hx
  rw [hN.out, hM.out] at hx
  have R1 := Lib.hid (rest_alone (s := s) (affOk_k HO.out.1))
  have R2 := Lib.hid (rest_alone (s := s) (affOk_k HO.out.2))
  by_cases h3 : n = 0
  ·
    have HX : Hid (x = (0, false)) := show _ = _ by rw [← hx]; simp [h3]
    clear hx
    go_enter Try.func9, Try.ntmps9
    go_wp2_with fail
    refine (impl_CoefOf c ts (by have := HM.out; omega) s _ _ T0.out.a1).mono ?_
    rintro e w1 ⟨rfl, hb1⟩
    have T1 := Lib.hid (T0.out.later hb1)
    rw [hN.out]
    clear hb1 T0
    go_wp2
    exact bodyPost_ret (v := .tuple #[.int .i64 (0), .bool false]) (by simp [results, Try.results9, go_sem]) rfl ⟨by rw [HX.out]; rfl, T1.out.low⟩
  ·
    by_cases h4 : m = n
    · subst h4
      cases h1 : alone11 ts s with
      | false =>
        have HX : Hid (x = (0, false)) := show _ = _ by rw [← hx]; simp [h1]
        clear hx
        go_enter Try.func9, Try.ntmps9
        go_wp2_with fail
        refine (impl_CoefOf c ts (by have := HM.out; omega) s _ _ T0.out.a1).mono ?_
        rintro e w1 ⟨rfl, hb1⟩
        have T1 := Lib.hid (T0.out.later hb1)
        rw [hN.out]
        clear hb1 T0
        obtain ⟨D0, D1⟩ := And.intro (cellC11 T1.out.r2) (cellT11 T1.out.r2)
        go_wp2_with fail
        refine (impl_CoefOf d us (by have := HM.out; omega) s _ _ T1.out.a2).mono ?_
        rintro e w2 ⟨rfl, hb1⟩
        have T2 := Lib.hid (T1.out.later hb1)
        rw [hM.out]
        clear hb1 T1 D0 D1
        obtain ⟨D0, D1⟩ := And.intro (cellC11 T2.out.r1) (cellT11 T2.out.r1)
        go_wp2_with fail
        refine (restOf_is c ts HM.out.1 s _ _ T2.out.a1).mono ?_
        rintro e w3 ⟨v1, k1, rfl, hv1, hb1⟩
        have T3 := Lib.hid (T2.out.later hb1)
        clear hb1 T2 D0 D1 hv1
        have hl1 : (rest11 ts s).length ≤ 10000000 := Nat.le_trans (rest11_len ts s) HM.out.1
        generalize hL1 : (rest11 ts s).length = L1 at hl1 ⊢
        have hfd1 : (Instr.field 26 (.agg #[.int .i64 c, .slice v1 L1 k1]) 1).run Try.prog w3 = .ok (.slice v1 L1 k1) w3 := by kernel_rfl
        have hp : 0 < L1 := by
          rcases Nat.eq_zero_or_pos L1 with h | h
          · have := R1.out.1 (hL1.trans h); rw [h1] at this; cases this
          · exact h
        have hpI : (0 : Int) < (L1 : Int) := by omega
        clear hL1 h1
        go_wp2
        exact bodyPost_ret (v := .tuple #[.int .i64 (0), .bool false]) (by simp [results, Try.results9, go_sem]) rfl ⟨by rw [HX.out]; rfl, T3.out.low⟩
      | true =>
        cases h2 : alone11 us s with
        | false =>
          have HX : Hid (x = (0, false)) := show _ = _ by rw [← hx]; simp [h2]
          clear hx
          go_enter Try.func9, Try.ntmps9
          go_wp2_with fail
          refine (impl_CoefOf c ts (by have := HM.out; omega) s _ _ T0.out.a1).mono ?_
          rintro e w1 ⟨rfl, hb1⟩
          have T1 := Lib.hid (T0.out.later hb1)
          rw [hN.out]
          clear hb1 T0
          obtain ⟨D0, D1⟩ := And.intro (cellC11 T1.out.r2) (cellT11 T1.out.r2)
          go_wp2_with fail
          refine (impl_CoefOf d us (by have := HM.out; omega) s _ _ T1.out.a2).mono ?_
          rintro e w2 ⟨rfl, hb1⟩
          have T2 := Lib.hid (T1.out.later hb1)
          rw [hM.out]
          clear hb1 T1 D0 D1
          obtain ⟨D0, D1⟩ := And.intro (cellC11 T2.out.r1) (cellT11 T2.out.r1)
          go_wp2_with fail
          refine (restOf_is c ts HM.out.1 s _ _ T2.out.a1).mono ?_
          rintro e w3 ⟨v1, k1, rfl, hv1, hb1⟩
          have T3 := Lib.hid (T2.out.later hb1)
          clear hb1 T2 D0 D1 hv1
          have hl1 : (rest11 ts s).length ≤ 10000000 := Nat.le_trans (rest11_len ts s) HM.out.1
          generalize hL1 : (rest11 ts s).length = L1 at hl1 ⊢
          have hfd1 : (Instr.field 26 (.agg #[.int .i64 c, .slice v1 L1 k1]) 1).run Try.prog w3 = .ok (.slice v1 L1 k1) w3 := by kernel_rfl
          obtain rfl : L1 = 0 := by rw [← hL1]; exact R1.out.2 h1
          clear hL1 h1
          obtain ⟨D0, D1⟩ := And.intro (cellC11 T3.out.r2) (cellT11 T3.out.r2)
          go_wp2_with fail
          refine (restOf_is d us HM.out.2 s _ _ T3.out.a2).mono ?_
          rintro e w4 ⟨v2, k2, rfl, hv2, hb1⟩
          have T4 := Lib.hid (T3.out.later hb1)
          clear hb1 T3 D0 D1 hv2
          have hl2 : (rest11 us s).length ≤ 10000000 := Nat.le_trans (rest11_len us s) HM.out.2
          generalize hL2 : (rest11 us s).length = L2 at hl2 ⊢
          have hfd2 : (Instr.field 26 (.agg #[.int .i64 d, .slice v2 L2 k2]) 1).run Try.prog w4 = .ok (.slice v2 L2 k2) w4 := by kernel_rfl
          have hp : 0 < L2 := by
            rcases Nat.eq_zero_or_pos L2 with h | h
            · have := R2.out.1 (hL2.trans h); rw [h2] at this; cases this
            · exact h
          have hpI : (0 : Int) < (L2 : Int) := by omega
          clear hL2 h2
          go_wp2
          exact bodyPost_ret (v := .tuple #[.int .i64 (0), .bool false]) (by simp [results, Try.results9, go_sem]) rfl ⟨by rw [HX.out]; rfl, T4.out.low⟩
        | true =>
          have hq : wrap64 ((c - d).tdiv m) = (c - d).tdiv m := tdiv_bd (by omega)
          by_cases h5 : (c - d).tmod m = 0
          ·
            have HX : Hid (x = ((c - d).tdiv m, true)) := show _ = _ by rw [← hx]; simp [h1, h2, h3, h5]
            clear hx
            go_enter Try.func9, Try.ntmps9
            go_wp2_with fail
            refine (impl_CoefOf c ts (by have := HM.out; omega) s _ _ T0.out.a1).mono ?_
            rintro e w1 ⟨rfl, hb1⟩
            have T1 := Lib.hid (T0.out.later hb1)
            rw [hN.out]
            clear hb1 T0
            obtain ⟨D0, D1⟩ := And.intro (cellC11 T1.out.r2) (cellT11 T1.out.r2)
            go_wp2_with fail
            refine (impl_CoefOf d us (by have := HM.out; omega) s _ _ T1.out.a2).mono ?_
            rintro e w2 ⟨rfl, hb1⟩
            have T2 := Lib.hid (T1.out.later hb1)
            rw [hM.out]
            clear hb1 T1 D0 D1
            obtain ⟨D0, D1⟩ := And.intro (cellC11 T2.out.r1) (cellT11 T2.out.r1)
            go_wp2_with fail
            refine (restOf_is c ts HM.out.1 s _ _ T2.out.a1).mono ?_
            rintro e w3 ⟨v1, k1, rfl, hv1, hb1⟩
            have T3 := Lib.hid (T2.out.later hb1)
            clear hb1 T2 D0 D1 hv1
            have hl1 : (rest11 ts s).length ≤ 10000000 := Nat.le_trans (rest11_len ts s) HM.out.1
            generalize hL1 : (rest11 ts s).length = L1 at hl1 ⊢
            have hfd1 : (Instr.field 26 (.agg #[.int .i64 c, .slice v1 L1 k1]) 1).run Try.prog w3 = .ok (.slice v1 L1 k1) w3 := by kernel_rfl
            obtain rfl : L1 = 0 := by rw [← hL1]; exact R1.out.2 h1
            clear hL1 h1
            obtain ⟨D0, D1⟩ := And.intro (cellC11 T3.out.r2) (cellT11 T3.out.r2)
            go_wp2_with fail
            refine (restOf_is d us HM.out.2 s _ _ T3.out.a2).mono ?_
            rintro e w4 ⟨v2, k2, rfl, hv2, hb1⟩
            have T4 := Lib.hid (T3.out.later hb1)
            clear hb1 T3 D0 D1 hv2
            have hl2 : (rest11 us s).length ≤ 10000000 := Nat.le_trans (rest11_len us s) HM.out.2
            generalize hL2 : (rest11 us s).length = L2 at hl2 ⊢
            have hfd2 : (Instr.field 26 (.agg #[.int .i64 d, .slice v2 L2 k2]) 1).run Try.prog w4 = .ok (.slice v2 L2 k2) w4 := by kernel_rfl
            obtain rfl : L2 = 0 := by rw [← hL2]; exact R2.out.2 h2
            clear hL2 h2
            obtain ⟨D0, D1⟩ := And.intro (cellC11 T4.out.r1) (cellC11 T4.out.r2)
            go_wp2
            exact bodyPost_ret (v := .tuple #[.int .i64 ((c - d).tdiv m), .bool true]) (by simp [results, Try.results9, go_sem, hq]) rfl ⟨by rw [HX.out]; rfl, T4.out.low⟩
          ·
            have HX : Hid (x = (0, false)) := show _ = _ by rw [← hx]; simp [h1, h2, h3, h5]
            clear hx
            go_enter Try.func9, Try.ntmps9
            go_wp2_with fail
            refine (impl_CoefOf c ts (by have := HM.out; omega) s _ _ T0.out.a1).mono ?_
            rintro e w1 ⟨rfl, hb1⟩
            have T1 := Lib.hid (T0.out.later hb1)
            rw [hN.out]
            clear hb1 T0
            obtain ⟨D0, D1⟩ := And.intro (cellC11 T1.out.r2) (cellT11 T1.out.r2)
            go_wp2_with fail
            refine (impl_CoefOf d us (by have := HM.out; omega) s _ _ T1.out.a2).mono ?_
            rintro e w2 ⟨rfl, hb1⟩
            have T2 := Lib.hid (T1.out.later hb1)
            rw [hM.out]
            clear hb1 T1 D0 D1
            obtain ⟨D0, D1⟩ := And.intro (cellC11 T2.out.r1) (cellT11 T2.out.r1)
            go_wp2_with fail
            refine (restOf_is c ts HM.out.1 s _ _ T2.out.a1).mono ?_
            rintro e w3 ⟨v1, k1, rfl, hv1, hb1⟩
            have T3 := Lib.hid (T2.out.later hb1)
            clear hb1 T2 D0 D1 hv1
            have hl1 : (rest11 ts s).length ≤ 10000000 := Nat.le_trans (rest11_len ts s) HM.out.1
            generalize hL1 : (rest11 ts s).length = L1 at hl1 ⊢
            have hfd1 : (Instr.field 26 (.agg #[.int .i64 c, .slice v1 L1 k1]) 1).run Try.prog w3 = .ok (.slice v1 L1 k1) w3 := by kernel_rfl
            obtain rfl : L1 = 0 := by rw [← hL1]; exact R1.out.2 h1
            clear hL1 h1
            obtain ⟨D0, D1⟩ := And.intro (cellC11 T3.out.r2) (cellT11 T3.out.r2)
            go_wp2_with fail
            refine (restOf_is d us HM.out.2 s _ _ T3.out.a2).mono ?_
            rintro e w4 ⟨v2, k2, rfl, hv2, hb1⟩
            have T4 := Lib.hid (T3.out.later hb1)
            clear hb1 T3 D0 D1 hv2
            have hl2 : (rest11 us s).length ≤ 10000000 := Nat.le_trans (rest11_len us s) HM.out.2
            generalize hL2 : (rest11 us s).length = L2 at hl2 ⊢
            have hfd2 : (Instr.field 26 (.agg #[.int .i64 d, .slice v2 L2 k2]) 1).run Try.prog w4 = .ok (.slice v2 L2 k2) w4 := by kernel_rfl
            obtain rfl : L2 = 0 := by rw [← hL2]; exact R2.out.2 h2
            clear hL2 h2
            obtain ⟨D0, D1⟩ := And.intro (cellC11 T4.out.r1) (cellC11 T4.out.r2)
            go_wp2
            exact bodyPost_ret (v := .tuple #[.int .i64 (0), .bool false]) (by simp [results, Try.results9, go_sem]) rfl ⟨by rw [HX.out]; rfl, T4.out.low⟩
    ·
      have HX : Hid (x = (0, false)) := show _ = _ by rw [← hx]; simp [h4]
      clear hx
      go_enter Try.func9, Try.ntmps9
      go_wp2_with fail
      refine (impl_CoefOf c ts (by have := HM.out; omega) s _ _ T0.out.a1).mono ?_
      rintro e w1 ⟨rfl, hb1⟩
      have T1 := Lib.hid (T0.out.later hb1)
      rw [hN.out]
      clear hb1 T0
      obtain ⟨D0, D1⟩ := And.intro (cellC11 T1.out.r2) (cellT11 T1.out.r2)
      go_wp2_with fail
      refine (impl_CoefOf d us (by have := HM.out; omega) s _ _ T1.out.a2).mono ?_
      rintro e w2 ⟨rfl, hb1⟩
      have T2 := Lib.hid (T1.out.later hb1)
      rw [hM.out]
      clear hb1 T1 D0 D1
      go_wp2
      exact bodyPost_ret (v := .tuple #[.int .i64 (0), .bool false]) (by simp [results, Try.results9, go_sem]) rfl ⟨by rw [HX.out]; rfl, T2.out.low⟩
end Go.Proofs.Ytjdpddcnogdekaa
/-
  DistOf of the specification at sums that are AffOk.
-/
namespace Go.Proofs.Ytjdpddcnogdekaa
open Go.RowKit Go.Lib
set_option linter.unusedSimpArgs false
set_option linter.unusedVariables false

set_option maxHeartbeats 4000000 in
set_option maxRecDepth 100000 in
theorem spec_DistOf (c : Int) (ts : List AR) (hn : ts.length ≤ 10000000) (hts : ∀ t ∈ ts, t.s.size ≤ 281474976710656) (d : Int) (us : List AR) (hn2 : us.length ≤ 10000000) (hus : ∀ t ∈ us, t.s.size ≤ 281474976710656) (s : ByteArray) (hok : affOk8 c ts = true) (hok2 : affOk8 d us = true) (va vb : Value) (w : World) (ha : AV w 0 va ts) (hb : AV w 0 vb us) (x : Int × Bool) (hx : dist11 c ts d us s = x) :
    Calls Try.prog 32 #[.agg #[.int .i64 c, va], .agg #[.int .i64 d, vb], .string s] w fun e w' => e = distR x ∧ Below w.heap.size w w' := by
  obtain ⟨v, hv⟩ : ∃ v, Hid ((alone11 ts s && alone11 us s && decide (coefA ts s ≠ 0) && decide (coefA us s = coefA ts s)) = v) := ⟨_, rfl⟩
  have LK := Lib.hid (fun (va vb : Value) (w : World) (ha : AV w 0 va ts) (hb : AV w 0 vb us) => like_is c ts hn hts d us hn2 hus s hok hok2 va vb w ha hb v hv.out)
  have T0 := Lib.hid (Two11.start w c d 26 ha hb (RV.nil11 w))
  have HM := Lib.hid (And.intro hn hn2)
  have hcb := affOk_cd hok
  have hdb := affOk_cd hok2
  obtain ⟨a1, c1, rfl⟩ := ha.shape
  obtain ⟨a2, c2, rfl⟩ := hb.shape
  obtain ⟨w1, hw1⟩ : ∃ w1, w1 = (w.alloc (.cells #[.int .i64 c, .slice a1 ts.length c1] 26)).alloc (.cells #[.int .i64 d, .slice a2 us.length c2] 26) := ⟨_, rfl⟩
  rw [← hw1] at T0
  unfold dist11 at hx
  obtain ⟨n, hN⟩ : ∃ n, Hid (coefA ts s = n) := ⟨_, rfl⟩
  obtain ⟨m, hM⟩ : ∃ m, Hid (coefA us s = m) := ⟨_, rfl⟩
  have hv2 := hv.out
  rw [hN.out, hM.out] at hx hv2
  clear ha hb hn hn2 hts hus hok hok2 hv
  cases v with
  | false =>
    have HX : Hid (x = (0, false)) := show _ = _ by
      rw [← hx, if_neg]
      rintro ⟨g1, g2, g3, g4, _⟩
      rw [g3, g4] at hv2; simp [g1, g2] at hv2
    clear hx hv2
    go_enter Try.func32, Try.ntmps32
    go_wp2_with fail
    rw [← hw1]
    clear hw1
    have bd : Below w1.heap.size w1 w1.drew := (Below.refl _ w1).drew
    refine wp_region_held_drew (S := Below w1.heap.size w1) (by kernel_rfl) bd (fun hHeld => ?_)
    clear bd
    refine wpAnyH_take (i := 0) (v := .agg #[.int .i64 c, .slice a1 ts.length c1]) rfl (by kernel_rfl) (by kernel_rfl) (by kernel_rfl) (fun _ _ _ h => h) (Or.inl ⟨by rfl, ?yv1_0⟩) hHeld ?_
    case yv1_0 => intro w hSw; obtain ⟨j0, j1⟩ := And.intro (cellC11 (T0.out.later hSw).r1) (cellT11 (T0.out.later hSw).r1); go_simp
    simp only [Act.put, List.getElem_toArray, List.getElem_cons_succ, List.getElem_cons_zero, List.setIfInBounds_toArray, List.set_cons_zero, List.set_cons_succ]
    refine wpAnyH_take (i := 1) (v := .agg #[.int .i64 d, .slice a2 us.length c2]) rfl (by kernel_rfl) (by kernel_rfl) (by kernel_rfl) (fun _ _ _ h => h) (Or.inl ⟨by rfl, ?yv2_1⟩) hHeld ?_
    case yv2_1 => intro w hSw; obtain ⟨j0, j1⟩ := And.intro (cellC11 (T0.out.later hSw).r2) (cellT11 (T0.out.later hSw).r2); go_simp
    simp only [Act.put, List.getElem_toArray, List.getElem_cons_succ, List.getElem_cons_zero, List.setIfInBounds_toArray, List.set_cons_zero, List.set_cons_succ]
    refine wpAnyH_take (i := 2) (v := .string s) rfl (by kernel_rfl) (by kernel_rfl) (by kernel_rfl) (fun _ _ _ h => h) (Or.inl ⟨by rfl, ?yv3_2⟩) hHeld ?_
    case yv3_2 => intro w hSw; go_simp
    simp only [Act.put, List.getElem_toArray, List.getElem_cons_succ, List.getElem_cons_zero, List.setIfInBounds_toArray, List.set_cons_zero, List.set_cons_succ]
    refine wpAnyH_ready (rs := [3]) (by kernel_rfl) (by simp) ?_
    refine AllReadyH.cons rfl (fun K hK => ?_) AllReadyH.nil
    rw [if_pos (by rfl)]
    simp only [List.getElem_toArray, List.getElem_cons_succ, List.getElem_cons_zero]
    go_wp2_with fail
    refine (LK.out _ _ _ (T0.out.later hHeld).a1 (T0.out.later hHeld).a2).mono ?_
    rintro e wa ⟨rfl, hbb⟩
    go_wp2_with fail
    refine hK.out _ _ (hHeld.trans (hbb.mono hHeld.size)) (fun hHeld => ?_)
    clear hbb
    refine wpAnyH_take (i := 4) (v := .bool true) rfl (by kernel_rfl) (by kernel_rfl) (by kernel_rfl) (fun _ _ _ h => h) (Or.inl ⟨by rfl, ?yv4_4⟩) hHeld ?_
    case yv4_4 => intro w hSw; go_simp
    simp only [Act.put, List.getElem_toArray, List.getElem_cons_succ, List.getElem_cons_zero, List.setIfInBounds_toArray, List.set_cons_zero, List.set_cons_succ]
    refine wpAnyH_take (i := 5) (v := .bool true) rfl (by kernel_rfl) (by kernel_rfl) (by kernel_rfl) (fun _ _ _ h => h) (Or.inl ⟨by rfl, ?yv5_5⟩) hHeld ?_
    case yv5_5 => intro w hSw; go_simp
    simp only [Act.put, List.getElem_toArray, List.getElem_cons_succ, List.getElem_cons_zero, List.setIfInBounds_toArray, List.set_cons_zero, List.set_cons_succ]
    refine wpAnyH_take (i := 6) (v := undef) rfl (by kernel_rfl) (by kernel_rfl) (by kernel_rfl) (fun _ _ _ h => h) (Or.inr ⟨by rfl, rfl⟩) hHeld ?_
    simp only [Act.put, List.getElem_toArray, List.getElem_cons_succ, List.getElem_cons_zero, List.setIfInBounds_toArray, List.set_cons_zero, List.set_cons_succ]
    refine wpAnyH_take (i := 7) (v := undef) rfl (by kernel_rfl) (by kernel_rfl) (by kernel_rfl) (fun _ _ _ h => h) (Or.inr ⟨by rfl, rfl⟩) hHeld ?_
    simp only [Act.put, List.getElem_toArray, List.getElem_cons_succ, List.getElem_cons_zero, List.setIfInBounds_toArray, List.set_cons_zero, List.set_cons_succ]
    refine wpAnyH_take (i := 8) (v := undef) rfl (by kernel_rfl) (by kernel_rfl) (by kernel_rfl) (fun _ _ _ h => h) (Or.inr ⟨by rfl, rfl⟩) hHeld ?_
    simp only [Act.put, List.getElem_toArray, List.getElem_cons_succ, List.getElem_cons_zero, List.setIfInBounds_toArray, List.set_cons_zero, List.set_cons_succ]
    refine wpAnyH_take (i := 9) (v := undef) rfl (by kernel_rfl) (by kernel_rfl) (by kernel_rfl) (fun _ _ _ h => h) (Or.inr ⟨by rfl, rfl⟩) hHeld ?_
    simp only [Act.put, List.getElem_toArray, List.getElem_cons_succ, List.getElem_cons_zero, List.setIfInBounds_toArray, List.set_cons_zero, List.set_cons_succ]
    refine wpAnyH_take (i := 10) (v := undef) rfl (by kernel_rfl) (by kernel_rfl) (by kernel_rfl) (fun _ _ _ h => h) (Or.inr ⟨by rfl, rfl⟩) hHeld ?_
    simp only [Act.put, List.getElem_toArray, List.getElem_cons_succ, List.getElem_cons_zero, List.setIfInBounds_toArray, List.set_cons_zero, List.set_cons_succ]
    refine wpAnyH_take (i := 11) (v := undef) rfl (by kernel_rfl) (by kernel_rfl) (by kernel_rfl) (fun _ _ _ h => h) (Or.inr ⟨by rfl, rfl⟩) hHeld ?_
    simp only [Act.put, List.getElem_toArray, List.getElem_cons_succ, List.getElem_cons_zero, List.setIfInBounds_toArray, List.set_cons_zero, List.set_cons_succ]
    refine wpAnyH_take (i := 12) (v := undef) rfl (by kernel_rfl) (by kernel_rfl) (by kernel_rfl) (fun _ _ _ h => h) (Or.inr ⟨by rfl, rfl⟩) hHeld ?_
    simp only [Act.put, List.getElem_toArray, List.getElem_cons_succ, List.getElem_cons_zero, List.setIfInBounds_toArray, List.set_cons_zero, List.set_cons_succ]
    refine wpAnyH_take (i := 13) (v := undef) rfl (by kernel_rfl) (by kernel_rfl) (by kernel_rfl) (fun _ _ _ h => h) (Or.inr ⟨by rfl, rfl⟩) hHeld ?_
    simp only [Act.put, List.getElem_toArray, List.getElem_cons_succ, List.getElem_cons_zero, List.setIfInBounds_toArray, List.set_cons_zero, List.set_cons_succ]
    refine wpAnyH_take (i := 14) (v := undef) rfl (by kernel_rfl) (by kernel_rfl) (by kernel_rfl) (fun _ _ _ h => h) (Or.inr ⟨by rfl, rfl⟩) hHeld ?_
    simp only [Act.put, List.getElem_toArray, List.getElem_cons_succ, List.getElem_cons_zero, List.setIfInBounds_toArray, List.set_cons_zero, List.set_cons_succ]
    refine wpAnyH_take (i := 15) (v := undef) rfl (by kernel_rfl) (by kernel_rfl) (by kernel_rfl) (fun _ _ _ h => h) (Or.inr ⟨by rfl, rfl⟩) hHeld ?_
    simp only [Act.put, List.getElem_toArray, List.getElem_cons_succ, List.getElem_cons_zero, List.setIfInBounds_toArray, List.set_cons_zero, List.set_cons_succ]
    refine wpAnyH_take (i := 16) (v := .bool true) rfl (by kernel_rfl) (by kernel_rfl) (by kernel_rfl) (fun _ _ _ h => h) (Or.inl ⟨by rfl, ?yv6_16⟩) hHeld ?_
    case yv6_16 => intro w hSw; go_simp
    simp only [Act.put, List.getElem_toArray, List.getElem_cons_succ, List.getElem_cons_zero, List.setIfInBounds_toArray, List.set_cons_zero, List.set_cons_succ]
    refine wpAnyH_done (by kernel_rfl) ?_ _
    have T1 := Lib.hid (T0.out.later hHeld)
    clear hHeld T0
    go_wp2
    exact bodyPost_ret (v := .tuple #[.int .i64 (0), .bool false]) (by simp [results, Try.results32, go_sem]) rfl ⟨by rw [HX.out]; rfl, T1.out.low⟩
  | true =>
    have hlk : alone11 ts s = true ∧ alone11 us s = true ∧ n ≠ 0 ∧ m = n := by
      simp only [Bool.and_eq_true, decide_eq_true_eq] at hv2; exact ⟨hv2.1.1.1, hv2.1.1.2, hv2.1.2, hv2.2⟩
    clear hv2
    obtain ⟨g1, g2, h3, rfl⟩ := hlk
    have hq : wrap64 ((c - d).tdiv m) = (c - d).tdiv m := tdiv_bd (by omega)
    have hw : IntKind.i64.wrap (c - d) = c - d := by rw [IntKind.wrap_i64]; omega
    have hq2 : IntKind.i64.wrap ((c - d).tdiv m) = (c - d).tdiv m := by rw [IntKind.wrap_i64]; have h := hq; unfold wrap64 at h; omega
    by_cases h5 : (c - d).tmod m = 0
    ·
      have HX : Hid (x = ((c - d).tdiv m, true)) := show _ = _ by rw [← hx]; simp [g1, g2, h3, h5]
      clear hx g1 g2
      go_enter Try.func32, Try.ntmps32
      go_wp2_with fail
      rw [← hw1]
      clear hw1
      have bd : Below w1.heap.size w1 w1.drew := (Below.refl _ w1).drew
      refine wp_region_held_drew (S := Below w1.heap.size w1) (by kernel_rfl) bd (fun hHeld => ?_)
      clear bd
      refine wpAnyH_take (i := 0) (v := .agg #[.int .i64 c, .slice a1 ts.length c1]) rfl (by kernel_rfl) (by kernel_rfl) (by kernel_rfl) (fun _ _ _ h => h) (Or.inl ⟨by rfl, ?yv7_0⟩) hHeld ?_
      case yv7_0 => intro w hSw; obtain ⟨j0, j1⟩ := And.intro (cellC11 (T0.out.later hSw).r1) (cellT11 (T0.out.later hSw).r1); go_simp
      simp only [Act.put, List.getElem_toArray, List.getElem_cons_succ, List.getElem_cons_zero, List.setIfInBounds_toArray, List.set_cons_zero, List.set_cons_succ]
      refine wpAnyH_take (i := 1) (v := .agg #[.int .i64 d, .slice a2 us.length c2]) rfl (by kernel_rfl) (by kernel_rfl) (by kernel_rfl) (fun _ _ _ h => h) (Or.inl ⟨by rfl, ?yv8_1⟩) hHeld ?_
      case yv8_1 => intro w hSw; obtain ⟨j0, j1⟩ := And.intro (cellC11 (T0.out.later hSw).r2) (cellT11 (T0.out.later hSw).r2); go_simp
      simp only [Act.put, List.getElem_toArray, List.getElem_cons_succ, List.getElem_cons_zero, List.setIfInBounds_toArray, List.set_cons_zero, List.set_cons_succ]
      refine wpAnyH_take (i := 2) (v := .string s) rfl (by kernel_rfl) (by kernel_rfl) (by kernel_rfl) (fun _ _ _ h => h) (Or.inl ⟨by rfl, ?yv9_2⟩) hHeld ?_
      case yv9_2 => intro w hSw; go_simp
      simp only [Act.put, List.getElem_toArray, List.getElem_cons_succ, List.getElem_cons_zero, List.setIfInBounds_toArray, List.set_cons_zero, List.set_cons_succ]
      refine wpAnyH_ready (rs := [3]) (by kernel_rfl) (by simp) ?_
      refine AllReadyH.cons rfl (fun K hK => ?_) AllReadyH.nil
      rw [if_pos (by rfl)]
      simp only [List.getElem_toArray, List.getElem_cons_succ, List.getElem_cons_zero]
      go_wp2_with fail
      refine (LK.out _ _ _ (T0.out.later hHeld).a1 (T0.out.later hHeld).a2).mono ?_
      rintro e wa ⟨rfl, hbb⟩
      go_wp2_with fail
      refine hK.out _ _ (hHeld.trans (hbb.mono hHeld.size)) (fun hHeld => ?_)
      clear hbb
      refine wpAnyH_take (i := 4) (v := .bool false) rfl (by kernel_rfl) (by kernel_rfl) (by kernel_rfl) (fun _ _ _ h => h) (Or.inl ⟨by rfl, ?yv10_4⟩) hHeld ?_
      case yv10_4 => intro w hSw; go_simp
      simp only [Act.put, List.getElem_toArray, List.getElem_cons_succ, List.getElem_cons_zero, List.setIfInBounds_toArray, List.set_cons_zero, List.set_cons_succ]
      refine wpAnyH_take (i := 5) (v := .bool false) rfl (by kernel_rfl) (by kernel_rfl) (by kernel_rfl) (fun _ _ _ h => h) (Or.inl ⟨by rfl, ?yv11_5⟩) hHeld ?_
      case yv11_5 => intro w hSw; go_simp
      simp only [Act.put, List.getElem_toArray, List.getElem_cons_succ, List.getElem_cons_zero, List.setIfInBounds_toArray, List.set_cons_zero, List.set_cons_succ]
      refine wpAnyH_take (i := 6) (v := .pointer (some ⟨w.heap.size, 0, Option.none⟩)) rfl (by kernel_rfl) (by kernel_rfl) (by kernel_rfl) (fun _ _ _ h => h) (Or.inl ⟨by rfl, ?yv12_6⟩) hHeld ?_
      case yv12_6 => intro w hSw; go_simp
      simp only [Act.put, List.getElem_toArray, List.getElem_cons_succ, List.getElem_cons_zero, List.setIfInBounds_toArray, List.set_cons_zero, List.set_cons_succ]
      refine wpAnyH_take (i := 7) (v := .int .i64 c) rfl (by kernel_rfl) (by kernel_rfl) (by kernel_rfl) (fun _ _ _ h => h) (Or.inl ⟨by rfl, ?yv13_7⟩) hHeld ?_
      case yv13_7 => intro w hSw; obtain ⟨j0, j1⟩ := And.intro (cellC11 (T0.out.later hSw).r1) (cellT11 (T0.out.later hSw).r1); go_simp
      simp only [Act.put, List.getElem_toArray, List.getElem_cons_succ, List.getElem_cons_zero, List.setIfInBounds_toArray, List.set_cons_zero, List.set_cons_succ]
      refine wpAnyH_take (i := 8) (v := .pointer (some ⟨w.heap.size + 1, 0, Option.none⟩)) rfl (by kernel_rfl) (by kernel_rfl) (by kernel_rfl) (fun _ _ _ h => h) (Or.inl ⟨by rfl, ?yv14_8⟩) hHeld ?_
      case yv14_8 => intro w hSw; go_simp
      simp only [Act.put, List.getElem_toArray, List.getElem_cons_succ, List.getElem_cons_zero, List.setIfInBounds_toArray, List.set_cons_zero, List.set_cons_succ]
      refine wpAnyH_take (i := 9) (v := .int .i64 d) rfl (by kernel_rfl) (by kernel_rfl) (by kernel_rfl) (fun _ _ _ h => h) (Or.inl ⟨by rfl, ?yv15_9⟩) hHeld ?_
      case yv15_9 => intro w hSw; obtain ⟨j0, j1⟩ := And.intro (cellC11 (T0.out.later hSw).r2) (cellT11 (T0.out.later hSw).r2); go_simp
      simp only [Act.put, List.getElem_toArray, List.getElem_cons_succ, List.getElem_cons_zero, List.setIfInBounds_toArray, List.set_cons_zero, List.set_cons_succ]
      refine wpAnyH_take (i := 10) (v := .int .i64 (c - d)) rfl (by kernel_rfl) (by kernel_rfl) (by kernel_rfl) (fun _ _ _ h => h) (Or.inl ⟨by rfl, ?yv16_10⟩) hHeld ?_
      case yv16_10 => intro w hSw; go_simp
      simp only [Act.put, List.getElem_toArray, List.getElem_cons_succ, List.getElem_cons_zero, List.setIfInBounds_toArray, List.set_cons_zero, List.set_cons_succ]
      refine wpAnyH_take (i := 11) (v := .agg #[.int .i64 c, .slice a1 ts.length c1]) rfl (by kernel_rfl) (by kernel_rfl) (by kernel_rfl) (fun _ _ _ h => h) (Or.inl ⟨by rfl, ?yv17_11⟩) hHeld ?_
      case yv17_11 => intro w hSw; obtain ⟨j0, j1⟩ := And.intro (cellC11 (T0.out.later hSw).r1) (cellT11 (T0.out.later hSw).r1); go_simp
      simp only [Act.put, List.getElem_toArray, List.getElem_cons_succ, List.getElem_cons_zero, List.setIfInBounds_toArray, List.set_cons_zero, List.set_cons_succ]
      refine wpAnyH_take (i := 12) (v := .string s) rfl (by kernel_rfl) (by kernel_rfl) (by kernel_rfl) (fun _ _ _ h => h) (Or.inl ⟨by rfl, ?yv18_12⟩) hHeld ?_
      case yv18_12 => intro w hSw; go_simp
      simp only [Act.put, List.getElem_toArray, List.getElem_cons_succ, List.getElem_cons_zero, List.setIfInBounds_toArray, List.set_cons_zero, List.set_cons_succ]
      refine wpAnyH_ready (rs := [13]) (by kernel_rfl) (by simp) ?_
      refine AllReadyH.cons rfl (fun K hK => ?_) AllReadyH.nil
      rw [if_pos (by rfl)]
      simp only [List.getElem_toArray, List.getElem_cons_succ, List.getElem_cons_zero]
      go_wp2_with fail
      refine (spec_CoefOf c ts (by have := HM.out; omega) s _ _ (T0.out.later hHeld).a1).mono ?_
      rintro e wb ⟨rfl, hwb⟩
      have hbb : Below wa.heap.size wa wb := by rw [hwb]; exact alloc_below _ _
      rw [hN.out]
      clear hwb
      go_wp2_with fail
      refine hK.out _ _ (hHeld.trans (hbb.mono hHeld.size)) (fun hHeld => ?_)
      clear hbb
      refine wpAnyH_take (i := 14) (v := .int .i64 ((c - d).tmod m)) rfl (by kernel_rfl) (by kernel_rfl) (by kernel_rfl) (fun _ _ _ h => h) (Or.inl ⟨by rfl, ?yv19_14⟩) hHeld ?_
      case yv19_14 => intro w hSw; go_simp
      simp only [Act.put, List.getElem_toArray, List.getElem_cons_succ, List.getElem_cons_zero, List.setIfInBounds_toArray, List.set_cons_zero, List.set_cons_succ]
      refine wpAnyH_take (i := 15) (v := .bool false) rfl (by kernel_rfl) (by kernel_rfl) (by kernel_rfl) (fun _ _ _ h => h) (Or.inl ⟨by rfl, ?yv20_15⟩) hHeld ?_
      case yv20_15 => intro w hSw; go_simp
      simp only [Act.put, List.getElem_toArray, List.getElem_cons_succ, List.getElem_cons_zero, List.setIfInBounds_toArray, List.set_cons_zero, List.set_cons_succ]
      refine wpAnyH_take (i := 16) (v := .bool false) rfl (by kernel_rfl) (by kernel_rfl) (by kernel_rfl) (fun _ _ _ h => h) (Or.inl ⟨by rfl, ?yv21_16⟩) hHeld ?_
      case yv21_16 => intro w hSw; go_simp
      simp only [Act.put, List.getElem_toArray, List.getElem_cons_succ, List.getElem_cons_zero, List.setIfInBounds_toArray, List.set_cons_zero, List.set_cons_succ]
      refine wpAnyH_done (by kernel_rfl) ?_ _
      have T1 := Lib.hid (T0.out.later hHeld)
      clear hHeld T0
      have T0 := T1
      clear T1
      go_wp2_with fail
      have bd : Below wb.heap.size wb wb.drew := (Below.refl _ wb).drew
      refine wp_region_held_drew (S := Below wb.heap.size wb) (by kernel_rfl) bd (fun hHeld => ?_)
      clear bd
      refine wpAnyH_take (i := 0) (v := .pointer (some ⟨w.heap.size, 0, Option.none⟩)) rfl (by kernel_rfl) (by kernel_rfl) (by kernel_rfl) (fun _ _ _ h => h) (Or.inl ⟨by rfl, ?yv22_0⟩) hHeld ?_
      case yv22_0 => intro w hSw; go_simp
      simp only [Act.put, List.getElem_toArray, List.getElem_cons_succ, List.getElem_cons_zero, List.setIfInBounds_toArray, List.set_cons_zero, List.set_cons_succ]
      refine wpAnyH_take (i := 1) (v := .int .i64 c) rfl (by kernel_rfl) (by kernel_rfl) (by kernel_rfl) (fun _ _ _ h => h) (Or.inl ⟨by rfl, ?yv23_1⟩) hHeld ?_
      case yv23_1 => intro w hSw; obtain ⟨j0, j1⟩ := And.intro (cellC11 (T0.out.later hSw).r1) (cellT11 (T0.out.later hSw).r1); go_simp
      simp only [Act.put, List.getElem_toArray, List.getElem_cons_succ, List.getElem_cons_zero, List.setIfInBounds_toArray, List.set_cons_zero, List.set_cons_succ]
      refine wpAnyH_take (i := 2) (v := .pointer (some ⟨w.heap.size + 1, 0, Option.none⟩)) rfl (by kernel_rfl) (by kernel_rfl) (by kernel_rfl) (fun _ _ _ h => h) (Or.inl ⟨by rfl, ?yv24_2⟩) hHeld ?_
      case yv24_2 => intro w hSw; go_simp
      simp only [Act.put, List.getElem_toArray, List.getElem_cons_succ, List.getElem_cons_zero, List.setIfInBounds_toArray, List.set_cons_zero, List.set_cons_succ]
      refine wpAnyH_take (i := 3) (v := .int .i64 d) rfl (by kernel_rfl) (by kernel_rfl) (by kernel_rfl) (fun _ _ _ h => h) (Or.inl ⟨by rfl, ?yv25_3⟩) hHeld ?_
      case yv25_3 => intro w hSw; obtain ⟨j0, j1⟩ := And.intro (cellC11 (T0.out.later hSw).r2) (cellT11 (T0.out.later hSw).r2); go_simp
      simp only [Act.put, List.getElem_toArray, List.getElem_cons_succ, List.getElem_cons_zero, List.setIfInBounds_toArray, List.set_cons_zero, List.set_cons_succ]
      refine wpAnyH_take (i := 4) (v := .int .i64 (c - d)) rfl (by kernel_rfl) (by kernel_rfl) (by kernel_rfl) (fun _ _ _ h => h) (Or.inl ⟨by rfl, ?yv26_4⟩) hHeld ?_
      case yv26_4 => intro w hSw; go_simp
      simp only [Act.put, List.getElem_toArray, List.getElem_cons_succ, List.getElem_cons_zero, List.setIfInBounds_toArray, List.set_cons_zero, List.set_cons_succ]
      refine wpAnyH_take (i := 5) (v := .agg #[.int .i64 c, .slice a1 ts.length c1]) rfl (by kernel_rfl) (by kernel_rfl) (by kernel_rfl) (fun _ _ _ h => h) (Or.inl ⟨by rfl, ?yv27_5⟩) hHeld ?_
      case yv27_5 => intro w hSw; obtain ⟨j0, j1⟩ := And.intro (cellC11 (T0.out.later hSw).r1) (cellT11 (T0.out.later hSw).r1); go_simp
      simp only [Act.put, List.getElem_toArray, List.getElem_cons_succ, List.getElem_cons_zero, List.setIfInBounds_toArray, List.set_cons_zero, List.set_cons_succ]
      refine wpAnyH_take (i := 6) (v := .string s) rfl (by kernel_rfl) (by kernel_rfl) (by kernel_rfl) (fun _ _ _ h => h) (Or.inl ⟨by rfl, ?yv28_6⟩) hHeld ?_
      case yv28_6 => intro w hSw; go_simp
      simp only [Act.put, List.getElem_toArray, List.getElem_cons_succ, List.getElem_cons_zero, List.setIfInBounds_toArray, List.set_cons_zero, List.set_cons_succ]
      refine wpAnyH_ready (rs := [7]) (by kernel_rfl) (by simp) ?_
      refine AllReadyH.cons rfl (fun K hK => ?_) AllReadyH.nil
      rw [if_pos (by rfl)]
      simp only [List.getElem_toArray, List.getElem_cons_succ, List.getElem_cons_zero]
      go_wp2_with fail
      refine (spec_CoefOf c ts (by have := HM.out; omega) s _ _ (T0.out.later hHeld).a1).mono ?_
      rintro e wc ⟨rfl, hwb⟩
      have hbb : Below wb.drew.heap.size wb.drew wc := by rw [hwb]; exact alloc_below _ _
      rw [hN.out]
      clear hwb
      go_wp2_with fail
      refine hK.out _ _ (hHeld.trans (hbb.mono hHeld.size)) (fun hHeld => ?_)
      clear hbb
      refine wpAnyH_take (i := 8) (v := .int .i64 ((c - d).tdiv m)) rfl (by kernel_rfl) (by kernel_rfl) (by kernel_rfl) (fun _ _ _ h => h) (Or.inl ⟨by rfl, ?yv29_8⟩) hHeld ?_
      case yv29_8 => intro w hSw; go_simp
      simp only [Act.put, List.getElem_toArray, List.getElem_cons_succ, List.getElem_cons_zero, List.setIfInBounds_toArray, List.set_cons_zero, List.set_cons_succ]
      refine wpAnyH_take (i := 9) (v := .int .i64 ((c - d).tdiv m)) rfl (by kernel_rfl) (by kernel_rfl) (by kernel_rfl) (fun _ _ _ h => h) (Or.inl ⟨by rfl, ?yv30_9⟩) hHeld ?_
      case yv30_9 => intro w hSw; go_simp
      simp only [Act.put, List.getElem_toArray, List.getElem_cons_succ, List.getElem_cons_zero, List.setIfInBounds_toArray, List.set_cons_zero, List.set_cons_succ]
      refine wpAnyH_take (i := 10) (v := .bool true) rfl (by kernel_rfl) (by kernel_rfl) (by kernel_rfl) (fun _ _ _ h => h) (Or.inl ⟨by rfl, ?yv31_10⟩) hHeld ?_
      case yv31_10 => intro w hSw; go_simp
      simp only [Act.put, List.getElem_toArray, List.getElem_cons_succ, List.getElem_cons_zero, List.setIfInBounds_toArray, List.set_cons_zero, List.set_cons_succ]
      refine wpAnyH_done (by kernel_rfl) ?_ _
      have T1 := Lib.hid (T0.out.later hHeld)
      clear hHeld T0
      go_wp2
      exact bodyPost_ret (v := .tuple #[.int .i64 ((c - d).tdiv m), .bool true]) (by simp [results, Try.results32, go_sem]) rfl ⟨by rw [HX.out]; rfl, T1.out.low⟩
    ·
      have HX : Hid (x = (0, false)) := show _ = _ by rw [← hx]; simp [g1, g2, h3, h5]
      clear hx g1 g2
      go_enter Try.func32, Try.ntmps32
      go_wp2_with fail
      rw [← hw1]
      clear hw1
      have bd : Below w1.heap.size w1 w1.drew := (Below.refl _ w1).drew
      refine wp_region_held_drew (S := Below w1.heap.size w1) (by kernel_rfl) bd (fun hHeld => ?_)
      clear bd
      refine wpAnyH_take (i := 0) (v := .agg #[.int .i64 c, .slice a1 ts.length c1]) rfl (by kernel_rfl) (by kernel_rfl) (by kernel_rfl) (fun _ _ _ h => h) (Or.inl ⟨by rfl, ?yv32_0⟩) hHeld ?_
      case yv32_0 => intro w hSw; obtain ⟨j0, j1⟩ := And.intro (cellC11 (T0.out.later hSw).r1) (cellT11 (T0.out.later hSw).r1); go_simp
      simp only [Act.put, List.getElem_toArray, List.getElem_cons_succ, List.getElem_cons_zero, List.setIfInBounds_toArray, List.set_cons_zero, List.set_cons_succ]
      refine wpAnyH_take (i := 1) (v := .agg #[.int .i64 d, .slice a2 us.length c2]) rfl (by kernel_rfl) (by kernel_rfl) (by kernel_rfl) (fun _ _ _ h => h) (Or.inl ⟨by rfl, ?yv33_1⟩) hHeld ?_
      case yv33_1 => intro w hSw; obtain ⟨j0, j1⟩ := And.intro (cellC11 (T0.out.later hSw).r2) (cellT11 (T0.out.later hSw).r2); go_simp
      simp only [Act.put, List.getElem_toArray, List.getElem_cons_succ, List.getElem_cons_zero, List.setIfInBounds_toArray, List.set_cons_zero, List.set_cons_succ]
      refine wpAnyH_take (i := 2) (v := .string s) rfl (by kernel_rfl) (by kernel_rfl) (by kernel_rfl) (fun _ _ _ h => h) (Or.inl ⟨by rfl, ?yv34_2⟩) hHeld ?_
      case yv34_2 => intro w hSw; go_simp
      simp only [Act.put, List.getElem_toArray, List.getElem_cons_succ, List.getElem_cons_zero, List.setIfInBounds_toArray, List.set_cons_zero, List.set_cons_succ]
      refine wpAnyH_ready (rs := [3]) (by kernel_rfl) (by simp) ?_
      refine AllReadyH.cons rfl (fun K hK => ?_) AllReadyH.nil
      rw [if_pos (by rfl)]
      simp only [List.getElem_toArray, List.getElem_cons_succ, List.getElem_cons_zero]
      go_wp2_with fail
      refine (LK.out _ _ _ (T0.out.later hHeld).a1 (T0.out.later hHeld).a2).mono ?_
      rintro e wa ⟨rfl, hbb⟩
      go_wp2_with fail
      refine hK.out _ _ (hHeld.trans (hbb.mono hHeld.size)) (fun hHeld => ?_)
      clear hbb
      refine wpAnyH_take (i := 4) (v := .bool false) rfl (by kernel_rfl) (by kernel_rfl) (by kernel_rfl) (fun _ _ _ h => h) (Or.inl ⟨by rfl, ?yv35_4⟩) hHeld ?_
      case yv35_4 => intro w hSw; go_simp
      simp only [Act.put, List.getElem_toArray, List.getElem_cons_succ, List.getElem_cons_zero, List.setIfInBounds_toArray, List.set_cons_zero, List.set_cons_succ]
      refine wpAnyH_take (i := 5) (v := .bool false) rfl (by kernel_rfl) (by kernel_rfl) (by kernel_rfl) (fun _ _ _ h => h) (Or.inl ⟨by rfl, ?yv36_5⟩) hHeld ?_
      case yv36_5 => intro w hSw; go_simp
      simp only [Act.put, List.getElem_toArray, List.getElem_cons_succ, List.getElem_cons_zero, List.setIfInBounds_toArray, List.set_cons_zero, List.set_cons_succ]
      refine wpAnyH_take (i := 6) (v := .pointer (some ⟨w.heap.size, 0, Option.none⟩)) rfl (by kernel_rfl) (by kernel_rfl) (by kernel_rfl) (fun _ _ _ h => h) (Or.inl ⟨by rfl, ?yv37_6⟩) hHeld ?_
      case yv37_6 => intro w hSw; go_simp
      simp only [Act.put, List.getElem_toArray, List.getElem_cons_succ, List.getElem_cons_zero, List.setIfInBounds_toArray, List.set_cons_zero, List.set_cons_succ]
      refine wpAnyH_take (i := 7) (v := .int .i64 c) rfl (by kernel_rfl) (by kernel_rfl) (by kernel_rfl) (fun _ _ _ h => h) (Or.inl ⟨by rfl, ?yv38_7⟩) hHeld ?_
      case yv38_7 => intro w hSw; obtain ⟨j0, j1⟩ := And.intro (cellC11 (T0.out.later hSw).r1) (cellT11 (T0.out.later hSw).r1); go_simp
      simp only [Act.put, List.getElem_toArray, List.getElem_cons_succ, List.getElem_cons_zero, List.setIfInBounds_toArray, List.set_cons_zero, List.set_cons_succ]
      refine wpAnyH_take (i := 8) (v := .pointer (some ⟨w.heap.size + 1, 0, Option.none⟩)) rfl (by kernel_rfl) (by kernel_rfl) (by kernel_rfl) (fun _ _ _ h => h) (Or.inl ⟨by rfl, ?yv39_8⟩) hHeld ?_
      case yv39_8 => intro w hSw; go_simp
      simp only [Act.put, List.getElem_toArray, List.getElem_cons_succ, List.getElem_cons_zero, List.setIfInBounds_toArray, List.set_cons_zero, List.set_cons_succ]
      refine wpAnyH_take (i := 9) (v := .int .i64 d) rfl (by kernel_rfl) (by kernel_rfl) (by kernel_rfl) (fun _ _ _ h => h) (Or.inl ⟨by rfl, ?yv40_9⟩) hHeld ?_
      case yv40_9 => intro w hSw; obtain ⟨j0, j1⟩ := And.intro (cellC11 (T0.out.later hSw).r2) (cellT11 (T0.out.later hSw).r2); go_simp
      simp only [Act.put, List.getElem_toArray, List.getElem_cons_succ, List.getElem_cons_zero, List.setIfInBounds_toArray, List.set_cons_zero, List.set_cons_succ]
      refine wpAnyH_take (i := 10) (v := .int .i64 (c - d)) rfl (by kernel_rfl) (by kernel_rfl) (by kernel_rfl) (fun _ _ _ h => h) (Or.inl ⟨by rfl, ?yv41_10⟩) hHeld ?_
      case yv41_10 => intro w hSw; go_simp
      simp only [Act.put, List.getElem_toArray, List.getElem_cons_succ, List.getElem_cons_zero, List.setIfInBounds_toArray, List.set_cons_zero, List.set_cons_succ]
      refine wpAnyH_take (i := 11) (v := .agg #[.int .i64 c, .slice a1 ts.length c1]) rfl (by kernel_rfl) (by kernel_rfl) (by kernel_rfl) (fun _ _ _ h => h) (Or.inl ⟨by rfl, ?yv42_11⟩) hHeld ?_
      case yv42_11 => intro w hSw; obtain ⟨j0, j1⟩ := And.intro (cellC11 (T0.out.later hSw).r1) (cellT11 (T0.out.later hSw).r1); go_simp
      simp only [Act.put, List.getElem_toArray, List.getElem_cons_succ, List.getElem_cons_zero, List.setIfInBounds_toArray, List.set_cons_zero, List.set_cons_succ]
      refine wpAnyH_take (i := 12) (v := .string s) rfl (by kernel_rfl) (by kernel_rfl) (by kernel_rfl) (fun _ _ _ h => h) (Or.inl ⟨by rfl, ?yv43_12⟩) hHeld ?_
      case yv43_12 => intro w hSw; go_simp
      simp only [Act.put, List.getElem_toArray, List.getElem_cons_succ, List.getElem_cons_zero, List.setIfInBounds_toArray, List.set_cons_zero, List.set_cons_succ]
      refine wpAnyH_ready (rs := [13]) (by kernel_rfl) (by simp) ?_
      refine AllReadyH.cons rfl (fun K hK => ?_) AllReadyH.nil
      rw [if_pos (by rfl)]
      simp only [List.getElem_toArray, List.getElem_cons_succ, List.getElem_cons_zero]
      go_wp2_with fail
      refine (spec_CoefOf c ts (by have := HM.out; omega) s _ _ (T0.out.later hHeld).a1).mono ?_
      rintro e wb ⟨rfl, hwb⟩
      have hbb : Below wa.heap.size wa wb := by rw [hwb]; exact alloc_below _ _
      rw [hN.out]
      clear hwb
      go_wp2_with fail
      refine hK.out _ _ (hHeld.trans (hbb.mono hHeld.size)) (fun hHeld => ?_)
      clear hbb
      refine wpAnyH_take (i := 14) (v := .int .i64 ((c - d).tmod m)) rfl (by kernel_rfl) (by kernel_rfl) (by kernel_rfl) (fun _ _ _ h => h) (Or.inl ⟨by rfl, ?yv44_14⟩) hHeld ?_
      case yv44_14 => intro w hSw; go_simp
      simp only [Act.put, List.getElem_toArray, List.getElem_cons_succ, List.getElem_cons_zero, List.setIfInBounds_toArray, List.set_cons_zero, List.set_cons_succ]
      refine wpAnyH_take (i := 15) (v := .bool true) rfl (by kernel_rfl) (by kernel_rfl) (by kernel_rfl) (fun _ _ _ h => h) (Or.inl ⟨by rfl, ?yv45_15⟩) hHeld ?_
      case yv45_15 => intro w hSw; go_simp
      simp only [Act.put, List.getElem_toArray, List.getElem_cons_succ, List.getElem_cons_zero, List.setIfInBounds_toArray, List.set_cons_zero, List.set_cons_succ]
      refine wpAnyH_take (i := 16) (v := .bool true) rfl (by kernel_rfl) (by kernel_rfl) (by kernel_rfl) (fun _ _ _ h => h) (Or.inl ⟨by rfl, ?yv46_16⟩) hHeld ?_
      case yv46_16 => intro w hSw; go_simp
      simp only [Act.put, List.getElem_toArray, List.getElem_cons_succ, List.getElem_cons_zero, List.setIfInBounds_toArray, List.set_cons_zero, List.set_cons_succ]
      refine wpAnyH_done (by kernel_rfl) ?_ _
      have T1 := Lib.hid (T0.out.later hHeld)
      clear hHeld T0
      go_wp2
      exact bodyPost_ret (v := .tuple #[.int .i64 (0), .bool false]) (by simp [results, Try.results32, go_sem]) rfl ⟨by rw [HX.out]; rfl, T1.out.low⟩
set_option maxHeartbeats 2000000 in
theorem distOf_is (c : Int) (ts : List AR) (hn : ts.length ≤ 10000000) (hts : ∀ t ∈ ts, t.s.size ≤ 281474976710656) (d : Int) (us : List AR) (hn2 : us.length ≤ 10000000) (hus : ∀ t ∈ us, t.s.size ≤ 281474976710656) (hok : affOk8 c ts = true) (hok2 : affOk8 d us = true) (x : Int) (y : Bool) (hx : dist11 c ts d us ⟨#[105]⟩ = (x, y)) (va vb : Value) (w : World) (ha : AV w 0 va ts) (hb : AV w 0 vb us) :
    Calls Try.prog 10 #[.agg #[.int .i64 c, va], .agg #[.int .i64 d, vb]] w fun e w' => e = .returned (.int .i64 x) ∧ Below w.heap.size w w' := by
  have T0 := Lib.hid (Two11.start w c d 26 ha hb (RV.nil11 w))
  have LK := Lib.hid (fun (va vb : Value) (w : World) (ha : AV w 0 va ts) (hb : AV w 0 vb us) => spec_DistOf c ts hn hts d us hn2 hus ⟨#[105]⟩ hok hok2 va vb w ha hb (x, y) hx)
  obtain ⟨a1, c1, rfl⟩ := ha.shape
  obtain ⟨a2, c2, rfl⟩ := hb.shape
  clear ha hb hn hn2 hts hus hok hok2 hx
  go_enter Try.func10, Try.ntmps10
  go_wp2_with fail
  refine (LK.out _ _ _ T0.out.a1 T0.out.a2).mono ?_
  rintro e w1 ⟨rfl, hb1⟩
  have T1 := Lib.hid (T0.out.later hb1)
  clear hb1 T0 LK
  simp only [distR]
  go_wp2
  go_ret
  exact ⟨rfl, T1.out.low⟩
set_option maxHeartbeats 2000000 in
theorem hasDist_is (c : Int) (ts : List AR) (hn : ts.length ≤ 10000000) (hts : ∀ t ∈ ts, t.s.size ≤ 281474976710656) (d : Int) (us : List AR) (hn2 : us.length ≤ 10000000) (hus : ∀ t ∈ us, t.s.size ≤ 281474976710656) (hok : affOk8 c ts = true) (hok2 : affOk8 d us = true) (x : Int) (y : Bool) (hx : dist11 c ts d us ⟨#[105]⟩ = (x, y)) (va vb : Value) (w : World) (ha : AV w 0 va ts) (hb : AV w 0 vb us) :
    Calls Try.prog 11 #[.agg #[.int .i64 c, va], .agg #[.int .i64 d, vb]] w fun e w' => e = .returned (.bool y) ∧ Below w.heap.size w w' := by
  have T0 := Lib.hid (Two11.start w c d 26 ha hb (RV.nil11 w))
  have LK := Lib.hid (fun (va vb : Value) (w : World) (ha : AV w 0 va ts) (hb : AV w 0 vb us) => spec_DistOf c ts hn hts d us hn2 hus ⟨#[105]⟩ hok hok2 va vb w ha hb (x, y) hx)
  obtain ⟨a1, c1, rfl⟩ := ha.shape
  obtain ⟨a2, c2, rfl⟩ := hb.shape
  clear ha hb hn hn2 hts hus hok hok2 hx
  go_enter Try.func11, Try.ntmps11
  go_wp2_with fail
  refine (LK.out _ _ _ T0.out.a1 T0.out.a2).mono ?_
  rintro e w1 ⟨rfl, hb1⟩
  have T1 := Lib.hid (T0.out.later hb1)
  clear hb1 T0 LK
  simp only [distR]
  go_wp2
  go_ret
  exact ⟨rfl, T1.out.low⟩
end Go.Proofs.Ytjdpddcnogdekaa
