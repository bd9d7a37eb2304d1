/-
  Texts in one: MtMay, MtMayS.
-/
import Derived.Test.YtjdpddcnogdekaaGreatMtRestS
import Derived.Deep.QuietTactic
import Derived.BigQuiet
/-
  MayMeet, plainly, and of the landed code.
-/
namespace Go.Proofs.YtjdpddcnogdekaaGreat
open Go.RowKit Go.Lib
set_option linter.unusedSimpArgs false
set_option linter.unusedVariables false

def inI11 (lo hi x : Int) : Bool := decide (lo ≤ x) && decide (x ≤ hi)
def times11 (n m lo hi : Int) : Bool := (List.range m.toNat).any fun i => inI11 lo hi (n * ((i : Int) + 1)) || inI11 lo hi (-(n * ((i : Int) + 1)))
def mayMeet11 (c : Int) (ts : List AR) (d : Int) (us : List AR) (s : ByteArray) (rs : List RG) : Bool :=
  gcdMeet11 c ts d us && rngMeet11 c ts d us rs && (if (decide (coefA ts s = 0) || !(decide (coefA ts s = coefA us s)) || !(hasR9 rs s)) = true then true
    else times11 (coefA ts s) ((rg9 rs s).hi - (rg9 rs s).lo) (lo11 d (rest11 us s) rs - hi11 c (rest11 ts s) rs) (hi11 d (rest11 us s) rs - lo11 c (rest11 ts s) rs))
theorem inI11_iff {lo hi x : Int} : inI11 lo hi x = true ↔ lo ≤ x ∧ x ≤ hi := by simp [inI11]
theorem inI11_neg (lo hi x : Int) : inI11 (-hi) (-lo) x = inI11 lo hi (-x) := by
  rw [Bool.eq_iff_iff, inI11_iff, inI11_iff]; omega
theorem ceil11 {n lo : Int} (hn : 1 ≤ n) (h : lo > n) : lo ≤ n * ((lo + n - 1) / n) ∧ 1 ≤ (lo + n - 1) / n ∧ ∀ j, lo ≤ n * j → (lo + n - 1) / n ≤ j := by
  have h1 := Int.mul_ediv_add_emod (lo + n - 1) n
  have h2 := Int.emod_nonneg (lo + n - 1) (show n ≠ 0 by omega)
  have h3 := Int.emod_lt_of_pos (lo + n - 1) (show 0 < n by omega)
  obtain ⟨q, hq⟩ : ∃ q, (lo + n - 1) / n = q := ⟨_, rfl⟩
  rw [hq] at h1 ⊢
  refine ⟨by omega, ?_, fun j hj => ?_⟩
  · by_cases hc : 1 ≤ q
    · exact hc
    · have : n * q ≤ 0 := Int.mul_nonpos_of_nonneg_of_nonpos (by omega) (by omega)
      omega
  · by_cases hc : q ≤ j
    · exact hc
    · have h4 : n * (j + 1) ≤ n * q := Int.mul_le_mul_of_nonneg_left (by omega) (by omega)
      rw [Int.mul_add, Int.mul_one] at h4
      omega
theorem hasT_any {n m : Int} (lo hi : Int) (hn : 1 ≤ n) : hasT11 lo hi n m = (List.range m.toNat).any fun i => inI11 lo hi (n * ((i : Int) + 1)) := by
  rw [Bool.eq_iff_iff]
  simp only [List.any_eq_true, List.mem_range, inI11_iff, hasT11, Bool.and_eq_true, decide_eq_true_eq]
  constructor
  · intro ⟨h1, h2⟩
    split at h1
    · next h =>
      rw [if_pos h] at h2
      obtain ⟨a, b, _⟩ := ceil11 hn h
      refine ⟨((lo + n - 1) / n - 1).toNat, by omega, ?_⟩
      have : ((((lo + n - 1) / n - 1).toNat : Nat) : Int) + 1 = (lo + n - 1) / n := by omega
      rw [this]; exact ⟨a, h2⟩
    · next h =>
      rw [if_neg h] at h2
      exact ⟨0, by omega, by simp; omega⟩
  · rintro ⟨i, hi1, h1, h2⟩
    split
    · next h =>
      obtain ⟨_, b, c⟩ := ceil11 hn h
      have hq := c _ h1
      exact ⟨by omega, Int.le_trans (Int.mul_le_mul_of_nonneg_left hq (by omega)) h2⟩
    · next h =>
      refine ⟨by omega, ?_⟩
      have : n * 1 ≤ n * ((i : Int) + 1) := Int.mul_le_mul_of_nonneg_left (by omega) (by omega)
      omega
theorem any_or11 {α : Type} (l : List α) (p q : α → Bool) : (l.any p || l.any q) = l.any fun x => p x || q x := by
  induction l with
  | nil => rfl
  | cons a r ih => simp only [List.any_cons, ← ih]; cases p a <;> cases q a <;> simp
theorem times_has {n m : Int} (lo hi : Int) (hn : n ≠ 0) : (hasT11 lo hi (max n (-n)) m || hasT11 (-hi) (-lo) (max n (-n)) m) = times11 n m lo hi := by
  rw [hasT_any _ _ (show 1 ≤ max n (-n) by omega), hasT_any _ _ (show 1 ≤ max n (-n) by omega), any_or11, times11]
  congr 1
  funext i
  rw [inI11_neg]
  by_cases h : 0 < n
  · rw [show max n (-n) = n by omega]
  · rw [show max n (-n) = -n by omega, Int.neg_mul, Int.neg_neg, Bool.or_comm]
theorem coef_bd11 {c : Int} {ts : List AR} (h : affOk8 c ts = true) (s : ByteArray) : -100000 ≤ coefA ts s ∧ coefA ts s ≤ 100000 := by
  have hm := okFrom8_mem none ts (by simp only [affOk8, Bool.and_eq_true] at h; exact h.2)
  clear h
  induction ts with
  | nil => simp [coefA]
  | cons t ts ih =>
    rw [coefA]
    split
    · exact hm t (by simp)
    · exact ih (fun u hu => hm u (by simp [hu]))
theorem sumR9_bd (most : Bool) (ts : List AR) (hts : ∀ s, -100000 ≤ coefA ts s ∧ coefA ts s ≤ 100000) : ∀ (rs : List RG), Fit9 rs → -(1000000000 * (rs.length : Int)) ≤ sumR9 most ts rs ∧ sumR9 most ts rs ≤ 1000000000 * (rs.length : Int)
  | [], _ => by simp [sumR9]
  | r :: rs, h => by
    have ih := sumR9_bd most ts hts rs (fun t ht => h t (by simp [ht]))
    obtain ⟨f1, f2, f3, f4, f5, f6⟩ := h r (by simp)
    have hc := hts r.s
    have he : -1000000000 ≤ end9 most (coefA ts r.s) r ∧ end9 most (coefA ts r.s) r ≤ 1000000000 := by
      unfold end9
      split
      · exact prod9 hc.1 hc.2 f5 f6
      · exact prod9 hc.1 hc.2 f3 f4
    rw [sumR9, List.length_cons]
    omega
theorem far9_bd (most : Bool) (c : Int) (ts : List AR) (rs : List RG) : -9000000000 ≤ (far9 most c ts rs).getD 0 ∧ (far9 most c ts rs).getD 0 ≤ 9000000000 := by
  unfold far9
  by_cases h : (affOk8 c ts && waysOk9 rs && ts.all fun t => hasR9 rs t.s) = true
  · rw [if_pos h]
    simp only [Bool.and_eq_true] at h
    obtain ⟨⟨h1, h2⟩, h3⟩ := h
    have hb := sumR9_bd most ts (coef_bd11 h1) rs (fit_of h2)
    have hsw := sum_swap9 most rs (dist_of h2) none ts (by simp only [affOk8, Bool.and_eq_true] at h1; exact h1.2) h3
    have hl : rs.length ≤ 8 := by
      simp only [waysOk9, boxOk9, Bool.and_eq_true, decide_eq_true_eq] at h2; exact h2.1.1
    have hc := affOk_c h1
    rw [hsw] at hb
    simp only [Option.getD_some, IntKind.wrap_i64]
    omega
  · rw [if_neg h]; simp
theorem has_ways11 {c : Int} {ts : List AR} {rs : List RG} (h : has11 c ts rs = true) : waysOk9 rs = true := by
  unfold has11 far9 at h
  split at h
  · next h2 => simp only [Bool.and_eq_true] at h2; exact h2.1.2
  · simp at h
theorem rg_fit11 {rs : List RG} {s : ByteArray} (hw : waysOk9 rs = true) (h : hasR9 rs s = true) : 0 ≤ (rg9 rs s).hi - (rg9 rs s).lo ∧ (rg9 rs s).hi - (rg9 rs s).lo ≤ 20000 ∧ -10000 ≤ (rg9 rs s).lo ∧ (rg9 rs s).lo ≤ 10000 ∧ -10000 ≤ (rg9 rs s).hi ∧ (rg9 rs s).hi ≤ 10000 := by
  obtain ⟨j, hj, _⟩ := at9_find s rs 0 h
  obtain ⟨f1, f2, f3, f4, f5, f6⟩ := fit_of hw _ (List.mem_of_getElem? hj)
  omega
theorem alloc_b11 {w w0 : World} {n : Nat} (h : Below n w0 w) (o : Obj) (hn : n ≤ w.heap.size) : Below n w0 (w.alloc o) := h.trans ((alloc_below w o).mono hn)
set_option maxHeartbeats 1500000 in
set_option maxRecDepth 100000 in
theorem impl_MayMeet (c : Int) (ts : List AR) (hn : ts.length ≤ 10000000) (d : Int) (us : List AR) (hn2 : us.length ≤ 10000000) (s : ByteArray) (rs : List RG) (hm : rs.length ≤ 10000000) (va vb vr : Value) (w : World) (ha : AV w 0 va ts) (hb : AV w 0 vb us) (hr : RV w 0 vr rs) (v : Bool) (hv : mayMeet11 c ts d us s rs = v) :
    Calls Tryz.prog 7 #[.agg #[.int .i64 c, va], .agg #[.int .i64 d, vb], .string s, vr] w fun e w' => e = .returned (.bool v) ∧ Below w.heap.size w w' := by
  have T0 := Lib.hid (Two11.start w c d 26 ha hb hr)
  have HN := Lib.hid (And.intro hn (And.intro hn2 hm))
  obtain ⟨a1, c1, rfl⟩ := ha.shape
  obtain ⟨a2, c2, rfl⟩ := hb.shape
  clear ha hb hr hn hn2 hm
  cases hg : gcdMeet11 c ts d us with
  | false =>
    have R : Hid (v = false) := show _ = _ by rw [← hv, mayMeet11, hg]; rfl
    have HG := Lib.hid hg
    clear hg hv
    go_enter Tryz.func7, Tryz.ntmps7
    go_wp2_with fail
    refine (impl_GcdMeet c ts HN.out.1 d us HN.out.2.1 _ _ _ T0.out.a1 T0.out.a2 false HG.out).mono ?_
    rintro e w1 ⟨rfl, hb1⟩
    have T1 := Lib.hid (T0.out.later hb1)
    clear hb1 T0
    go_wp2
    go_ret
    exact ⟨by rw [R.out]; rfl, T1.out.low⟩
  | true =>
    have HG := Lib.hid hg
    cases hq : rngMeet11 c ts d us rs with
    | false =>
      have R : Hid (v = false) := show _ = _ by rw [← hv, mayMeet11, hg, hq]; rfl
      have HQ := Lib.hid hq
      clear hg hv hq
      go_enter Tryz.func7, Tryz.ntmps7
      go_wp2_with fail
      refine (impl_GcdMeet c ts HN.out.1 d us HN.out.2.1 _ _ _ T0.out.a1 T0.out.a2 true HG.out).mono ?_
      rintro e w1 ⟨rfl, hb1⟩
      have T1 := Lib.hid (T0.out.later hb1)
      clear hb1 T0
      obtain ⟨C0, C1⟩ := And.intro (cellC11 T1.out.r1) (cellT11 T1.out.r1)
      obtain ⟨D0, D1⟩ := And.intro (cellC11 T1.out.r2) (cellT11 T1.out.r2)
      go_wp2_with fail
      refine (impl_RngMeet c ts (by have := HN.out; omega) d us (by have := HN.out; omega) rs (by have := HN.out; omega) _ _ vr _ T1.out.a1 T1.out.a2 T1.out.rr false HQ.out).mono ?_
      rintro e w2 ⟨rfl, hb1⟩
      have T2 := Lib.hid (T1.out.later hb1)
      clear hb1 T1 C0 C1 D0 D1
      go_wp2
      go_ret
      exact ⟨by rw [R.out]; rfl, T2.out.low⟩
    | true =>
      have HQ := Lib.hid hq
      obtain ⟨n, hnn⟩ : ∃ n, coefA ts s = n := ⟨_, rfl⟩
      obtain ⟨m, hmm⟩ : ∃ m, coefA us s = m := ⟨_, rfl⟩
      obtain ⟨hz, hhz⟩ : ∃ h, hasR9 rs s = h := ⟨_, rfl⟩
      obtain ⟨r, hrr⟩ : ∃ r, rg9 rs s = r := ⟨_, rfl⟩
      obtain ⟨x1, hx1⟩ : ∃ x, lo11 c (rest11 ts s) rs = x := ⟨_, rfl⟩
      obtain ⟨y1, hy1⟩ : ∃ x, hi11 c (rest11 ts s) rs = x := ⟨_, rfl⟩
      obtain ⟨k1, hk1⟩ : ∃ x, has11 c (rest11 ts s) rs = x := ⟨_, rfl⟩
      obtain ⟨x2, hx2⟩ : ∃ x, lo11 d (rest11 us s) rs = x := ⟨_, rfl⟩
      obtain ⟨y2, hy2⟩ : ∃ x, hi11 d (rest11 us s) rs = x := ⟨_, rfl⟩
      obtain ⟨k2, hk2⟩ : ∃ x, has11 d (rest11 us s) rs = x := ⟨_, rfl⟩
      have R : Hid (v = (if (decide (n = 0) || !(decide (n = m)) || !hz) = true then true else times11 n (r.hi - r.lo) (x2 - y1) (y2 - x1))) := show _ = _ by
        rw [← hv, mayMeet11, hg, hq, hnn, hmm, hhz, hrr, hx1, hy1, hx2, hy2]; rfl
      have hok : affOk8 c ts = true ∧ affOk8 d us = true := by simp only [gcdMeet11, Bool.and_eq_true] at hg; exact hg.1
      have hwy : waysOk9 rs = true := by simp only [rngMeet11, Bool.and_eq_true] at hq; exact has_ways11 hq.1.1.1
      have hnb := coef_bd11 hok.1 s
      rw [hnn] at hnb
      have HNB := Lib.hid hnb
      have HF : Hid (hz = true → 0 ≤ r.hi - r.lo ∧ r.hi - r.lo ≤ 20000 ∧ -10000 ≤ r.lo ∧ r.lo ≤ 10000 ∧ -10000 ≤ r.hi ∧ r.hi ≤ 10000) := fun h => by rw [← hrr]; exact rg_fit11 hwy (hhz.trans h)
      have b1 := far9_bd false c (rest11 ts s) rs
      have b2 := far9_bd true c (rest11 ts s) rs
      have b3 := far9_bd false d (rest11 us s) rs
      have b4 := far9_bd true d (rest11 us s) rs
      unfold lo11 at hx1 hx2
      unfold hi11 at hy1 hy2
      rw [hx1] at b1; rw [hy1] at b2; rw [hx2] at b3; rw [hy2] at b4
      have HBB := Lib.hid (And.intro b1 (And.intro b2 (And.intro b3 b4)))
      have H1 := Lib.hid (And.intro hx1 (And.intro hy1 hk1))
      have H2 := Lib.hid (And.intro hx2 (And.intro hy2 hk2))
      have HNN := Lib.hid hnn
      have HMM := Lib.hid hmm
      have HHZ := Lib.hid hhz
      have HRR := Lib.hid hrr
      clear hg hq hv hnn hmm hhz hrr hx1 hy1 hk1 hx2 hy2 hk2 hok hwy hnb b1 b2 b3 b4
      obtain ⟨rS, rL, rH⟩ := r
      simp only at R HF
      go_enter Tryz.func7, Tryz.ntmps7
      go_wp2_with fail
      refine (impl_GcdMeet c ts HN.out.1 d us HN.out.2.1 _ _ _ T0.out.a1 T0.out.a2 true HG.out).mono ?_
      rintro e w1 ⟨rfl, hb1⟩
      have T1 := Lib.hid (T0.out.later hb1)
      clear hb1 T0
      obtain ⟨C0, C1⟩ := And.intro (cellC11 T1.out.r1) (cellT11 T1.out.r1)
      obtain ⟨D0, D1⟩ := And.intro (cellC11 T1.out.r2) (cellT11 T1.out.r2)
      go_wp2_with fail
      refine (impl_RngMeet c ts (by have := HN.out; omega) d us (by have := HN.out; omega) rs (by have := HN.out; omega) _ _ vr _ T1.out.a1 T1.out.a2 T1.out.rr true HQ.out).mono ?_
      rintro e w2 ⟨rfl, hb1⟩
      have T2 := Lib.hid (T1.out.later hb1)
      clear hb1 T1 C0 C1 D0 D1
      go_wp2_with (refine wpList_load_mid rfl 26 _ rfl w.heap.size 0 rfl _ _ T2.out.r1 Tryz.underlying26 rfl sizeIA8 ?_)
      refine (impl_CoefOf c ts (by have := HN.out; omega) s _ _ T2.out.a1).mono ?_
      rintro e w3 ⟨rfl, hb1⟩
      rw [HNN.out]
      have T3 := Lib.hid (T2.out.later hb1)
      clear hb1 T2
      go_wp2_with fail
      refine (rngNamed_is rs (by have := HN.out; omega) s vr _ T3.out.rr hz HHZ.out).mono ?_
      rintro e w4 ⟨rfl, hb1⟩
      rw [HRR.out]
      have T4 := Lib.hid (T3.out.later hb1)
      have ba := alloc_below w4 (.cells #[.string rS, .int .i64 rL, .int .i64 rH] 32)
      have T5 := Lib.hid (T4.out.later ba)
      have QR := Lib.hid (heap_last w4 (.cells #[.string rS, .int .i64 rL, .int .i64 rH] 32))
      obtain ⟨D0, D1⟩ := And.intro (cellC11 T5.out.r2) (cellT11 T5.out.r2)
      clear hb1 T3 T4 ba
      by_cases hn0 : n = 0
      · have R2 : Hid (v = true) := show _ = _ by rw [R.out, if_pos (by simp [hn0])]
        have B5 := Lib.hid T5.out.low
        clear R HNB HNN
        subst hn0
        go_wp2
        go_ret
        exact ⟨by rw [R2.out]; rfl, B5.out⟩
      · have hn0b : (n == 0) = false := by simp [hn0]
        go_wp2_with fail
        refine (impl_CoefOf d us (by have := HN.out; omega) s _ _ T5.out.a2).mono ?_
        rintro e w6 ⟨rfl, hb1⟩
        rw [HMM.out]
        have T6 := Lib.hid (T5.out.later hb1)
        have QR6 := Lib.hid (heap_b11 QR.out hb1)
        clear hb1 D0 D1 T5 QR
        by_cases hnm : n = m
        · cases hz with
          | false =>
            have R2 : Hid (v = true) := show _ = _ by rw [R.out, if_pos (by simp)]
            have B6 := Lib.hid T6.out.low
            clear R HMM
            subst hnm
            go_wp2
            go_ret
            exact ⟨by rw [R2.out]; rfl, B6.out⟩
          | true =>
            have R2 : Hid (v = times11 n (rH - rL) (x2 - y1) (y2 - x1)) := show _ = _ by rw [R.out, if_neg (by rw [← hnm]; simp [hn0])]
            have HF2 := Lib.hid (HF.out rfl)
            clear R HMM HF
            subst hnm
            go_wp2_with (refine wpList_load_mid rfl 26 _ rfl w.heap.size 0 rfl _ _ T6.out.r1 Tryz.underlying26 rfl sizeIA8 ?_)
            refine (restOf_is c ts HN.out.1 s _ _ T6.out.a1).mono ?_
            rintro e w7 ⟨u7, p7, rfl, hav, hb1⟩
            have T7 := Lib.hid (T6.out.later hb1)
            have QR7 := Lib.hid (heap_b11 QR6.out hb1)
            have G7 := Lib.hid hav
            clear hb1 hav T6 QR6
            go_wp2_with fail
            refine (spanOf_is c (rest11 ts s) (by have := rest11_len ts s; have := HN.out; omega) rs (by have := HN.out; omega) _ vr _ G7.out T7.out.rr x1 y1 k1 H1.out.1 H1.out.2.1 H1.out.2.2).mono ?_
            rintro e w8 ⟨rfl, hb1⟩
            have T8 := Lib.hid (T7.out.later hb1)
            have QR8 := Lib.hid (heap_b11 QR7.out hb1)
            have ba := alloc_below w8 (.cells #[.int .i64 x1, .int .i64 y1] 56)
            have T9 := Lib.hid (T8.out.later ba)
            have QR9 := Lib.hid (heap_b11 QR8.out ba)
            have QX9 := Lib.hid (heap_last w8 (.cells #[.int .i64 x1, .int .i64 y1] 56))
            clear hb1 ba T7 T8 QR7 QR8 G7
            go_wp2_with (refine wpList_load_mid rfl 26 _ rfl (w.heap.size + 1) 0 rfl _ _ T9.out.r2 Tryz.underlying26 rfl sizeIA8 ?_)
            refine (restOf_is d us HN.out.2.1 s _ _ T9.out.a2).mono ?_
            rintro e w10 ⟨u10, p10, rfl, hav, hb1⟩
            have T10 := Lib.hid (T9.out.later hb1)
            have QR10 := Lib.hid (heap_b11 QR9.out hb1)
            have QX10 := Lib.hid (heap_b11 QX9.out hb1)
            have G10 := Lib.hid hav
            clear hb1 hav T9 QR9 QX9
            go_wp2_with fail
            refine (spanOf_is d (rest11 us s) (by have := rest11_len us s; have := HN.out; omega) rs (by have := HN.out; omega) _ vr _ G10.out T10.out.rr x2 y2 k2 H2.out.1 H2.out.2.1 H2.out.2.2).mono ?_
            rintro e w11 ⟨rfl, hb1⟩
            have T11 := Lib.hid (T10.out.later hb1)
            have QR11 := Lib.hid (heap_b11 QR10.out hb1)
            have QX11 := Lib.hid (heap_b11 QX10.out hb1)
            clear hb1 T10 QR10 QX10 G10
            obtain ⟨lo, hlo⟩ : ∃ z, wrap64 (x2 - y1) = z := ⟨_, rfl⟩
            obtain ⟨hi, hhi⟩ : ∃ z, wrap64 (y2 - x1) = z := ⟨_, rfl⟩
            obtain ⟨mm, hmm⟩ : ∃ z, wrap64 (rH - rL) = z := ⟨_, rfl⟩
            have e1 : x2 - y1 = lo := by have := HBB.out; rw [← hlo]; unfold wrap64; omega
            have e2 : y2 - x1 = hi := by have := HBB.out; rw [← hhi]; unfold wrap64; omega
            have e6 : rH - rL = mm := by have := HF2.out; rw [← hmm]; unfold wrap64; omega
            rw [e1, e2, e6] at R2
            have hl0 : -100000000000 ≤ lo ∧ lo ≤ 100000000000 ∧ -100000000000 ≤ hi ∧ hi ≤ 100000000000 ∧ 0 ≤ mm ∧ mm ≤ 20000 := by
              have h1 := HBB.out; have h2 := HF2.out; omega
            have e3 : wrap64 (-lo) = -lo := by unfold wrap64; omega
            have e4 : wrap64 (-hi) = -hi := by unfold wrap64; omega
            have e5 : wrap64 (-n) = -n := by have := HNB.out; unfold wrap64; omega
            have HL := Lib.hid hl0
            clear hl0 e1 e2 e6
            have ba := alloc_below w11 (.cells #[.int .i64 x2, .int .i64 y2] 56)
            obtain ⟨⟨s0, s1⟩, _⟩ := blk2 (heap_b11 QX11.out ba)
            have q1 : ∀ A B C : Obj, (((w11.alloc A).alloc B).alloc C).cell? ⟨w4.heap.size, 1, Option.none⟩ = some (.int .i64 rL) := fun A B C => by
              obtain ⟨_, h, _⟩ := blk3 (heap_b11 (heap_b11 (heap_b11 QR11.out (alloc_below _ A)) (alloc_below _ B)) (alloc_below _ C)); exact h
            have q2 : ∀ A B C : Obj, (((w11.alloc A).alloc B).alloc C).cell? ⟨w4.heap.size, 2, Option.none⟩ = some (.int .i64 rH) := fun A B C => by
              obtain ⟨_, _, h⟩ := blk3 (heap_b11 (heap_b11 (heap_b11 QR11.out (alloc_below _ A)) (alloc_below _ B)) (alloc_below _ C)); exact h
            clear ba
            go_wp2_with fail
            obtain ⟨v1, hv1⟩ : ∃ v, hasT11 lo hi (max n (-n)) mm = v := ⟨_, rfl⟩
            obtain ⟨v2, hv2⟩ : ∃ v, hasT11 (-hi) (-lo) (max n (-n)) mm = v := ⟨_, rfl⟩
            have HV : Hid (v = (v1 || v2)) := show _ = _ by rw [R2.out, ← times_has lo hi hn0, hv1, hv2]
            have HV1 := Lib.hid hv1
            have HV2 := Lib.hid hv2
            clear hv1 hv2
            refine (hasTimes_is lo hi (max n (-n)) mm (by have := HL.out; omega) (by have := HL.out; omega) (by have := HNB.out; omega) (by have := HL.out; omega) v1 HV1.out _).mono ?_
            rintro e w12 ⟨rfl, hb1⟩
            cases v1 with
            | true =>
              have B12 := Lib.hid (alloc_b11 (alloc_b11 (alloc_b11 T11.out.low (.cells #[.int .i64 x2, .int .i64 y2] 56) T11.out.low.size) (.cells #[.int .i64 lo, .int .i64 hi] 56) (by have := T11.out.low.size; simp; omega)) (.cells #[.int .i64 (-hi), .int .i64 (-lo)] 56) (by have := T11.out.low.size; simp; omega))
              have B13 := Lib.hid (B12.out.trans (hb1.mono B12.out.size))
              clear hb1
              go_wp2
              go_ret
              exact ⟨by rw [HV.out]; rfl, B13.out⟩
            | false =>
              have B12 := Lib.hid (alloc_b11 (alloc_b11 (alloc_b11 T11.out.low (.cells #[.int .i64 x2, .int .i64 y2] 56) T11.out.low.size) (.cells #[.int .i64 lo, .int .i64 hi] 56) (by have := T11.out.low.size; simp; omega)) (.cells #[.int .i64 (-hi), .int .i64 (-lo)] 56) (by have := T11.out.low.size; simp; omega))
              have B13 := Lib.hid (B12.out.trans (hb1.mono B12.out.size))
              have hl := heap_last ((w11.alloc (.cells #[.int .i64 x2, .int .i64 y2] 56)).alloc (.cells #[.int .i64 lo, .int .i64 hi] 56)) (.cells #[.int .i64 (-hi), .int .i64 (-lo)] 56)
              simp only [World.size_alloc] at hl
              obtain ⟨⟨z0, z1⟩, _⟩ := blk2 (heap_b11 hl hb1)
              have p1 := keeps hb1 (q1 _ _ _)
              have p2 := keeps hb1 (q2 _ _ _)
              clear hb1 hl q1 q2
              go_wp2_with fail
              refine (hasTimes_is (-hi) (-lo) (max n (-n)) mm (by have := HL.out; omega) (by have := HL.out; omega) (by have := HNB.out; omega) (by have := HL.out; omega) v2 HV2.out _).mono ?_
              rintro e w13 ⟨rfl, hb2⟩
              have B14 := Lib.hid (B13.out.trans (hb2.mono B13.out.size))
              clear hb2
              go_wp2
              go_ret
              exact ⟨by rw [HV.out]; rfl, B14.out⟩
        · have R2 : Hid (v = true) := show _ = _ by rw [R.out, if_pos (by simp [hnm])]
          have hnmb : (n == m) = false := by simp [hnm]
          have B6 := Lib.hid T6.out.low
          clear R
          go_wp2
          go_ret
          exact ⟨by rw [R2.out]; rfl, B6.out⟩
end Go.Proofs.YtjdpddcnogdekaaGreat
/-
  MayMeet of the specification.
-/
namespace Go.Proofs.YtjdpddcnogdekaaGreat
open Go.RowKit Go.Lib
set_option linter.unusedSimpArgs false
set_option linter.unusedVariables false

def tf11 (n lo hi : Int) (i : Nat) : Bool := inI11 lo hi (n * ((i : Int) + 1)) || inI11 lo hi (-(n * ((i : Int) + 1)))
theorem mul_bd11 {n x : Int} (h : -100000 ≤ n ∧ n ≤ 100000) (h2 : 0 ≤ x ∧ x ≤ 20000) : -100000 * 20000 ≤ n * x ∧ n * x ≤ 100000 * 20000 := by
  have hn : n.natAbs ≤ 100000 := by omega
  have hx : x.natAbs ≤ 20000 := by omega
  have h3 : (n * x).natAbs ≤ 100000 * 20000 := by rw [Int.natAbs_mul]; exact Nat.mul_le_mul hn hx
  omega
set_option maxHeartbeats 1500000 in
set_option maxRecDepth 100000 in
theorem spec_MayMeet (c : Int) (ts : List AR) (hn : ts.length ≤ 10000000) (hts : ∀ t ∈ ts, t.s.size ≤ 281474976710656) (d : Int) (us : List AR) (hn2 : us.length ≤ 10000000) (hus : ∀ t ∈ us, t.s.size ≤ 281474976710656) (s : ByteArray) (rs : List RG) (hm : rs.length ≤ 10000000) (hrs : ∀ t ∈ rs, t.s.size ≤ 281474976710656) (va vb vr : Value) (w : World) (ha : AV w 0 va ts) (hb : AV w 0 vb us) (hr : RV w 0 vr rs) (v : Bool) (hv : mayMeet11 c ts d us s rs = v) :
    Calls Tryz.prog 8 #[.agg #[.int .i64 c, va], .agg #[.int .i64 d, vb], .string s, vr] w fun e w' => e = .returned (.bool v) ∧ Below w.heap.size w w' := by
  have T0 := Lib.hid (Two11.start w c d 26 ha hb hr)
  have HN := Lib.hid (And.intro hn (And.intro hn2 hm))
  have HT := Lib.hid (And.intro hts (And.intro hus hrs))
  obtain ⟨a3, c3, rfl⟩ := hr.shape
  obtain ⟨a1, c1, rfl⟩ := ha.shape
  obtain ⟨a2, c2, rfl⟩ := hb.shape
  clear ha hb hr hn hn2 hm hts hus hrs
  cases hg : gcdMeet11 c ts d us with
  | false =>
    have R : Hid (v = false) := show _ = _ by rw [← hv, mayMeet11, hg]; rfl
    have HG := Lib.hid hg
    clear hg hv
    go_enter Tryz.func8, Tryz.ntmps8
    go_wp2_with fail
    refine (spec_GcdMeet c ts (by have := HN.out; omega) HT.out.1 d us (by have := HN.out; omega) HT.out.2.1 _ _ _ T0.out.a1 T0.out.a2 false HG.out).mono ?_
    rintro e w1 ⟨rfl, hb1⟩
    have T1 := Lib.hid (T0.out.later hb1)
    clear hb1 T0
    go_wp2
    go_ret
    exact ⟨by rw [R.out]; rfl, T1.out.low⟩
  | true =>
    have HG := Lib.hid hg
    cases hq : rngMeet11 c ts d us rs with
    | false =>
      have R : Hid (v = false) := show _ = _ by rw [← hv, mayMeet11, hg, hq]; rfl
      have HQ := Lib.hid hq
      clear hg hv hq
      go_enter Tryz.func8, Tryz.ntmps8
      go_wp2_with fail
      refine (spec_GcdMeet c ts (by have := HN.out; omega) HT.out.1 d us (by have := HN.out; omega) HT.out.2.1 _ _ _ T0.out.a1 T0.out.a2 true HG.out).mono ?_
      rintro e w1 ⟨rfl, hb1⟩
      have T1 := Lib.hid (T0.out.later hb1)
      clear hb1 T0
      obtain ⟨C0, C1⟩ := And.intro (cellC11 T1.out.r1) (cellT11 T1.out.r1)
      obtain ⟨D0, D1⟩ := And.intro (cellC11 T1.out.r2) (cellT11 T1.out.r2)
      go_wp2_with fail
      refine (spec_RngMeet c ts (by have := HN.out; omega) HT.out.1 d us (by have := HN.out; omega) HT.out.2.1 rs (by have := HN.out; omega) HT.out.2.2 _ _ _ _ T1.out.a1 T1.out.a2 T1.out.rr false HQ.out).mono ?_
      rintro e w2 ⟨rfl, hb1⟩
      have T2 := Lib.hid (T1.out.later hb1)
      clear hb1 T1 C0 C1 D0 D1
      go_wp2
      go_ret
      exact ⟨by rw [R.out]; rfl, T2.out.low⟩
    | true =>
      have HQ := Lib.hid hq
      obtain ⟨n, hnn⟩ : ∃ n, coefA ts s = n := ⟨_, rfl⟩
      obtain ⟨m, hmm⟩ : ∃ m, coefA us s = m := ⟨_, rfl⟩
      obtain ⟨hz, hhz⟩ : ∃ h, hasR9 rs s = h := ⟨_, rfl⟩
      obtain ⟨r, hrr⟩ : ∃ r, rg9 rs s = r := ⟨_, rfl⟩
      obtain ⟨x1, hx1⟩ : ∃ x, lo11 c (rest11 ts s) rs = x := ⟨_, rfl⟩
      obtain ⟨y1, hy1⟩ : ∃ x, hi11 c (rest11 ts s) rs = x := ⟨_, rfl⟩
      obtain ⟨k1, hk1⟩ : ∃ x, has11 c (rest11 ts s) rs = x := ⟨_, rfl⟩
      obtain ⟨x2, hx2⟩ : ∃ x, lo11 d (rest11 us s) rs = x := ⟨_, rfl⟩
      obtain ⟨y2, hy2⟩ : ∃ x, hi11 d (rest11 us s) rs = x := ⟨_, rfl⟩
      obtain ⟨k2, hk2⟩ : ∃ x, has11 d (rest11 us s) rs = x := ⟨_, rfl⟩
      have R : Hid (v = (if (decide (n = 0) || !(decide (n = m)) || !hz) = true then true else times11 n (r.hi - r.lo) (x2 - y1) (y2 - x1))) := show _ = _ by
        rw [← hv, mayMeet11, hg, hq, hnn, hmm, hhz, hrr, hx1, hy1, hx2, hy2]; rfl
      have hok : affOk8 c ts = true ∧ affOk8 d us = true := by simp only [gcdMeet11, Bool.and_eq_true] at hg; exact hg.1
      have hwy : waysOk9 rs = true := by simp only [rngMeet11, Bool.and_eq_true] at hq; exact has_ways11 hq.1.1.1
      have hnb := coef_bd11 hok.1 s
      rw [hnn] at hnb
      have HNB := Lib.hid hnb
      have HF : Hid (hz = true → 0 ≤ r.hi - r.lo ∧ r.hi - r.lo ≤ 20000 ∧ -10000 ≤ r.lo ∧ r.lo ≤ 10000 ∧ -10000 ≤ r.hi ∧ r.hi ≤ 10000) := fun h => by rw [← hrr]; exact rg_fit11 hwy (hhz.trans h)
      have b1 := far9_bd false c (rest11 ts s) rs
      have b2 := far9_bd true c (rest11 ts s) rs
      have b3 := far9_bd false d (rest11 us s) rs
      have b4 := far9_bd true d (rest11 us s) rs
      unfold lo11 at hx1 hx2
      unfold hi11 at hy1 hy2
      rw [hx1] at b1; rw [hy1] at b2; rw [hx2] at b3; rw [hy2] at b4
      have HBB := Lib.hid (And.intro b1 (And.intro b2 (And.intro b3 b4)))
      have H1 := Lib.hid (And.intro hx1 (And.intro hy1 hk1))
      have H2 := Lib.hid (And.intro hx2 (And.intro hy2 hk2))
      have F : Hid (farR9 (far9 false c (rest11 ts s) rs) = .returned (.tuple #[.int .i64 x1, .bool k1]) ∧ farR9 (far9 true c (rest11 ts s) rs) = .returned (.tuple #[.int .i64 y1, .bool k1]) ∧ farR9 (far9 false d (rest11 us s) rs) = .returned (.tuple #[.int .i64 x2, .bool k2]) ∧ farR9 (far9 true d (rest11 us s) rs) = .returned (.tuple #[.int .i64 y2, .bool k2])) := by
        refine (⟨?_, ?_, ?_, ?_⟩ : _ ∧ _ ∧ _ ∧ _)
        · rw [farR9, hx1, ← hk1]; rfl
        · rw [farR9, has11_t, hk1, hy1]
        · rw [farR9, hx2, ← hk2]; rfl
        · rw [farR9, has11_t, hk2, hy2]
      have HNN := Lib.hid hnn
      have HMM := Lib.hid hmm
      have HHZ := Lib.hid hhz
      have HRR := Lib.hid hrr
      clear hg hq hv hnn hmm hhz hrr hx1 hy1 hk1 hx2 hy2 hk2 hok hwy hnb b1 b2 b3 b4
      obtain ⟨rS, rL, rH⟩ := r
      simp only at R HF
      go_enter Tryz.func8, Tryz.ntmps8
      go_wp2_with fail
      refine (spec_GcdMeet c ts (by have := HN.out; omega) HT.out.1 d us (by have := HN.out; omega) HT.out.2.1 _ _ _ T0.out.a1 T0.out.a2 true HG.out).mono ?_
      rintro e w1 ⟨rfl, hb1⟩
      have T1 := Lib.hid (T0.out.later hb1)
      clear hb1 T0
      obtain ⟨C0, C1⟩ := And.intro (cellC11 T1.out.r1) (cellT11 T1.out.r1)
      obtain ⟨D0, D1⟩ := And.intro (cellC11 T1.out.r2) (cellT11 T1.out.r2)
      go_wp2_with fail
      refine (spec_RngMeet c ts (by have := HN.out; omega) HT.out.1 d us (by have := HN.out; omega) HT.out.2.1 rs (by have := HN.out; omega) HT.out.2.2 _ _ _ _ T1.out.a1 T1.out.a2 T1.out.rr true HQ.out).mono ?_
      rintro e w2 ⟨rfl, hb1⟩
      have T2 := Lib.hid (T1.out.later hb1)
      clear hb1 T1 C0 C1 D0 D1
      go_wp2_with (refine wpList_load_mid rfl 26 _ rfl w.heap.size 0 rfl _ _ T2.out.r1 Tryz.underlying26 rfl sizeIA8 ?_)
      refine (spec_CoefOf c ts (by have := HN.out; omega) s _ _ T2.out.a1).mono ?_
      rintro e w3 ⟨rfl, hq1⟩
      have hb1 : Below w2.heap.size w2 w3 := hq1 ▸ alloc_below _ _
      rw [HNN.out]
      have T3 := Lib.hid (T2.out.later hb1)
      clear hb1 T2 hq1
      go_wp2_with fail
      refine (l9At_is rs (by have := HN.out; omega) s _ _ T3.out.rr).mono ?_
      rintro e w4 ⟨rfl, rfl⟩
      obtain ⟨D0, D1⟩ := And.intro (cellC11 T3.out.r2) (cellT11 T3.out.r2)
      obtain ⟨q, hq⟩ : ∃ q, at9 rs 0 s = q := ⟨_, rfl⟩
      have HQ9 := Lib.hid hq
      rw [hq]
      clear hq
      by_cases hn0 : n = 0
      · have R2 : Hid (v = true) := show _ = _ by rw [R.out, if_pos (by simp [hn0])]
        have B5 := Lib.hid T3.out.low
        clear R HNB HNN
        subst hn0
        go_wp2
        go_ret
        exact ⟨by rw [R2.out]; rfl, B5.out⟩
      · have hn0b : (n == 0) = false := by simp [hn0]
        go_wp2_with fail
        refine (spec_CoefOf d us (by have := HN.out; omega) s _ _ T3.out.a2).mono ?_
        rintro e w6 ⟨rfl, hq1⟩
        have hb1 : Below w3.heap.size w3 w6 := hq1 ▸ alloc_below _ _
        rw [HMM.out]
        have T6 := Lib.hid (T3.out.later hb1)
        clear hb1 D0 D1 T3 hq1
        by_cases hnm : n = m
        · cases hz with
          | false =>
            have R2 : Hid (v = true) := show _ = _ by rw [R.out, if_pos (by simp)]
            have B6 := Lib.hid T6.out.low
            have hq9 : q = -1 := by rw [← HQ9.out]; exact at9_no s rs 0 HHZ.out
            clear R HMM HQ9
            subst hnm
            subst hq9
            go_wp2
            go_ret
            exact ⟨by rw [R2.out]; rfl, B6.out⟩
          | true =>
            have R2 : Hid (v = times11 n (rH - rL) (x2 - y1) (y2 - x1)) := show _ = _ by rw [R.out, if_neg (by rw [← hnm]; simp [hn0])]
            have HF2 := Lib.hid (HF.out rfl)
            clear R HMM HF
            subst hnm
            obtain ⟨j, hj, hqj⟩ := at9_find s rs 0 HHZ.out
            rw [HQ9.out] at hqj
            rw [HRR.out] at hj
            have hqj2 : q = (j : Int) := by omega
            have hjl : j < rs.length := (List.getElem?_eq_some_iff.1 hj).1
            have hjI : (j : Int) < (rs.length : Int) := by omega
            have HJ := Lib.hid hj
            clear HQ9 hqj hj
            subst hqj2
            go_wp2_with (refine wpList_load_mid rfl 26 _ rfl w.heap.size 0 rfl _ _ T6.out.r1 Tryz.underlying26 rfl sizeIA8 ?_)
            refine (l11Rest_is c ts HN.out.1 s _ _ T6.out.a1).mono ?_
            rintro e w7 ⟨u7, p7, rfl, hav, hb1⟩
            have T7 := Lib.hid (T6.out.later hb1)
            have ba := alloc_below w7 (.cells #[.int .i64 c, .slice u7 (rest11 ts s).length p7] 26)
            have T8 := Lib.hid (T7.out.later ba)
            have Q8 := Lib.hid (heap_last w7 (.cells #[.int .i64 c, .slice u7 (rest11 ts s).length p7] 26))
            have G8 := Lib.hid (hav.later ba)
            clear hb1 hav T6 T7 ba
            go_wp2_with (refine wpList_load_mid rfl 26 _ rfl (w.heap.size + 1) 0 rfl _ _ T8.out.r2 Tryz.underlying26 rfl sizeIA8 ?_)
            refine (l11Rest_is d us HN.out.2.1 s _ _ T8.out.a2).mono ?_
            rintro e w9 ⟨u9, p9, rfl, hav, hb1⟩
            have T9 := Lib.hid (T8.out.later hb1)
            have Q9 := Lib.hid (heap_b11 Q8.out hb1)
            have G9 := Lib.hid (G8.out.later hb1)
            have ba := alloc_below w9 (.cells #[.int .i64 d, .slice u9 (rest11 us s).length p9] 26)
            have TA := Lib.hid (T9.out.later ba)
            have QA := Lib.hid (heap_b11 Q9.out ba)
            have GA := Lib.hid (G9.out.later ba)
            have QB := Lib.hid (heap_last w9 (.cells #[.int .i64 d, .slice u9 (rest11 us s).length p9] 26))
            have GB := Lib.hid (hav.later ba)
            obtain ⟨⟨s0, s1⟩, _⟩ := blk2 QA.out
            clear hb1 hav T8 T9 ba Q8 Q9 G8 G9
            go_wp2_with fail
            refine (spec_Least c (rest11 ts s) (by have := rest11_len ts s; have := HN.out; omega) (fun t h => HT.out.1 t (List.mem_filter.1 h).1) rs (by have := HN.out; omega) HT.out.2.2 _ _ _ GA.out TA.out.rr).mono ?_
            rintro e wb ⟨he, hb1⟩
            rw [F.out.1] at he
            subst he
            have TB := Lib.hid (TA.out.later hb1)
            have QA1 := Lib.hid (heap_b11 QA.out hb1)
            have QB1 := Lib.hid (heap_b11 QB.out hb1)
            have GA1 := Lib.hid (GA.out.later hb1)
            have GB1 := Lib.hid (GB.out.later hb1)
            obtain ⟨⟨t0, t1⟩, _⟩ := blk2 QA1.out
            clear hb1 s0 s1 TA QA QB GA GB
            go_wp2_with fail
            refine (spec_Most c (rest11 ts s) (by have := rest11_len ts s; have := HN.out; omega) (fun t h => HT.out.1 t (List.mem_filter.1 h).1) rs (by have := HN.out; omega) HT.out.2.2 _ _ _ GA1.out TB.out.rr).mono ?_
            rintro e wc ⟨he, hb1⟩
            rw [F.out.2.1] at he
            subst he
            have TC := Lib.hid (TB.out.later hb1)
            have QB2 := Lib.hid (heap_b11 QB1.out hb1)
            have GB2 := Lib.hid (GB1.out.later hb1)
            obtain ⟨⟨s0, s1⟩, _⟩ := blk2 QB2.out
            clear hb1 t0 t1 TB QA1 QB1 GA1 GB1
            go_wp2_with fail
            refine (spec_Least d (rest11 us s) (by have := rest11_len us s; have := HN.out; omega) (fun t h => HT.out.2.1 t (List.mem_filter.1 h).1) rs (by have := HN.out; omega) HT.out.2.2 _ _ _ GB2.out TC.out.rr).mono ?_
            rintro e wd ⟨he, hb1⟩
            rw [F.out.2.2.1] at he
            subst he
            have TD := Lib.hid (TC.out.later hb1)
            have QB3 := Lib.hid (heap_b11 QB2.out hb1)
            have GB3 := Lib.hid (GB2.out.later hb1)
            obtain ⟨⟨t0, t1⟩, _⟩ := blk2 QB3.out
            clear hb1 s0 s1 TC QB2 GB2
            go_wp2_with fail
            refine (spec_Most d (rest11 us s) (by have := rest11_len us s; have := HN.out; omega) (fun t h => HT.out.2.1 t (List.mem_filter.1 h).1) rs (by have := HN.out; omega) HT.out.2.2 _ _ _ GB3.out TD.out.rr).mono ?_
            rintro e we ⟨he, hb1⟩
            rw [F.out.2.2.2] at he
            subst he
            have TE := Lib.hid (TD.out.later hb1)
            clear hb1 t0 t1 TD QB3 GB3
            obtain ⟨lo, hlo⟩ : ∃ z, wrap64 (x2 - y1) = z := ⟨_, rfl⟩
            obtain ⟨hi, hhi⟩ : ∃ z, wrap64 (y2 - x1) = z := ⟨_, rfl⟩
            obtain ⟨mm, hmm⟩ : ∃ z, wrap64 (rH - rL) = z := ⟨_, rfl⟩
            have e1 : x2 - y1 = lo := by have := HBB.out; rw [← hlo]; unfold wrap64; omega
            have e2 : y2 - x1 = hi := by have := HBB.out; rw [← hhi]; unfold wrap64; omega
            have e6 : rH - rL = mm := by have := HF2.out; rw [← hmm]; unfold wrap64; omega
            rw [e1, e2, e6] at R2
            have hl0 : 0 ≤ mm ∧ mm ≤ 20000 := by have h2 := HF2.out; omega
            have HL := Lib.hid hl0
            obtain ⟨M, hM⟩ : ∃ M : Nat, mm = (M : Int) := ⟨mm.toNat, by omega⟩
            subst hM
            have R3 : Hid (v = (List.range' 0 M).any (tf11 n lo hi)) := show _ = _ by rw [R2.out, times11, List.range_eq_range']; rfl
            have hMI : (M : Int) ≤ 20000 := hl0.2
            have e5 : wrap64 (-n) = -n := by have := HNB.out; unfold wrap64; omega
            obtain ⟨ao, cap, er, hcap, hr⟩ := TE.out.rr
            injection er with er1 er2 er3
            subst er1; subst er3
            rcases hr with hr | ⟨g, off, rfl, _, gl, hc⟩
            · subst hr; simp at hjl
            have BC := Lib.hid (And.intro gl (And.intro (hc j _ HJ.out).2.1 (hc j _ HJ.out).2.2))
            clear hl0 e1 e2 e6 R2 hc gl hcap
            go_wp2
            go_loopw [21] (fun i wr => ∃ k : Nat, k ≤ M ∧ i = .int .i64 ((k : Int) + 1) ∧ Hid (v = (List.range' k (M - k)).any (tf11 n lo hi)) ∧ Hid (Below we.heap.size we wr)) (fun i _ => M + 1 - (RowKit.intOf i).toNat)
            case atStart => exact ⟨0, by omega, rfl, R3, Below.refl _ _⟩
            case round =>
              obtain ⟨k, hk, rfl, HV, HBR⟩ := hrel
              have c1 := HBR.out.cell (p := ⟨g, off + j * 3 + 1, Option.none⟩) BC.out.1 |>.trans BC.out.2.1
              have c2 := HBR.out.cell (p := ⟨g, off + j * 3 + 2, Option.none⟩) BC.out.1 |>.trans BC.out.2.2
              have HBD := Lib.hid (fun nq : Nat => below_drewN11 HBR.out nq)
              by_cases hlt : k < M
              · have hkI : (k : Int) + 1 ≤ (M : Int) := by omega
                obtain ⟨z, hz⟩ : ∃ z, wrap64 (n * ((k : Int) + 1)) = z := ⟨_, rfl⟩
                obtain ⟨y, hy⟩ : ∃ y, wrap64 (-n * ((k : Int) + 1)) = y := ⟨_, rfl⟩
                have hpb : -100000 * 20000 ≤ n * ((k : Int) + 1) ∧ n * ((k : Int) + 1) ≤ 100000 * 20000 := mul_bd11 HNB.out (by omega)
                have hz2 : n * ((k : Int) + 1) = z := by rw [← hz]; unfold wrap64; omega
                have hy2 : -(n * ((k : Int) + 1)) = y := by rw [← hy, Int.neg_mul]; unfold wrap64; omega
                obtain ⟨v1, hv1⟩ : ∃ v, inI11 lo hi z = v := ⟨_, rfl⟩
                obtain ⟨v2, hv2⟩ : ∃ v, inI11 lo hi y = v := ⟨_, rfl⟩
                have HV3 : Hid (v = ((v1 || v2) || (List.range' (k + 1) (M - (k + 1))).any (tf11 n lo hi))) := show _ = _ by
                  rw [HV.out, show M - k = (M - (k + 1)) + 1 by omega, List.range'_succ, List.any_cons, tf11, hy2, hz2, hv1, hv2]
                have HV1 := Lib.hid hv1
                have HV2 := Lib.hid hv2
                have HD : Hid (decide ((k : Int) + 1 ≤ (M : Int)) = true) := decide_eq_true hkI
                clear hpb hz2 hy2 hv1 hv2 HV
                cases v1 with
                | true =>
                  have R4 : Hid (v = true) := show _ = _ by rw [HV3.out]; rfl
                  go_wp2_with fail
                  go_quiet (fail)
                  go_wp2_with (go_at_call 38; refine (l1In_is z lo hi true HV1.out _).mono ?_; rintro e w' ⟨rfl, rfl⟩)
                  go_ret
                  exact ⟨by rw [R4.out]; rfl, TE.out.low.trans ((HBD.out _).mono TE.out.low.size)⟩
                | false =>
                  cases v2 with
                  | true =>
                    have R4 : Hid (v = true) := show _ = _ by rw [HV3.out]; rfl
                    go_wp2_with fail
                    go_quiet (fail)
                    go_wp2_with fail
                    refine (l1In_is z lo hi false HV1.out _).mono ?_
                    rintro e w' ⟨rfl, rfl⟩
                    go_wp2_with fail
                    refine (l1In_is y lo hi true HV2.out _).mono ?_
                    rintro e w' ⟨rfl, rfl⟩
                    go_wp2
                    go_ret
                    exact ⟨by rw [R4.out]; rfl, TE.out.low.trans ((HBD.out _).mono TE.out.low.size)⟩
                  | false =>
                    have R4 : Hid (v = (List.range' (k + 1) (M - (k + 1))).any (tf11 n lo hi)) := show _ = _ by rw [HV3.out]; rfl
                    go_wp2_with fail
                    go_quiet (fail)
                    go_wp2_with fail
                    refine (l1In_is z lo hi false HV1.out _).mono ?_
                    rintro e w' ⟨rfl, rfl⟩
                    go_wp2_with fail
                    refine (l1In_is y lo hi false HV2.out _).mono ?_
                    rintro e w' ⟨rfl, rfl⟩
                    go_wp2
                    go_roundw
                    case rel => exact ⟨k + 1, by omega, by go_num, R4.out, HBD.out _⟩
                    case measure => simp [RowKit.intOf]; omega
              · have R4 : Hid (v = false) := show _ = _ by rw [HV.out, show M - k = 0 by omega]; rfl
                have hkI : ¬ (k : Int) + 1 ≤ (M : Int) := by omega
                have hkf : decide ((k : Int) + 1 ≤ (M : Int)) = false := decide_eq_false hkI
                go_wp2_with fail
                go_quiet (fail)
                go_wp2
                go_ret
                exact ⟨by rw [R4.out]; rfl, TE.out.low.trans ((HBD.out _).mono TE.out.low.size)⟩
        · have R2 : Hid (v = true) := show _ = _ by rw [R.out, if_pos (by simp [hnm])]
          have hnmb : (n == m) = false := by simp [hnm]
          have B6 := Lib.hid T6.out.low
          clear R
          go_wp2
          go_ret
          exact ⟨by rw [R2.out]; rfl, B6.out⟩
end Go.Proofs.YtjdpddcnogdekaaGreat
