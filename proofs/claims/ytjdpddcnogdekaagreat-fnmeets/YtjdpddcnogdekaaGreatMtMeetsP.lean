/-
  Where two small sums over three small ranges are the same at two rounds, GcdMeet, RngMeet and (of rounds that are not one) MayMeet are true, plainly.
-/
import Derived.Test.YtjdpddcnogdekaaGreatP51ofMx
import Derived.Test.YtjdpddcnogdekaaGreatP50ofMx
import Derived.Test.YtjdpddcnogdekaaGreatP52ofMx
namespace Go.Proofs.YtjdpddcnogdekaaGreat
open Go.RowKit Go.Lib
set_option linter.unusedSimpArgs false
set_option linter.unusedVariables false

theorem reach_one {ts : List AR} {s : ByteArray} {r : RG} {rs : List RG} {l z : Int} (h : Reach11 ts s (r :: rs) l z) (hs : ¬ r.s = s) (hr : -20 ≤ r.lo ∧ r.lo ≤ r.hi ∧ r.hi ≤ 20) (hn : -4 ≤ coefA ts r.s ∧ coefA ts r.s ≤ 4) (hl : -1000 ≤ l ∧ l ≤ 1000) :
    ∃ y, r.lo ≤ y ∧ y ≤ r.hi ∧ Reach11 ts s rs (l + coefA ts r.s * y) z := by
  rw [Reach11] at h
  split at h
  · next hc =>
    rcases hc with hc | hc
    · exact ⟨r.lo, by omega, by omega, by rw [hc, Int.zero_mul, Int.add_zero]; exact h⟩
    · exact absurd hc hs
  · obtain ⟨j, hj, h⟩ := h
    have hj2 : (j : Int) < r.hi - r.lo + 1 := by unfold cnt11 at hj; omega
    have hm := mul_b9 hn (x := r.lo + (j : Int)) (by omega)
    have e : wrap64 (l + wrap64 (coefA ts r.s * (r.lo + (j : Int)))) = l + coefA ts r.s * (r.lo + (j : Int)) := by
      generalize coefA ts r.s * (r.lo + (j : Int)) = p at *; unfold wrap64; omega
    rw [e] at h
    exact ⟨r.lo + (j : Int), by omega, by omega, h⟩
/-- The sum at three numbers, plainly. -/
def val3 (c : Int) (ts : List AR) (x y z : Int) : Int := c + coefA ts nI * x + coefA ts nJ * y + coefA ts nK * z
theorem place3 {c : Int} {ts : List AR} (hp : Small8 c ts) {l0 h0 l1 h1 l2 h2 x z : Int} (b1 : -1 ≤ l1 ∧ l1 ≤ 3 ∧ l1 ≤ h1 ∧ h1 ≤ l1 + 4) (b2 : -1 ≤ l2 ∧ l2 ≤ 3 ∧ l2 ≤ h2 ∧ h2 ≤ l2 + 4) (hx : -20 ≤ x ∧ x ≤ 20)
    (h : z ∈ placesP11 c ts nI x [⟨nI, l0, h0⟩, ⟨nJ, l1, h1⟩, ⟨nK, l2, h2⟩]) : ∃ y u, (l1 ≤ y ∧ y ≤ h1) ∧ (l2 ≤ u ∧ u ≤ h2) ∧ z = val3 c ts x y u := by
  have hc := hp.1
  have hI := coefA_sm8 nI ts hp.b4
  have hJ := coefA_sm8 nJ ts hp.b4
  have hK := coefA_sm8 nK ts hp.b4
  rw [placesP11, reach_fold] at h
  obtain ⟨l, hl, h⟩ := h
  simp only [List.mem_singleton] at hl
  have m0 := mul_b9 hI hx
  have e0 : l = c + coefA ts nI * x := by
    rw [hl]; generalize coefA ts nI * x = p at *; unfold wrap64; omega
  rw [Reach11, if_pos (Or.inr rfl)] at h
  obtain ⟨y, y0, y1, h⟩ := reach_one h nJI (by simp only; omega) hJ (by omega)
  simp only at y0 y1 h
  have m1 := mul_b9 hJ (x := y) (by omega)
  obtain ⟨u, u0, u1, h⟩ := reach_one h nKI (by simp only; omega) hK (by omega)
  simp only at u0 u1 h
  rw [Reach11] at h
  exact ⟨y, u, ⟨y0, y1⟩, ⟨u0, u1⟩, by rw [h, e0, val3]⟩
/-- Two are the same at these rounds, at some places of the other names. -/
def Same3 (c : Int) (ts : List AR) (d : Int) (us : List AR) (x x' l1 h1 l2 h2 : Int) : Prop :=
  ∃ y u y' u', (l1 ≤ y ∧ y ≤ h1) ∧ (l2 ≤ u ∧ u ≤ h2) ∧ (l1 ≤ y' ∧ y' ≤ h1) ∧ (l2 ≤ u' ∧ u' ≤ h2) ∧ val3 c ts x y u = val3 d us x' y' u'
theorem meet_same {c d : Int} {ts us : List AR} (hp : Small8 c ts) (hq : Small8 d us) {l0 h0 l1 h1 l2 h2 x x' : Int} (b1 : -1 ≤ l1 ∧ l1 ≤ 3 ∧ l1 ≤ h1 ∧ h1 ≤ l1 + 4) (b2 : -1 ≤ l2 ∧ l2 ≤ 3 ∧ l2 ≤ h2 ∧ h2 ≤ l2 + 4) (hx : -20 ≤ x ∧ x ≤ 20) (hx' : -20 ≤ x' ∧ x' ≤ 20)
    (h : both11 (placesP11 c ts nI x [⟨nI, l0, h0⟩, ⟨nJ, l1, h1⟩, ⟨nK, l2, h2⟩]) (placesP11 d us nI x' [⟨nI, l0, h0⟩, ⟨nJ, l1, h1⟩, ⟨nK, l2, h2⟩]) = true) : Same3 c ts d us x x' l1 h1 l2 h2 := by
  rw [both11, List.any_eq_true] at h
  obtain ⟨p, hpm, h⟩ := h
  rw [List.any_eq_true] at h
  obtain ⟨q, hqm, h⟩ := h
  simp only [decide_eq_true_eq] at h
  obtain ⟨y, u, hy, hu, e1⟩ := place3 hp b1 b2 hx hpm
  obtain ⟨y', u', hy', hu', e2⟩ := place3 hq b1 b2 hx' hqm
  exact ⟨y, u, y', u', hy, hu, hy', hu', by rw [← e1, ← e2, h]⟩
theorem gcdW_dvd {g n : Int} (hg : 0 ≤ g ∧ g ≤ 4 ∨ g = 0) (hn : -4 ≤ n ∧ n ≤ 4) : gcdW g n ∣ g ∧ gcdW g n ∣ n ∧ (0 ≤ gcdW g n ∧ gcdW g n ≤ 4) ∧ (gcdW g n = 0 → g = 0 ∧ n = 0) := by
  have e1 : wrap32 g = g := by unfold wrap32; omega
  have e2 : wrap32 n = n := by unfold wrap32; omega
  unfold gcdW
  rw [e1, e2]
  refine ⟨Int.gcd_dvd_left _ _, Int.gcd_dvd_right _ _, ⟨by omega, ?_⟩, fun h => ?_⟩
  · by_cases h : g = 0
    · rw [h, Int.gcd_zero_left]; omega
    · have := Int.gcd_le_natAbs_left n h
      omega
  · have : Int.gcd g n = 0 := by omega
    exact Int.gcd_eq_zero_iff.1 this
theorem gcdL_dvd : ∀ (l : List AR) (g : Int), 0 ≤ g ∧ g ≤ 4 → (∀ t ∈ l, -4 ≤ t.n ∧ t.n ≤ 4) → gcdL11 g l ∣ g ∧ (∀ t ∈ l, gcdL11 g l ∣ t.n) ∧ (gcdL11 g l = 0 → g = 0 ∧ ∀ t ∈ l, t.n = 0)
  | [], g, _, _ => ⟨Int.dvd_refl _, by simp, fun h => ⟨h, by simp⟩⟩
  | t :: l, g, hg, hl => by
    obtain ⟨d1, d2, d3, d4⟩ := gcdW_dvd (Or.inl hg) (hl t (by simp))
    obtain ⟨f1, f2, f3⟩ := gcdL_dvd l (gcdW g t.n) d3 (fun u hu => hl u (by simp [hu]))
    rw [gcdL11]
    refine ⟨Int.dvd_trans f1 d1, fun u hu => ?_, fun h => ?_⟩
    · rcases List.mem_cons.1 hu with rfl | hu
      · exact Int.dvd_trans f1 d2
      · exact f2 u hu
    · obtain ⟨h1, h2⟩ := f3 h
      obtain ⟨h3, h4⟩ := d4 h1
      exact ⟨h3, fun u hu => by
        rcases List.mem_cons.1 hu with rfl | hu
        · exact h4
        · exact h2 u hu⟩
theorem coef_dvd {g : Int} {ts : List AR} (h : ∀ t ∈ ts, g ∣ t.n) (s : ByteArray) : g ∣ coefA ts s := by
  induction ts with
  | nil => exact Int.dvd_zero _
  | cons t ts ih =>
    rw [coefA]
    split
    · exact h t (by simp)
    · exact ih (fun u hu => h u (by simp [hu]))
theorem val_dvd {g c : Int} {ts : List AR} (h : ∀ t ∈ ts, g ∣ t.n) (x y z : Int) : g ∣ val3 c ts x y z - c := by
  have e : val3 c ts x y z - c = coefA ts nI * x + coefA ts nJ * y + coefA ts nK * z := by rw [val3]; omega
  rw [e]
  exact Int.dvd_add (Int.dvd_add (Int.dvd_mul_of_dvd_left (coef_dvd h nI)) (Int.dvd_mul_of_dvd_left (coef_dvd h nJ))) (Int.dvd_mul_of_dvd_left (coef_dvd h nK))
theorem same_gcd {c d : Int} {ts us : List AR} (hp : Small8 c ts) (hq : Small8 d us) {x x' l1 h1 l2 h2 : Int} (h : Same3 c ts d us x x' l1 h1 l2 h2) : gcdMeet11 c ts d us = true := by
  obtain ⟨y, u, y', u', _, _, _, _, e⟩ := h
  obtain ⟨_, f2, f3⟩ := gcdL_dvd (ts ++ us) 0 (by omega) (fun t ht => by
    rcases List.mem_append.1 ht with ht | ht
    · exact hp.b4 t ht
    · exact hq.b4 t ht)
  have g1 := val_dvd (c := c) (fun t ht => f2 t (List.mem_append_left _ ht)) x y u
  have g2 := val_dvd (c := d) (fun t ht => f2 t (List.mem_append_right _ ht)) x' y' u'
  rw [gcdMeet11, hp.ok, hq.ok, Bool.true_and, Bool.true_and]
  have key : gcdL11 0 (ts ++ us) ∣ c - d := by
    have h := Int.dvd_sub g2 g1
    have e2 : val3 d us x' y' u' - d - (val3 c ts x y u - c) = c - d := by rw [e]; omega
    rwa [e2] at h
  split
  · next h0 =>
    rw [h0] at key
    have := Int.zero_dvd.1 key
    exact decide_eq_true (by omega)
  · exact decide_eq_true (Int.tmod_eq_zero_of_dvd key)
theorem between3 {c : Int} {ts : List AR} (hp : Small8 c ts) {l0 h0 l1 h1 l2 h2 x y u : Int} (b0 : -1 ≤ l0 ∧ l0 ≤ 3 ∧ l0 ≤ h0 ∧ h0 ≤ l0 + 4) (b1 : -1 ≤ l1 ∧ l1 ≤ 3 ∧ l1 ≤ h1 ∧ h1 ≤ l1 + 4) (b2 : -1 ≤ l2 ∧ l2 ≤ 3 ∧ l2 ≤ h2 ∧ h2 ≤ l2 + 4)
    (hx : l0 ≤ x ∧ x ≤ h0) (hy : l1 ≤ y ∧ y ≤ h1) (hu : l2 ≤ u ∧ u ≤ h2) : lo11 c ts [⟨nI, l0, h0⟩, ⟨nJ, l1, h1⟩, ⟨nK, l2, h2⟩] ≤ val3 c ts x y u ∧ val3 c ts x y u ≤ hi11 c ts [⟨nI, l0, h0⟩, ⟨nJ, l1, h1⟩, ⟨nK, l2, h2⟩] ∧ has11 c ts [⟨nI, l0, h0⟩, ⟨nJ, l1, h1⟩, ⟨nK, l2, h2⟩] = true := by
  have f1 := far3 hp b0 b1 b2 false
  have f2 := far3 hp b0 b1 b2 true
  have q0 := pt_in9 false (coefA ts nI) ⟨nI, l0, h0⟩ b0.2.2.1
  have q1 := pt_in9 false (coefA ts nJ) ⟨nJ, l1, h1⟩ b1.2.2.1
  have q2 := pt_in9 false (coefA ts nK) ⟨nK, l2, h2⟩ b2.2.2.1
  have r0 := pt_in9 true (coefA ts nI) ⟨nI, l0, h0⟩ b0.2.2.1
  have r1 := pt_in9 true (coefA ts nJ) ⟨nJ, l1, h1⟩ b1.2.2.1
  have r2 := pt_in9 true (coefA ts nK) ⟨nK, l2, h2⟩ b2.2.2.1
  simp only at q0 q1 q2 r0 r1 r2
  rw [at3_is hp (by omega) (by omega) (by omega)] at f1 f2
  have e0 := end_bd9 (r := ⟨nI, l0, h0⟩) (coefA_sm8 nI ts hp.b4) hx
  have e1 := end_bd9 (r := ⟨nJ, l1, h1⟩) (coefA_sm8 nJ ts hp.b4) hy
  have e2 := end_bd9 (r := ⟨nK, l2, h2⟩) (coefA_sm8 nK ts hp.b4) hu
  rw [end_pt9, end_pt9] at e0 e1 e2
  refine ⟨?_, ?_, by rw [has11, f1]; rfl⟩
  · rw [lo11, f1, Option.getD_some, val3]; omega
  · rw [hi11, f2, Option.getD_some, val3]; omega
theorem same_rng {c d : Int} {ts us : List AR} (hp : Small8 c ts) (hq : Small8 d us) {l0 h0 l1 h1 l2 h2 x x' : Int} (b0 : -1 ≤ l0 ∧ l0 ≤ 3 ∧ l0 ≤ h0 ∧ h0 ≤ l0 + 4) (b1 : -1 ≤ l1 ∧ l1 ≤ 3 ∧ l1 ≤ h1 ∧ h1 ≤ l1 + 4) (b2 : -1 ≤ l2 ∧ l2 ≤ 3 ∧ l2 ≤ h2 ∧ h2 ≤ l2 + 4)
    (hx : l0 ≤ x ∧ x ≤ h0) (hx' : l0 ≤ x' ∧ x' ≤ h0) (h : Same3 c ts d us x x' l1 h1 l2 h2) : rngMeet11 c ts d us [⟨nI, l0, h0⟩, ⟨nJ, l1, h1⟩, ⟨nK, l2, h2⟩] = true := by
  obtain ⟨y, u, y', u', hy, hu, hy', hu', e⟩ := h
  obtain ⟨a1, a2, a3⟩ := between3 hp b0 b1 b2 hx hy hu
  obtain ⟨c1, c2, c3⟩ := between3 hq b0 b1 b2 hx' hy' hu'
  rw [rngMeet11, a3, c3, decide_eq_true (show lo11 c ts _ ≤ hi11 d us _ by omega), decide_eq_true (show lo11 d us _ ≤ hi11 c ts _ by omega)]
  rfl
theorem rest_small {c : Int} {ts : List AR} (h : Small8 c ts) (s : ByteArray) : Small8 c (rest11 ts s) := by
  obtain ⟨h1, h2, h3, h4⟩ := h
  exact ⟨h1, List.Pairwise.filter _ h2, Nat.le_trans (rest11_len ts s) h3, fun t ht => h4 t ((List.mem_filter.1 ht).1)⟩
theorem rest_coef (s u : ByteArray) : ∀ (ts : List AR), coefA (rest11 ts s) u = if u = s then 0 else coefA ts u
  | [] => by simp [rest11, coefA]
  | t :: ts => by
    have ih := rest_coef s u ts
    by_cases e : t.s = s
    · have e1 : rest11 (t :: ts) s = rest11 ts s := by simp [rest11, e]
      rw [e1, ih, coefA]
      by_cases hu : u = s
      · rw [if_pos hu, if_pos hu]
      · rw [if_neg hu, if_neg hu, if_neg (fun e2 => hu (e2.symm.trans e))]
    · have e1 : rest11 (t :: ts) s = t :: rest11 ts s := by simp [rest11, e]
      rw [e1, coefA, coefA, ih]
      by_cases hu : t.s = u
      · rw [if_pos hu, if_pos hu, if_neg (fun e2 => e (hu.trans e2))]
      · rw [if_neg hu, if_neg hu]
theorem rest_val (c : Int) (ts : List AR) (x y u : Int) : val3 c (rest11 ts nI) x y u = val3 c ts x y u - coefA ts nI * x := by
  rw [val3, val3, rest_coef, rest_coef, rest_coef, if_pos rfl, if_neg nJI, if_neg nKI, Int.zero_mul]; omega
theorem same_may {c d : Int} {ts us : List AR} (hp : Small8 c ts) (hq : Small8 d us) {l0 h0 l1 h1 l2 h2 x x' : Int} (b0 : -1 ≤ l0 ∧ l0 ≤ 3 ∧ l0 ≤ h0 ∧ h0 ≤ l0 + 4) (b1 : -1 ≤ l1 ∧ l1 ≤ 3 ∧ l1 ≤ h1 ∧ h1 ≤ l1 + 4) (b2 : -1 ≤ l2 ∧ l2 ≤ 3 ∧ l2 ≤ h2 ∧ h2 ≤ l2 + 4)
    (hx : l0 ≤ x ∧ x ≤ h0) (hx' : l0 ≤ x' ∧ x' ≤ h0) (hne : x ≠ x') (h : Same3 c ts d us x x' l1 h1 l2 h2) : mayMeet11 c ts d us nI [⟨nI, l0, h0⟩, ⟨nJ, l1, h1⟩, ⟨nK, l2, h2⟩] = true := by
  rw [mayMeet11, same_gcd hp hq h, same_rng hp hq b0 b1 b2 hx hx' h, Bool.true_and, Bool.true_and]
  split
  · rfl
  · next hc =>
    have hc2 : coefA ts nI = coefA us nI := by
      simp only [Bool.or_eq_true, decide_eq_true_eq, Bool.not_eq_true', decide_eq_false_iff_not, not_or, Decidable.not_not] at hc
      exact hc.1.2
    obtain ⟨y, u, y', u', hy, hu, hy', hu', e⟩ := h
    obtain ⟨a1, a2, _⟩ := between3 (rest_small hp nI) b0 b1 b2 hx hy hu
    obtain ⟨c1, c2, _⟩ := between3 (rest_small hq nI) b0 b1 b2 hx' hy' hu'
    rw [rest_val] at a1 a2 c1 c2
    rw [← hc2] at c1 c2
    have er : rg9 [⟨nI, l0, h0⟩, ⟨nJ, l1, h1⟩, ⟨nK, l2, h2⟩] nI = ⟨nI, l0, h0⟩ := by simp [rg9]
    rw [er, times11, List.any_eq_true]
    generalize lo11 c (rest11 ts nI) _ = A at *
    generalize hi11 c (rest11 ts nI) _ = B at *
    generalize lo11 d (rest11 us nI) _ = C at *
    generalize hi11 d (rest11 us nI) _ = D at *
    generalize coefA ts nI = n at *
    have hm : n * (x - x') = n * x - n * x' := Int.mul_sub n x x'
    by_cases hlt : x' < x
    · refine ⟨(x - x' - 1).toNat, by simp only [List.mem_range]; omega, ?_⟩
      have e1 : (((x - x' - 1).toNat : Nat) : Int) + 1 = x - x' := by omega
      rw [e1, Bool.or_eq_true, inI11_iff]
      left; rw [hm]; omega
    · refine ⟨(x' - x - 1).toNat, by simp only [List.mem_range]; omega, ?_⟩
      have e1 : (((x' - x - 1).toNat : Nat) : Int) + 1 = x' - x := by omega
      have hm2 : n * (x' - x) = n * x' - n * x := Int.mul_sub n x' x
      rw [e1, Bool.or_eq_true, inI11_iff, inI11_iff]
      right; rw [hm2]; omega
end Go.Proofs.YtjdpddcnogdekaaGreat
