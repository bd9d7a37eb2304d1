/-
  The greatest that divides all numbers of two sums; GcdMeet of the specification.
-/
import Derived.Test.YtjdpddcnogdekaaMtRng
import Derived.Test.YtjdpddcnogdekaaGcd
import Derived.Test.YtjdpddcnogdekaaAffOkS
namespace Go.Proofs.Ytjdpddcnogdekaa
open Go.RowKit Go.Lib
set_option linter.unusedSimpArgs false
set_option linter.unusedVariables false

def gcdL11 (g : Int) : List AR → Int
  | [] => g
  | t :: ts => gcdL11 (gcdW g t.n) ts
theorem gcdL11_app (g : Int) : ∀ (a b : List AR), gcdL11 g (a ++ b) = gcdL11 (gcdL11 g a) b := by
  intro a
  induction a generalizing g with
  | nil => intro b; rfl
  | cons t ts ih => intro b; exact ih _ b
theorem gcdW_bd (a b : Int) : 0 ≤ gcdW a b ∧ gcdW a b ≤ 2147483648 := by
  unfold gcdW
  have ha := wrap32_bdW a
  have hb := wrap32_bdW b
  refine ⟨by omega, ?_⟩
  by_cases h : wrap32 a = 0
  · rw [h, Int.gcd_zero_left]; omega
  · have := Int.gcd_le_natAbs_left (wrap32 b) h
    omega
theorem gcdL11_bd : ∀ (l : List AR) (g : Int), 0 ≤ g ∧ g ≤ 2147483648 → 0 ≤ gcdL11 g l ∧ gcdL11 g l ≤ 2147483648
  | [], g, h => h
  | t :: ts, g, _ => gcdL11_bd ts _ (gcdW_bd g t.n)
def gcdMeet11 (c : Int) (ts : List AR) (d : Int) (us : List AR) : Bool :=
  affOk8 c ts && affOk8 d us && (if gcdL11 0 (ts ++ us) = 0 then decide (c = d) else decide ((c - d).tmod (gcdL11 0 (ts ++ us)) = 0))
theorem affOk_c {c : Int} {ts : List AR} (h : affOk8 c ts = true) : -100000 ≤ c ∧ c ≤ 100000 := by
  simp only [affOk8, inMax8, Bool.and_eq_true, decide_eq_true_eq] at h
  exact h.1
set_option maxHeartbeats 4000000 in
theorem spec_GcdMeet (c : Int) (ts : List AR) (hn : ts.length ≤ 1000000000) (hts : ∀ t ∈ ts, t.s.size ≤ 281474976710656) (d : Int) (us : List AR) (hn2 : us.length ≤ 1000000000) (hus : ∀ t ∈ us, t.s.size ≤ 281474976710656) (va vb : Value) (w : World) (ha : AV w 0 va ts) (hb : AV w 0 vb us) (v : Bool) (hv : gcdMeet11 c ts d us = v) :
    Calls Try.prog 14 #[.agg #[.int .i64 c, va], .agg #[.int .i64 d, vb]] w fun e w' => e = .returned (.bool v) ∧ Below w.heap.size w w' := by
  have T0 := Lib.hid (Two11.start w c d 26 ha hb (RV.nil11 w))
  have HB := Lib.hid (And.intro hts hus)
  obtain ⟨a1, c1, rfl⟩ := ha.shape
  obtain ⟨a2, c2, rfl⟩ := hb.shape
  clear ha hb hts hus
  cases ho : affOk8 c ts with
  | false =>
    have R : Hid (v = false) := show v = false by rw [← hv, gcdMeet11, ho]; rfl
    have HO := Lib.hid ho
    clear ho hv
    go_enter Try.func14, Try.ntmps14
    go_wp2_with fail
    refine (spec_AffOk c ts hn HB.out.1 _ _ T0.out.a1 false HO.out).mono ?_
    rintro e w1 ⟨rfl, hb1⟩
    have T1 := Lib.hid (T0.out.later hb1)
    clear hb1 T0
    go_wp2
    go_ret
    exact ⟨by rw [R.out]; rfl, T1.out.low⟩
  | true =>
    have HO := Lib.hid ho
    cases ho2 : affOk8 d us with
    | false =>
      have R : Hid (v = false) := show v = false by rw [← hv, gcdMeet11, ho, ho2]; rfl
      have HO2 := Lib.hid ho2
      clear ho ho2 hv
      go_enter Try.func14, Try.ntmps14
      go_wp2_with fail
      refine (spec_AffOk c ts hn HB.out.1 _ _ T0.out.a1 true HO.out).mono ?_
      rintro e w1 ⟨rfl, hb1⟩
      have T1 := Lib.hid (T0.out.later hb1)
      clear hb1 T0
      obtain ⟨D0, D1⟩ := And.intro (cellC11 T1.out.r2) (cellT11 T1.out.r2)
      go_wp2_with fail
      refine (spec_AffOk d us hn2 HB.out.2 _ _ T1.out.a2 false HO2.out).mono ?_
      rintro e w2 ⟨rfl, hb1⟩
      have T2 := Lib.hid (T1.out.later hb1)
      clear hb1 T1 D0 D1
      go_wp2
      go_ret
      exact ⟨by rw [R.out]; rfl, T2.out.low⟩
    | true =>
      obtain ⟨N, hN⟩ : ∃ N, gcdL11 0 (ts ++ us) = N := ⟨_, rfl⟩
      have R : Hid (v = (if N = 0 then decide (c = d) else decide ((c - d).tmod N = 0))) := show v = _ by rw [← hv, gcdMeet11, ho, ho2, hN]; rfl
      have HN : Hid (gcdL11 (gcdL11 0 ts) us = N) := show _ = _ by rw [← gcdL11_app, hN]
      have HO2 := Lib.hid ho2
      have hcb := affOk_c ho
      have hdb := affOk_c ho2
      have hNb : 0 ≤ N ∧ N ≤ 2147483648 := by rw [← hN]; exact gcdL11_bd _ _ (by omega)
      have HNb := Lib.hid hNb
      have HCD := Lib.hid (And.intro hcb hdb)
      clear ho ho2 hv hN hNb hcb hdb
      go_enter Try.func14, Try.ntmps14
      go_wp2_with fail
      refine (spec_AffOk c ts hn HB.out.1 _ _ T0.out.a1 true HO.out).mono ?_
      rintro e w1 ⟨rfl, hb1⟩
      have T1 := Lib.hid (T0.out.later hb1)
      clear hb1 T0
      obtain ⟨D0, D1⟩ := And.intro (cellC11 T1.out.r2) (cellT11 T1.out.r2)
      go_wp2_with fail
      refine (spec_AffOk d us hn2 HB.out.2 _ _ T1.out.a2 true HO2.out).mono ?_
      rintro e w2 ⟨rfl, hb1⟩
      have T2 := Lib.hid (T1.out.later hb1)
      clear hb1 T1 D0 D1
      have C1 := cellT11 T2.out.r1
      have C2 := cellT11 T2.out.r2
      have C0 := cellC11 T2.out.r1
      have D0 := cellC11 T2.out.r2
      go_wp2
      go_loop [5, 6] (fun g i => ∃ (G : Int) (k : Nat), k ≤ ts.length ∧ g = .int .i64 G ∧ i = .int .i64 k ∧ Hid (gcdL11 0 ts = gcdL11 G (ts.drop k))) (fun _ i => ts.length - (RowKit.intOf i).toNat)
      case atStart => exact ⟨0, 0, by omega, rfl, rfl, (by show _ = _; rw [List.drop_zero])⟩
      case round =>
        obtain ⟨G, k, hk, rfl, rfl, hg⟩ := hrel
        by_cases hlt : k < ts.length
        · have hltI : (k : Int) < (ts.length : Int) := by omega
          obtain ⟨t, ht⟩ : ∃ t, ts[k]? = some t := ⟨ts[k], List.getElem?_eq_getElem hlt⟩
          obtain ⟨ao, cap, e, hr⟩ := T2.out.a1
          injection e with e1 e2 e3
          subst e1; subst e3
          rcases hr with hr | ⟨q, off, rfl, _, gl, hc⟩
          · subst hr; simp at hlt
          have A1 := (hc k t ht).2
          have hg2 : Hid (gcdL11 0 ts = gcdL11 (gcdW G t.n) (ts.drop (k + 1))) := show _ = _ by rw [hg.out, drop8 ht, gcdL11]
          clear hc ht
          go_wp2_with (go_at_call 39; refine (spec_Gcd _ _ _).mono ?_; rintro e w' ⟨rfl, rfl⟩)
          go_round
          case rel => exact ⟨_, k + 1, by omega, rfl, by go_num, hg2.out⟩
          case measure => simp [RowKit.intOf]; omega
        · have hg2 : Hid (gcdL11 0 ts = G) := show _ = _ by rw [hg.out, List.drop_of_length_le (by omega), gcdL11]
          clear hg
          have hkI : ¬ (k : Int) < (ts.length : Int) := by omega
          go_wp2
          go_loop [5, 7] (fun g i => ∃ (G : Int) (k : Nat), k ≤ us.length ∧ g = .int .i64 G ∧ i = .int .i64 k ∧ Hid (N = gcdL11 G (us.drop k))) (fun _ i => us.length - (RowKit.intOf i).toNat)
          case atStart => exact ⟨G, 0, by omega, rfl, rfl, (by show _ = _; rw [List.drop_zero, ← HN.out, hg2.out])⟩
          case round =>
            obtain ⟨G, k, hk, rfl, rfl, hg⟩ := hrel
            by_cases hlt : k < us.length
            · have hltI : (k : Int) < (us.length : Int) := by omega
              obtain ⟨t, ht⟩ : ∃ t, us[k]? = some t := ⟨us[k], List.getElem?_eq_getElem hlt⟩
              obtain ⟨ao, cap, e, hr⟩ := T2.out.a2
              injection e with e1 e2 e3
              subst e1; subst e3
              rcases hr with hr | ⟨q, off, rfl, _, gl, hc⟩
              · subst hr; simp at hlt
              have A1 := (hc k t ht).2
              have hg2 : Hid (N = gcdL11 (gcdW G t.n) (us.drop (k + 1))) := show _ = _ by rw [hg.out, drop8 ht, gcdL11]
              clear hc ht
              go_wp2_with (go_at_call 39; refine (spec_Gcd _ _ _).mono ?_; rintro e w' ⟨rfl, rfl⟩)
              go_round
              case rel => exact ⟨_, k + 1, by omega, rfl, by go_num, hg2.out⟩
              case measure => simp [RowKit.intOf]; omega
            · have hg2 : Hid (N = G) := show _ = _ by rw [hg.out, List.drop_of_length_le (by omega), gcdL11]
              clear hg
              obtain rfl := hg2.out
              by_cases h0 : N = 0
              · have R2 : Hid (v = decide (c = d)) := show _ = _ by rw [R.out, if_pos h0]
                clear R HNb HN
                subst h0
                by_cases hcd : c = d
                · subst hcd
                  go_wp2
                  go_ret
                  exact ⟨ret_bool (by rw [R2.out]; simp), T2.out.low⟩
                · have hcf : (c == d) = false := by simp [hcd]
                  go_wp2
                  go_ret
                  exact ⟨ret_bool (by rw [R2.out]; simp [hcd]), T2.out.low⟩
              · have R2 : Hid (v = decide ((c - d).tmod N = 0)) := show _ = _ by rw [R.out, if_neg h0]
                have h0f : (N == 0) = false := by simp [h0]
                have hw1 : wrap64 (c - d) = c - d := by have := HCD.out; unfold wrap64; omega
                have hw2 : wrap64 ((c - d).tmod N) = (c - d).tmod N := by
                  have := tmod_lt (c - d) N h0; have := HNb.out; unfold wrap64; omega
                clear R HN
                by_cases hcd : (c - d).tmod N = 0
                · go_wp2
                  go_ret
                  exact ⟨ret_bool (by rw [R2.out]; simp [hcd]), T2.out.low⟩
                · have hcf : ((c - d).tmod N == 0) = false := by simp [hcd]
                  go_wp2
                  go_ret
                  exact ⟨ret_bool (by rw [R2.out]; simp [hcd]), T2.out.low⟩
end Go.Proofs.Ytjdpddcnogdekaa
