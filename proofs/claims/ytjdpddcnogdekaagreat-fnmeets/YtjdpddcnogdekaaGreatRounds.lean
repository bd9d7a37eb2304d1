/-
  Rounds, the landed code's and the specification's.
-/
import Derived.Test.YtjdpddcnogdekaaGreatBoxOkS
namespace Go.Proofs.YtjdpddcnogdekaaGreat
open Go.RowKit Go.Lib Go.Shelf
set_option linter.unusedSimpArgs false
set_option linter.unusedVariables false

/-- How many ways there are, no more than a million. -/
def lim9 (n : Int) : Int := if 1000000 < n then 1000000 else n
def ways9 : Int → List RG → Int
  | a, [] => a
  | a, t :: r => ways9 (lim9 (a * (t.hi - t.lo + 1))) r
def rounds9 (rs : List RG) : Int := if waysOk9 rs = true then ways9 1 rs else 0
/-- Each has one way at least, and not too many. -/
def Fit9 (rs : List RG) : Prop := ∀ t ∈ rs, 1 ≤ t.hi - t.lo + 1 ∧ t.hi - t.lo + 1 ≤ 20001 ∧ -10000 ≤ t.lo ∧ t.lo ≤ 10000 ∧ -10000 ≤ t.hi ∧ t.hi ≤ 10000
theorem boxGo9_all {rs : List RG} : ∀ (n k : Nat), k + n = rs.length → boxGo9 rs k n = true → ∀ i t, k ≤ i → rs[i]? = some t → inEnd9 t.lo = true ∧ inEnd9 t.hi = true
  | 0, k, hn, _, i, t, hi, h => by have := (List.getElem?_eq_some_iff.1 h).1; omega
  | n + 1, k, hn, hb, i, t, hi, h => by
    obtain ⟨u, hu⟩ : ∃ u, rs[k]? = some u := ⟨rs[k]'(by omega), List.getElem?_eq_getElem (by omega)⟩
    simp only [boxGo9, hu, Bool.and_eq_true] at hb
    rcases Nat.lt_or_ge k i with h1 | h1
    · exact boxGo9_all n (k + 1) (by omega) hb.2 i t (by omega) h
    · have : i = k := by omega
      subst this
      rw [hu] at h; cases h
      have := hb.1
      simp only [rgOk9, Bool.and_eq_true] at this
      exact ⟨this.1.1.2, this.1.2⟩
theorem fit_of {rs : List RG} (h : waysOk9 rs = true) : Fit9 rs := by
  intro t ht
  obtain ⟨i, hi⟩ := List.getElem?_of_mem ht
  simp only [waysOk9, boxOk9, Bool.and_eq_true, Bool.not_eq_true', List.any_eq_false] at h
  have h1 := boxGo9_all rs.length 0 (by omega) h.1.2 i t (Nat.zero_le _) hi
  have h2 := h.2 t ht
  simp [inEnd9] at h1 h2
  omega
theorem ways9_full : ∀ (rs : List RG), Fit9 rs → ways9 1000000 rs = 1000000
  | [], _ => rfl
  | t :: r, h => by
    have := (h t (by simp)).1
    rw [ways9, show lim9 (1000000 * (t.hi - t.lo + 1)) = (1000000 : Int) by unfold lim9; split <;> omega]
    exact ways9_full r (fun u hu => h u (by simp [hu]))
theorem mulb9 {a f : Int} (h1 : 1 ≤ a) (h2 : a ≤ 1000000) (h3 : 1 ≤ f) (h4 : f ≤ 20001) : 1 ≤ a * f ∧ a * f ≤ 20001000000 := by
  constructor
  · exact Int.mul_le_mul h1 h3 (by omega) (by omega)
  · exact Int.mul_le_mul h2 h4 (by omega) (by omega)
set_option maxHeartbeats 2000000 in
set_option maxRecDepth 100000 in
theorem impl_Rounds (rs : List RG) (hn : rs.length ≤ 1000000000) (va : Value) (w : World) (ha : RV w 0 va rs) :
    Calls Tryz.prog 61 #[va] w fun e w' => e = .returned (.int .i64 (rounds9 rs)) ∧ Below w.heap.size w w' := by
  obtain ⟨ao, cap, rfl, hcap⟩ := id ha
  have HR := Lib.hid ha
  have Hr := Lib.hid hcap.2
  clear ha hcap
  cases hw : waysOk9 rs with
  | false =>
    have R : Hid (rounds9 rs = 0) := show rounds9 rs = 0 by rw [rounds9, if_neg (by simp [hw])]
    have HW := Lib.hid hw
    clear hw
    go_enter Tryz.func61, Tryz.ntmps61
    go_wp2_with fail
    refine (hasWays_is rs hn _ _ HR.out false HW.out).mono ?_
    rintro e w1 ⟨rfl, hb1⟩
    have B1 := Lib.hid hb1
    clear hb1
    go_wp2
    go_ret
    exact retI R.out.symm B1.out
  | true =>
    have R : Hid (rounds9 rs = ways9 1 rs) := show rounds9 rs = ways9 1 rs by rw [rounds9, if_pos hw]
    have HW := Lib.hid hw
    have HF := Lib.hid (fit_of hw)
    clear hw
    go_enter Tryz.func61, Tryz.ntmps61
    go_wp2_with fail
    refine (hasWays_is rs hn _ _ HR.out true HW.out).mono ?_
    rintro e w1 ⟨rfl, hb1⟩
    have B1 := Lib.hid hb1
    clear hb1
    go_wp2
    go_loopw [3, 11] (fun x i wr => ∃ (k : Nat) (a : Int), k ≤ rs.length ∧ i = .int .i64 k ∧ x = .int .i64 a ∧ 1 ≤ a ∧ a ≤ 1000000 ∧ Hid (ways9 1 rs = ways9 a (rs.drop k)) ∧ Hid (Below w.heap.size w wr)) (fun _ i _ => rs.length - (RowKit.intOf i).toNat)
    case atStart => exact ⟨0, 1, by omega, rfl, rfl, by omega, by omega, rfl, B1⟩
    case round =>
      obtain ⟨k, a, hk, rfl, rfl, ha1, ha2, hg, HB⟩ := hrel
      by_cases hlt : k < rs.length
      · have hltI : (k : Int) < (rs.length : Int) := by omega
        obtain ⟨t, ht⟩ : ∃ t, rs[k]? = some t := ⟨rs[k], List.getElem?_eq_getElem hlt⟩
        rcases Hr.out with hr | ⟨g, off, rfl, _, gl, hc⟩
        · subst hr; simp at hlt
        have A0 := (HB.out.cell (p := ⟨g, off + k * 3, Option.none⟩) gl).trans (hc k t ht).1
        have A1 := (HB.out.cell (p := ⟨g, off + k * 3 + 1, Option.none⟩) gl).trans (hc k t ht).2.1
        have A2 := (HB.out.cell (p := ⟨g, off + k * 3 + 2, Option.none⟩) gl).trans (hc k t ht).2.2
        obtain ⟨f1, f2, f3, f4, f5, f6⟩ := HF.out t (List.mem_of_getElem? ht)
        obtain ⟨m1, m2⟩ := mulb9 ha1 ha2 f1 f2
        have RX : Hid (ways9 1 rs = ways9 (lim9 (a * (t.hi - t.lo + 1))) (rs.drop (k + 1))) := by show ways9 1 rs = _; rw [hg.out, drop9 ht]; rfl
        have HB2 := Lib.hid (HB.out.trans ((alloc_below wr (.cells #[.string t.s, .int .i64 t.lo, .int .i64 t.hi] 32)).mono HB.out.size))
        have mm : 1 ≤ lim9 (a * (t.hi - t.lo + 1)) ∧ lim9 (a * (t.hi - t.lo + 1)) ≤ 1000000 := by unfold lim9; split <;> omega
        have MM := Lib.hid mm
        clear hc ht mm
        go_wp2
        go_roundw
        case rel => exact ⟨k + 1, _, by omega, by go_num, rfl, MM.out.1, MM.out.2, RX.out, HB2.out⟩
        case measure => simp [RowKit.intOf]; omega
      · have R2 : Hid (rounds9 rs = a) := by show rounds9 rs = a; rw [R.out, hg.out, List.drop_of_length_le (by omega)]; rfl
        go_wp2
        go_ret
        exact retI R2.out.symm HB.out
theorem lim9_small {n : Int} (h : n < 1000000) : lim9 n = n := by unfold lim9; split <;> omega
theorem lim9_big {n : Int} (h : ¬ n < 1000000) : lim9 n = 1000000 := by unfold lim9; split <;> omega
set_option maxHeartbeats 2000000 in
set_option maxRecDepth 100000 in
theorem spec_Rounds (rs : List RG) (hn : rs.length ≤ 1000000000) (hts : ∀ t ∈ rs, t.s.size ≤ 281474976710656) (va : Value) (w : World) (ha : RV w 0 va rs) :
    Calls Tryz.prog 55 #[va] w fun e w' => e = .returned (.int .i64 (rounds9 rs)) ∧ Below w.heap.size w w' := by
  obtain ⟨ao, cap, rfl, hcap⟩ := id ha
  have HR := Lib.hid ha
  have Hr := Lib.hid hcap.2
  have Hts := Lib.hid hts
  clear ha hcap hts
  cases hw : waysOk9 rs with
  | false =>
    have R : Hid (rounds9 rs = 0) := show rounds9 rs = 0 by rw [rounds9, if_neg (by simp [hw])]
    have HW := Lib.hid hw
    clear hw
    go_enter Tryz.func55, Tryz.ntmps55
    go_wp2_with fail
    refine (l9Full_is rs hn Hts.out _ _ HR.out false HW.out).mono ?_
    rintro e w1 ⟨rfl, hb1⟩
    have B1 := Lib.hid hb1
    clear hb1
    go_wp2
    go_ret
    exact retI R.out.symm B1.out
  | true =>
    have R : Hid (rounds9 rs = ways9 1 rs) := show rounds9 rs = ways9 1 rs by rw [rounds9, if_pos hw]
    have HW := Lib.hid hw
    have HF := Lib.hid (fit_of hw)
    clear hw
    go_enter Tryz.func55, Tryz.ntmps55
    go_wp2_with fail
    refine (l9Full_is rs hn Hts.out _ _ HR.out true HW.out).mono ?_
    rintro e w1 ⟨rfl, hb1⟩
    have B1 := Lib.hid hb1
    clear hb1
    go_wp2
    go_loopw [3, 4] (fun x i wr => ∃ (k : Nat) (a : Int), k ≤ rs.length ∧ i = .int .i64 k ∧ x = .int .i64 a ∧ 1 ≤ a ∧ a ≤ 20001000000 ∧ Hid (ways9 1 rs = ways9 (lim9 a) (rs.drop k)) ∧ Hid (Below w.heap.size w wr)) (fun _ i _ => rs.length - (RowKit.intOf i).toNat)
    case atStart => exact ⟨0, 1, by omega, rfl, rfl, by omega, by omega, rfl, B1⟩
    case round =>
      obtain ⟨k, a, hk, rfl, rfl, ha1, ha2, hg, HB⟩ := hrel
      by_cases hlt : k < rs.length
      · have hltI : (k : Int) < (rs.length : Int) := by omega
        by_cases hsm : a < 1000000
        · obtain ⟨t, ht⟩ : ∃ t, rs[k]? = some t := ⟨rs[k], List.getElem?_eq_getElem hlt⟩
          rcases Hr.out with hr | ⟨g, off, rfl, _, gl, hc⟩
          · subst hr; simp at hlt
          have A1 := (HB.out.cell (p := ⟨g, off + k * 3 + 1, Option.none⟩) gl).trans (hc k t ht).2.1
          have A2 := (HB.out.cell (p := ⟨g, off + k * 3 + 2, Option.none⟩) gl).trans (hc k t ht).2.2
          obtain ⟨f1, f2, f3, f4, f5, f6⟩ := HF.out t (List.mem_of_getElem? ht)
          obtain ⟨m1, m2⟩ := mulb9 ha1 (by omega : a ≤ 1000000) f1 f2
          have RX : Hid (ways9 1 rs = ways9 (lim9 (a * (t.hi - t.lo + 1))) (rs.drop (k + 1))) := by show ways9 1 rs = _; rw [hg.out, drop9 ht, lim9_small hsm]; rfl
          have e1 : IntKind.i64.wrap (t.hi - t.lo) = t.hi - t.lo := by rw [IntKind.wrap_i64]; omega
          have e2 : IntKind.i64.wrap (t.hi - t.lo + 1) = t.hi - t.lo + 1 := by rw [IntKind.wrap_i64]; omega
          have e3 : IntKind.i64.wrap (a * (t.hi - t.lo + 1)) = a * (t.hi - t.lo + 1) := by rw [IntKind.wrap_i64]; omega
          have E3 : Hid (∀ x : Int, x = a * (t.hi - t.lo + 1) → 1 ≤ x ∧ x ≤ 20001000000) := fun x hx => by rw [hx]; exact ⟨m1, m2⟩
          have hkw : IntKind.i64.wrap (k : Int) = (k : Int) := wrap_small _ (by omega) (by omega)
          clear hc ht m1 m2
          go_wp2_with fail
          go_quiet (fail)
          go_wp2
          go_roundw
          case rel => exact ⟨k + 1, a * (t.hi - t.lo + 1), by omega, by go_num, rfl, (E3.out _ rfl).1, (E3.out _ rfl).2, RX.out, belowD9 HB.out _⟩
          case measure => simp [RowKit.intOf]; omega
        · have R2 : Hid (rounds9 rs = 1000000) := by show rounds9 rs = _; rw [R.out, hg.out, lim9_big hsm]; exact ways9_full _ (fun t ht => HF.out t (List.mem_of_mem_drop ht))
          by_cases hb : 1000000 < a
          · go_wp2
            go_ret
            exact retI R2.out.symm HB.out
          · obtain rfl : a = 1000000 := by omega
            go_wp2
            go_ret
            exact retI R2.out.symm HB.out
      · have R2 : Hid (rounds9 rs = lim9 a) := by show rounds9 rs = lim9 a; rw [R.out, hg.out, List.drop_of_length_le (by omega)]; rfl
        by_cases hb : 1000000 < a
        · have R3 : Hid (rounds9 rs = 1000000) := by show rounds9 rs = _; rw [R2.out, lim9_big (by omega)]
          go_wp2
          go_ret
          exact retI R3.out.symm HB.out
        · have R3 : Hid (rounds9 rs = a) := by show rounds9 rs = _; rw [R2.out]; unfold lim9; rw [if_neg hb]
          go_wp2
          go_ret
          exact retI R3.out.symm HB.out
end Go.Proofs.YtjdpddcnogdekaaGreat
