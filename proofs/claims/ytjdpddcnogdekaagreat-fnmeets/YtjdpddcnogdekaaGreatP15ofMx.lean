/-
  Texts in one: EndPlain, AffCoef.
-/
import Derived.Test.YtjdpddcnogdekaaGreatP14ofMx
import Derived.Test.YtjdpddcnogdekaaGreatRounds
import Derived.Test.YtjdpddcnogdekaaGreatP05ofMx
/-
  The least and the most of a straight sum, plainly: name by name, and range by range.
-/
namespace Go.Proofs.YtjdpddcnogdekaaGreat
open Go.RowKit Go.Lib
set_option linter.unusedSimpArgs false
set_option linter.unusedVariables false

/-- The range of a name. -/
def rg9 (rs : List RG) (s : ByteArray) : RG := (rs.find? fun r => decide (r.s = s)).getD ⟨⟨#[]⟩, 0, 0⟩
/-- What n times a range is at its end. -/
def end9 (most : Bool) (n : Int) (r : RG) : Int := n * (if (decide (n > 0) == most) = true then r.hi else r.lo)
def pick9 (most : Bool) (a b : Int) : Int := match most with | true => max a b | false => min a b
def sumT9 (most : Bool) (rs : List RG) : List AR → Int
  | [] => 0
  | t :: ts => end9 most t.n (rg9 rs t.s) + sumT9 most rs ts
def sumR9 (most : Bool) (ts : List AR) : List RG → Int
  | [] => 0
  | r :: rs => end9 most (coefA ts r.s) r + sumR9 most ts rs
theorem end9_zero (most : Bool) (r : RG) : end9 most 0 r = 0 := by simp [end9]
theorem pick9_end (most : Bool) (n : Int) (r : RG) (h : r.lo ≤ r.hi) : pick9 most (n * r.lo) (n * r.hi) = end9 most n r := by
  unfold pick9 end9
  rcases Int.lt_trichotomy n 0 with hn | hn | hn
  · have hm : n * r.hi ≤ n * r.lo := Int.mul_le_mul_of_nonpos_left (by omega) h
    have hd : decide (n > 0) = false := decide_eq_false (by omega)
    cases most
    · simp [hd]; omega
    · simp [hd]; omega
  · subst hn; cases most <;> simp
  · have hm : n * r.lo ≤ n * r.hi := Int.mul_le_mul_of_nonneg_left h (by omega)
    have hd : decide (n > 0) = true := decide_eq_true hn
    cases most
    · simp [hd]; omega
    · simp [hd]; omega
def Dist9 (rs : List RG) : Prop := rs.Pairwise fun a b => ¬ a.s = b.s
theorem sumR9_nil (most : Bool) : ∀ rs, sumR9 most [] rs = 0
  | [] => rfl
  | r :: rs => by rw [sumR9, sumR9_nil most rs, coefA, end9_zero]; rfl
theorem sumR9_off (most : Bool) (t : AR) (ts : List AR) : ∀ (rs : List RG), (∀ r ∈ rs, ¬ r.s = t.s) → sumR9 most (t :: ts) rs = sumR9 most ts rs
  | [], _ => rfl
  | r :: rs, h => by
    have h1 : ¬ t.s = r.s := fun e => h r (by simp) e.symm
    rw [sumR9, sumR9, sumR9_off most t ts rs (fun u hu => h u (by simp [hu])), coefA, if_neg h1]
theorem sumR9_cons (most : Bool) (t : AR) (ts : List AR) (h0 : coefA ts t.s = 0) : ∀ (rs : List RG), Dist9 rs → hasR9 rs t.s = true → sumR9 most (t :: ts) rs = end9 most t.n (rg9 rs t.s) + sumR9 most ts rs
  | [], _, h => by simp [hasR9] at h
  | r :: rs, hd, h => by
    have hp := List.pairwise_cons.1 hd
    by_cases e : r.s = t.s
    · have h2 : ∀ u ∈ rs, ¬ u.s = t.s := fun u hu e2 => hp.1 u hu (e.trans e2.symm)
      have h3 : rg9 (r :: rs) t.s = r := by simp [rg9, List.find?_cons, e]
      rw [sumR9, sumR9, sumR9_off most t ts rs h2, h3, coefA, if_pos e.symm, e, h0, end9_zero]
      omega
    · have h3 : rg9 (r :: rs) t.s = rg9 rs t.s := by simp [rg9, List.find?_cons, e]
      have h4 : hasR9 rs t.s = true := by simpa [hasR9, e] using h
      have h5 : ¬ t.s = r.s := fun e2 => e e2.symm
      rw [sumR9, sumR9, sumR9_cons most t ts h0 rs hp.2 h4, h3, coefA, if_neg h5]
      omega
theorem coefA_none (s : ByteArray) : ∀ (ts : List AR), (∀ t ∈ ts, ¬ t.s = s) → coefA ts s = 0
  | [], _ => rfl
  | t :: ts, h => by rw [coefA, if_neg (h t (by simp)), coefA_none s ts (fun u hu => h u (by simp [hu]))]
theorem okFrom8_later : ∀ (ts : List AR) (p : ByteArray), okFrom8 (some p) ts = true → ∀ t ∈ ts, blt p t.s = true
  | [], _, _, _, h => by simp at h
  | u :: ts, p, h, t, ht => by
    rw [okFrom8, Bool.and_eq_true] at h
    have h1 : blt p u.s = true := by have := h.1; simp only [termOk8, ltPrev8, Bool.and_eq_true] at this; exact this.2
    rcases List.mem_cons.1 ht with rfl | ht
    · exact h1
    · exact blt_trans h1 (okFrom8_later ts u.s h.2 t ht)
theorem sum_swap9 (most : Bool) (rs : List RG) (hd : Dist9 rs) : ∀ (p : Option ByteArray) (ts : List AR), okFrom8 p ts = true → ts.all (fun t => hasR9 rs t.s) = true → sumR9 most ts rs = sumT9 most rs ts
  | _, [], _, _ => sumR9_nil most rs
  | p, t :: ts, h, ha => by
    rw [okFrom8, Bool.and_eq_true] at h
    rw [List.all_cons, Bool.and_eq_true] at ha
    have h0 : coefA ts t.s = 0 := coefA_none _ _ (fun u hu e => by
      have := okFrom8_later ts t.s h.2 u hu
      rw [e, blt_irrefl] at this; cases this)
    rw [sumR9_cons most t ts h0 rs hd ha.1, sumT9, sum_swap9 most rs hd (some t.s) ts h.2 ha.2]
theorem dist_of {rs : List RG} (h : waysOk9 rs = true) : Dist9 rs := by
  simp only [waysOk9, boxOk9, Bool.and_eq_true] at h
  have hb := h.1.2
  have key : ∀ (n k : Nat), k + n = rs.length → boxGo9 rs k n = true → ∀ i t, k ≤ i → rs[i]? = some t → hasR9 (rs.take i) t.s = false := by
    intro n
    induction n with
    | zero => intro k hn _ i t hi h; have := (List.getElem?_eq_some_iff.1 h).1; omega
    | succ n ih =>
      intro k hn hg i t hi h
      obtain ⟨u, hu⟩ : ∃ u, rs[k]? = some u := ⟨rs[k]'(by omega), List.getElem?_eq_getElem (by omega)⟩
      simp only [boxGo9, hu, Bool.and_eq_true] at hg
      rcases Nat.lt_or_ge k i with h1 | h1
      · exact ih (k + 1) (by omega) hg.2 i t (by omega) h
      · have : i = k := by omega
        subst this
        rw [hu] at h; cases h
        have := hg.1
        simp only [rgOk9, Bool.and_eq_true] at this
        simpa using this.2
  have K := key rs.length 0 (by omega) hb
  refine List.pairwise_iff_getElem.2 (fun i j hi hj hij e => ?_)
  have := K j rs[j] (Nat.zero_le _) (List.getElem?_eq_getElem hj)
  simp only [hasR9, List.any_eq_false, decide_eq_true_eq] at this
  exact this rs[i] (List.mem_iff_getElem.2 ⟨i, by rw [List.length_take]; omega, by simp⟩) e
/-- The least, or the most. -/
def far9 (most : Bool) (c : Int) (ts : List AR) (rs : List RG) : Option Int := if (affOk8 c ts && waysOk9 rs && ts.all fun t => hasR9 rs t.s) = true then some (IntKind.i64.wrap (c + sumT9 most rs ts)) else none
theorem wrap_add9 (a b : Int) : IntKind.i64.wrap (IntKind.i64.wrap a + b) = IntKind.i64.wrap (a + b) := by simp only [IntKind.wrap_i64]; omega
theorem wrapE9 (x : Int) : IntKind.i64.wrap x = wrap64 x := by rw [IntKind.wrap_i64]; unfold wrap64; omega
def farR9 (o : Option Int) : Ending := .returned (.tuple #[.int .i64 (o.getD 0), .bool o.isSome])
end Go.Proofs.YtjdpddcnogdekaaGreat
/-
  The contracts of CoefOf, the landed code's and the specification's.
-/
namespace Go.Proofs.YtjdpddcnogdekaaGreat
open Go.RowKit Go.Lib
set_option linter.unusedSimpArgs false
set_option linter.unusedVariables false

set_option maxHeartbeats 1000000 in
theorem impl_CoefOf (c : Int) (ts : List AR) (hn : ts.length ≤ 1000000000) (s : ByteArray) (va : Value) (w : World) (ha : AV w 0 va ts) :
    Calls Tryz.prog 28 #[.agg #[.int .i64 c, va], .string s] w fun e w' => e = .returned (.int .i64 (coefA ts s)) ∧ Below w.heap.size w w' := by
  obtain ⟨ao, cap, rfl, hr⟩ := ha
  have Hr := Lib.hid hr
  clear hr
  have hc1 : (w.alloc (.cells #[.int .i64 c, .slice ao ts.length cap] 26)).cell? ⟨w.heap.size, 1, Option.none⟩ = some (.slice ao ts.length cap) := box_cell (Below.refl _ _) rfl
  have B := Lib.hid (alloc_below w (.cells #[.int .i64 c, .slice ao ts.length cap] 26))
  go_enter Tryz.func28, Tryz.ntmps28
  go_wp2
  go_loopw [10] (fun i wr => ∃ k : Nat, k ≤ ts.length ∧ i = .int .i64 k ∧ Hid (coefA ts s = coefA (ts.drop k) s) ∧ Below w.heap.size w wr) (fun i _ => ts.length - (RowKit.intOf i).toNat)
  case atStart => exact ⟨0, by omega, rfl, (by show coefA ts s = coefA (ts.drop 0) s; rw [List.drop_zero]), B.out⟩
  case round =>
    obtain ⟨k, hk, rfl, hg, hbr⟩ := hrel
    by_cases hlt : k < ts.length
    · have hltI : (k : Int) < (ts.length : Int) := by omega
      obtain ⟨t, ht⟩ : ∃ t, ts[k]? = some t := ⟨ts[k], List.getElem?_eq_getElem hlt⟩
      rcases Hr.out with hr | ⟨g, off, rfl, _, gl, hc⟩
      · subst hr; simp at hlt
      have A0 := (hbr.cell (p := ⟨g, off + k * 2, Option.none⟩) gl).trans (hc k t ht).1
      have A1 := (hbr.cell (p := ⟨g, off + k * 2 + 1, Option.none⟩) gl).trans (hc k t ht).2
      have hd : Hid (ts.drop k = t :: ts.drop (k + 1)) := drop8 ht
      clear hc ht Hr hc1
      have HB := Lib.hid (fun o : Obj => hbr.alloc hbr.size o)
      clear hbr
      by_cases he : t.s = s
      · have he2 : Hid (coefA ts s = t.n) := by show coefA ts s = t.n; rw [hg.out, hd.out, coefA, if_pos he]
        subst he
        go_wp2
        go_ret
        exact retI he2.out.symm (HB.out _)
      · have he2 : Hid (coefA ts s = coefA (ts.drop (k + 1)) s) := by show coefA ts s = _; rw [hg.out, hd.out, coefA, if_neg he]
        have hne := str_ne he
        go_wp2
        go_roundw
        case rel => exact ⟨k + 1, by omega, by go_num, he2.out, HB.out _⟩
        case measure => simp [RowKit.intOf]; omega
    · have he2 : Hid (coefA ts s = 0) := by show coefA ts s = 0; rw [hg.out, List.drop_of_length_le (by omega)]; rfl
      go_wp2
      go_ret
      exact retI he2.out.symm hbr
set_option maxHeartbeats 1000000 in
theorem spec_CoefOf (c : Int) (ts : List AR) (hn : ts.length ≤ 1000000000) (s : ByteArray) (va : Value) (w : World) (ha : AV w 0 va ts) :
    Calls Tryz.prog 33 #[.agg #[.int .i64 c, va], .string s] w fun e w' => e = .returned (.int .i64 (coefA ts s)) ∧ w' = w.alloc (.cells #[.int .i64 c, va] 26) := by
  obtain ⟨ao, cap, rfl, hr⟩ := ha
  have Hr := Lib.hid hr
  clear hr
  have hc1 : (w.alloc (.cells #[.int .i64 c, .slice ao ts.length cap] 26)).cell? ⟨w.heap.size, 1, Option.none⟩ = some (.slice ao ts.length cap) := box_cell (Below.refl _ _) rfl
  have B := Lib.hid (alloc_below w (.cells #[.int .i64 c, .slice ao ts.length cap] 26))
  go_enter Tryz.func33, Tryz.ntmps33
  go_wp2
  go_loop [5] (fun i => ∃ k : Nat, k ≤ ts.length ∧ i = .int .i64 k ∧ Hid (coefA ts s = coefA (ts.drop k) s)) (fun i => ts.length - (RowKit.intOf i).toNat)
  case atStart => exact ⟨0, by omega, rfl, (by show coefA ts s = coefA (ts.drop 0) s; rw [List.drop_zero])⟩
  case round =>
    obtain ⟨k, hk, rfl, hg⟩ := hrel
    by_cases hlt : k < ts.length
    · have hltI : (k : Int) < (ts.length : Int) := by omega
      obtain ⟨t, ht⟩ : ∃ t, ts[k]? = some t := ⟨ts[k], List.getElem?_eq_getElem hlt⟩
      rcases Hr.out with hr | ⟨g, off, rfl, _, gl, hc⟩
      · subst hr; simp at hlt
      have A0 := (B.out.cell (p := ⟨g, off + k * 2, Option.none⟩) gl).trans (hc k t ht).1
      have A1 := (B.out.cell (p := ⟨g, off + k * 2 + 1, Option.none⟩) gl).trans (hc k t ht).2
      have hd : Hid (ts.drop k = t :: ts.drop (k + 1)) := drop8 ht
      clear hc ht Hr
      by_cases he : t.s = s
      · have he2 : Hid (coefA ts s = t.n) := by show coefA ts s = t.n; rw [hg.out, hd.out, coefA, if_pos he]
        subst he
        go_wp2
        go_ret
        exact retI he2.out.symm rfl
      · have he2 : Hid (coefA ts s = coefA (ts.drop (k + 1)) s) := by show coefA ts s = _; rw [hg.out, hd.out, coefA, if_neg he]
        have hne := str_ne he
        go_wp2
        go_round
        case rel => exact ⟨k + 1, by omega, by go_num, he2.out⟩
        case measure => simp [RowKit.intOf]; omega
    · have he2 : Hid (coefA ts s = 0) := by show coefA ts s = 0; rw [hg.out, List.drop_of_length_le (by omega)]; rfl
      go_wp2
      go_ret
      exact retI he2.out.symm rfl
end Go.Proofs.YtjdpddcnogdekaaGreat
