/-
  Texts in one: BoxOkS, Rounds.
-/
import Derived.Test.YthecjaonbmefgaaBoxOkI
/-
  l9At, BoxOk, l9Full of the specification; hasWays of the landed code.
-/
namespace Go.Proofs.Ythecjaonbmefgaa
open Go.RowKit Go.Lib Go.Shelf
set_option linter.unusedSimpArgs false
set_option linter.unusedVariables false

def at9 : List RG → Nat → ByteArray → Int
  | [], _, _ => -1
  | t :: r, k, s => if t.s = s then (k : Int) else at9 r (k + 1) s
theorem at9_hit (s : ByteArray) : ∀ (l : List RG) (k j : Nat) (t : RG), (l.take k).any (fun r => decide (r.s = s)) = false → l[k]? = some t → t.s = s → at9 l j s = ((j + k : Nat) : Int)
  | [], k, j, t, _, h, _ => by simp at h
  | u :: l, 0, j, t, _, h, e => by simp at h; subst h; rw [at9, if_pos e]; rfl
  | u :: l, k + 1, j, t, h, hk, e => by
    rw [List.take_succ_cons, List.any_cons, Bool.or_eq_false_iff] at h
    rw [at9, if_neg (by simpa using h.1), at9_hit s l k (j + 1) t h.2 (by simpa using hk) e]
    omega
theorem at9_early (s : ByteArray) : ∀ (l : List RG) (k j : Nat), (l.take k).any (fun r => decide (r.s = s)) = true → (at9 l j s < ((j + k : Nat) : Int))
  | [], k, j, h => by simp at h
  | u :: l, 0, j, h => by simp at h
  | u :: l, k + 1, j, h => by
    rw [at9]
    by_cases e : u.s = s
    · rw [if_pos e]; omega
    · rw [if_neg e]
      rw [List.take_succ_cons, List.any_cons, Bool.or_eq_true] at h
      have := at9_early s l k (j + 1) (h.resolve_left (by simpa using e))
      omega
set_option maxHeartbeats 1000000 in
theorem l9At_is (rs : List RG) (hn : rs.length ≤ 1000000000) (s : ByteArray) (va : Value) (w : World) (ha : RV w 0 va rs) :
    Calls Try.prog 41 #[va, .string s] w fun e w' => e = .returned (.int .i64 (at9 rs 0 s)) ∧ w = w' := by
  obtain ⟨ao, cap, rfl, _, hr⟩ := ha
  have Hr := Lib.hid hr
  clear hr
  go_enter Try.func41, Try.ntmps41
  go_wp2
  go_loop [5] (fun i => ∃ k : Nat, k ≤ rs.length ∧ i = .int .i64 k ∧ Hid (at9 rs 0 s = at9 (rs.drop k) k s)) (fun i => rs.length - (RowKit.intOf i).toNat)
  case atStart => exact ⟨0, by omega, rfl, rfl⟩
  case round =>
    obtain ⟨k, hk, rfl, hg⟩ := hrel
    by_cases hlt : k < rs.length
    · have hltI : (k : Int) < (rs.length : Int) := by omega
      obtain ⟨t, ht⟩ : ∃ t, rs[k]? = some t := ⟨rs[k], List.getElem?_eq_getElem hlt⟩
      rcases Hr.out with hr | ⟨g, off, rfl, _, gl, hc⟩
      · subst hr; simp at hlt
      obtain ⟨A0, A1, A2⟩ := hc k t ht
      have hd : Hid (rs.drop k = t :: rs.drop (k + 1)) := drop9 ht
      clear hc ht Hr
      by_cases he : t.s = s
      · have R : Hid (at9 rs 0 s = (k : Int)) := by show at9 rs 0 s = (k : Int); rw [hg.out, hd.out, at9, if_pos he]
        subst he
        go_wp2
        go_ret
        exact retI R.out.symm rfl
      · have R : Hid (at9 rs 0 s = at9 (rs.drop (k + 1)) (k + 1) s) := by show at9 rs 0 s = _; rw [hg.out, hd.out, at9, if_neg he]
        have hne := str_ne he
        go_wp2
        go_round
        case rel => exact ⟨k + 1, by omega, by go_num, R.out⟩
        case measure => simp [RowKit.intOf]; omega
    · have R : Hid (at9 rs 0 s = -1) := by show at9 rs 0 s = -1; rw [hg.out, List.drop_of_length_le (by omega)]; rfl
      go_wp2
      go_ret
      exact retI R.out.symm rfl
set_option maxHeartbeats 4000000 in
set_option maxRecDepth 100000 in
theorem spec_BoxOk (rs : List RG) (hn : rs.length ≤ 1000000000) (hts : ∀ t ∈ rs, t.s.size ≤ 281474976710656) (va : Value) (w : World) (ha : RV w 0 va rs) (v : Bool) (hv : boxOk9 rs = v) :
    Calls Try.prog 20 #[va] w fun e w' => e = .returned (.bool v) ∧ Below w.heap.size w w' := by
  have HV : Hid ((boxGo9 rs 0 rs.length && decide (rs.length ≤ 8)) = v) := show _ = v by rw [← hv, boxOk9, Bool.and_comm]
  obtain ⟨ao, cap, rfl, hcap⟩ := id ha
  have HR := Lib.hid ha
  have Hr := Lib.hid hcap.2
  have Hts := Lib.hid hts
  clear ha hcap hv hts
  go_enter Try.func20, Try.ntmps20
  go_wp2
  go_loopw [3] (fun i wr => ∃ k : Nat, k ≤ rs.length ∧ i = .int .i64 k ∧ Hid ((boxGo9 rs k (rs.length - k) && decide (rs.length ≤ 8)) = v) ∧ Hid (Below w.heap.size w wr)) (fun i _ => rs.length - (RowKit.intOf i).toNat)
  case atStart => exact ⟨0, by omega, rfl, HV.out, Below.refl _ _⟩
  case round =>
    obtain ⟨k, hk, rfl, hg, HB⟩ := hrel
    by_cases hlt : k < rs.length
    · have hltI : (k : Int) < (rs.length : Int) := by omega
      obtain ⟨t, ht⟩ : ∃ t, rs[k]? = some t := ⟨rs[k], List.getElem?_eq_getElem hlt⟩
      rcases Hr.out with hr | ⟨g, off, rfl, _, gl, hc⟩
      · subst hr; simp at hlt
      have A0 := (HB.out.cell (p := ⟨g, off + k * 3, Option.none⟩) gl).trans (hc k t ht).1
      have HC := Lib.hid (hc k t ht)
      have hd : Hid (((rgOk9 (rs.take k) t && boxGo9 rs (k + 1) (rs.length - (k + 1))) && decide (rs.length ≤ 8)) = v) := show _ = v by rw [← boxGo9_at ht]; exact hg.out
      have hsz : t.s.size ≤ 281474976710656 := Hts.out t (List.mem_of_getElem? ht)
      have HT := Lib.hid ht
      have NX : Hid (∀ w1, Below wr.heap.size wr w1 → Below w.heap.size w w1 ∧ w1.cell? ⟨g, off + k * 3, Option.none⟩ = some (.string t.s) ∧ w1.cell? ⟨g, off + k * 3 + 1, Option.none⟩ = some (.int .i64 t.lo) ∧ w1.cell? ⟨g, off + k * 3 + 2, Option.none⟩ = some (.int .i64 t.hi)) := fun w1 h1 => by
        have hb := HB.out.trans (h1.mono HB.out.size)
        exact ⟨hb, (hb.cell (p := ⟨g, off + k * 3, Option.none⟩) gl).trans HC.out.1, (hb.cell (p := ⟨g, off + k * 3 + 1, Option.none⟩) gl).trans HC.out.2.1, (hb.cell (p := ⟨g, off + k * 3 + 2, Option.none⟩) gl).trans HC.out.2.2⟩
      clear hc ht hg
      rcases rg9_cases (rs.take k) t with ⟨c1, cb⟩ | ⟨c1, c2, cb⟩ | ⟨c1, c2, c3, cb⟩ | ⟨c1, c2, c3, c4, cb⟩ | ⟨c1, c2, c3, c4, cb⟩
      · have C1 := Lib.hid c1
        have R : Hid (v = false) := show v = false by rw [← hd.out, cb]; rfl
        clear c1 cb
        go_wp2_with fail
        refine (spec_NameOk t.s false C1.out hsz _).mono ?_
        rintro e w1 ⟨rfl, hb1⟩
        obtain ⟨hb, _⟩ := NX.out w1 hb1
        clear hb1 A0
        go_wp2
        go_ret
        exact ⟨ret_bool R.out.symm, hb⟩
      · have C1 := Lib.hid c1
        have C2 := Lib.hid c2
        have R : Hid (v = false) := show v = false by rw [← hd.out, cb]; rfl
        clear c1 c2 cb
        go_wp2_with fail
        refine (spec_NameOk t.s true C1.out hsz _).mono ?_
        rintro e w1 ⟨rfl, hb1⟩
        obtain ⟨hb, b0, b1, b2⟩ := NX.out w1 hb1
        have HB1 := Lib.hid hb
        clear hb1 A0 hb
        go_wp2_with fail
        refine (In_is t.lo _ _ false C2.out _).mono ?_
        rintro e w2 ⟨rfl, rfl⟩
        go_wp2
        go_ret
        exact ⟨ret_bool R.out.symm, HB1.out⟩
      · have C1 := Lib.hid c1
        have C2 := Lib.hid c2
        have C3 := Lib.hid c3
        have R : Hid (v = false) := show v = false by rw [← hd.out, cb]; rfl
        clear c1 c2 c3 cb
        go_wp2_with fail
        refine (spec_NameOk t.s true C1.out hsz _).mono ?_
        rintro e w1 ⟨rfl, hb1⟩
        obtain ⟨hb, b0, b1, b2⟩ := NX.out w1 hb1
        have HB1 := Lib.hid hb
        clear hb1 A0 hb
        go_wp2_with fail
        refine (In_is t.lo _ _ true C2.out _).mono ?_
        rintro e w2 ⟨rfl, rfl⟩
        go_wp2_with fail
        refine (In_is t.hi _ _ false C3.out _).mono ?_
        rintro e w2 ⟨rfl, rfl⟩
        go_wp2
        go_ret
        exact ⟨ret_bool R.out.symm, HB1.out⟩
      · have C1 := Lib.hid c1
        have C2 := Lib.hid c2
        have C3 := Lib.hid c3
        have R : Hid (v = false) := show v = false by rw [← hd.out, cb]; rfl
        have hat := at9_early t.s rs k 0 c4
        rw [Nat.zero_add] at hat
        obtain ⟨p, hp⟩ : ∃ p, at9 rs 0 t.s = p := ⟨_, rfl⟩
        rw [hp] at hat
        have HP := Lib.hid hp
        have hne : (p == (k : Int)) = false := by rw [beq_eq_false_iff_ne]; omega
        clear c1 c2 c3 c4 cb hp
        go_wp2_with fail
        refine (spec_NameOk t.s true C1.out hsz _).mono ?_
        rintro e w1 ⟨rfl, hb1⟩
        obtain ⟨hb, b0, b1, b2⟩ := NX.out w1 hb1
        have HB1 := Lib.hid hb
        clear hb1 A0 hb
        go_wp2_with fail
        refine (In_is t.lo _ _ true C2.out _).mono ?_
        rintro e w2 ⟨rfl, rfl⟩
        go_wp2_with fail
        refine (In_is t.hi _ _ true C3.out _).mono ?_
        rintro e w2 ⟨rfl, rfl⟩
        go_wp2_with fail
        refine (l9At_is rs hn t.s _ _ (HR.out.later HB1.out)).mono ?_
        rintro e w2 ⟨rfl, rfl⟩
        rw [HP.out]
        clear hat
        go_wp2
        go_ret
        exact ⟨ret_bool R.out.symm, HB1.out⟩
      · have C1 := Lib.hid c1
        have C2 := Lib.hid c2
        have C3 := Lib.hid c3
        have R : Hid ((boxGo9 rs (k + 1) (rs.length - (k + 1)) && decide (rs.length ≤ 8)) = v) := show _ = v by rw [← hd.out, cb, Bool.true_and]
        have HP : Hid (at9 rs 0 t.s = (k : Int)) := by have := at9_hit t.s rs k 0 t c4 HT.out rfl; rwa [Nat.zero_add] at this
        clear c1 c2 c3 c4 cb
        go_wp2_with fail
        refine (spec_NameOk t.s true C1.out hsz _).mono ?_
        rintro e w1 ⟨rfl, hb1⟩
        obtain ⟨hb, b0, b1, b2⟩ := NX.out w1 hb1
        have HB1 := Lib.hid hb
        clear hb1 A0 hb
        go_wp2_with fail
        refine (In_is t.lo _ _ true C2.out _).mono ?_
        rintro e w2 ⟨rfl, rfl⟩
        go_wp2_with fail
        refine (In_is t.hi _ _ true C3.out _).mono ?_
        rintro e w2 ⟨rfl, rfl⟩
        go_wp2_with fail
        refine (l9At_is rs hn t.s _ _ (HR.out.later HB1.out)).mono ?_
        rintro e w2 ⟨rfl, rfl⟩
        rw [HP.out]
        go_wp2
        go_roundw
        case rel => exact ⟨k + 1, by omega, by go_num, R.out, HB1.out⟩
        case measure => simp [RowKit.intOf]; omega
    · have R : Hid (decide (rs.length ≤ 8) = v) := show _ = v by rw [← hg.out, show rs.length - k = 0 by omega]; rfl
      by_cases h8 : rs.length ≤ 8
      · have h8I : (rs.length : Int) ≤ 8 := by omega
        have R2 : Hid (v = true) := show v = true by rw [← R.out]; exact decide_eq_true h8
        clear h8
        go_wp2
        go_ret
        exact ⟨ret_bool R2.out.symm, HB.out⟩
      · have h8I : ¬ (rs.length : Int) ≤ 8 := by omega
        have R2 : Hid (v = false) := show v = false by rw [← R.out]; exact decide_eq_false h8
        have h8J : decide ((rs.length : Int) ≤ 8) = false := decide_eq_false h8I
        have h8K : decide (rs.length ≤ 8) = false := decide_eq_false h8
        clear h8
        go_wp2
        go_ret
        exact ⟨ret_bool R2.out.symm, HB.out⟩
set_option maxHeartbeats 2000000 in
set_option maxRecDepth 100000 in
theorem l9Full_is (rs : List RG) (hn : rs.length ≤ 1000000000) (hts : ∀ t ∈ rs, t.s.size ≤ 281474976710656) (va : Value) (w : World) (ha : RV w 0 va rs) (v : Bool) (hv : waysOk9 rs = v) :
    Calls Try.prog 42 #[va] w fun e w' => e = .returned (.bool v) ∧ Below w.heap.size w w' := by
  obtain ⟨ao, cap, rfl, hcap⟩ := id ha
  have HR := Lib.hid ha
  have Hr := Lib.hid hcap.2
  have Hts := Lib.hid hts
  have HV := Lib.hid hv
  clear ha hcap hv hts
  go_enter Try.func42, Try.ntmps42
  go_wp2
  go_loopw [3] (fun i wr => ∃ k : Nat, k ≤ rs.length ∧ i = .int .i64 k ∧ Hid ((rs.take k).any (fun r => decide (r.lo > r.hi)) = false) ∧ Hid (Below w.heap.size w wr)) (fun i _ => rs.length - (RowKit.intOf i).toNat)
  case atStart => exact ⟨0, by omega, rfl, rfl, Below.refl _ _⟩
  case round =>
    obtain ⟨k, hk, rfl, hg, HB⟩ := hrel
    by_cases hlt : k < rs.length
    · have hltI : (k : Int) < (rs.length : Int) := by omega
      obtain ⟨t, ht⟩ : ∃ t, rs[k]? = some t := ⟨rs[k], List.getElem?_eq_getElem hlt⟩
      rcases Hr.out with hr | ⟨g, off, rfl, _, gl, hc⟩
      · subst hr; simp at hlt
      have A1 := (HB.out.cell (p := ⟨g, off + k * 3 + 1, Option.none⟩) gl).trans (hc k t ht).2.1
      have A2 := (HB.out.cell (p := ⟨g, off + k * 3 + 2, Option.none⟩) gl).trans (hc k t ht).2.2
      have hkw : IntKind.i64.wrap (k : Int) = (k : Int) := wrap_small _ (by omega) (by omega)
      have HT := Lib.hid ht
      clear hc ht
      by_cases hd : t.lo > t.hi
      · have R : Hid (v = false) := by
          show v = false
          have : rs.any (fun r => decide (r.lo > r.hi)) = true := List.any_eq_true.2 ⟨t, List.mem_of_getElem? HT.out, decide_eq_true hd⟩
          rw [← HV.out, waysOk9, this]; simp
        go_wp2_with fail
        go_quiet (fail)
        go_wp2
        go_ret
        exact ⟨ret_bool R.out.symm, belowD9 HB.out _⟩
      · have R : Hid ((rs.take (k + 1)).any (fun r => decide (r.lo > r.hi)) = false) := by
          show List.any _ _ = false
          rw [take_snocR HT.out, List.any_append, hg.out]
          simp; omega
        have hd2 : ¬ t.hi < t.lo := hd
        clear hd
        go_wp2_with fail
        go_quiet (fail)
        go_wp2
        go_roundw
        case rel => exact ⟨k + 1, by omega, by go_num, R.out, belowD9 HB.out _⟩
        case measure => simp [RowKit.intOf]; omega
    · have R : Hid (boxOk9 rs = v) := by
        show boxOk9 rs = v
        have := hg.out
        rw [List.take_of_length_le (by omega)] at this
        rw [← HV.out, waysOk9, this]; simp
      go_wp2_with fail
      refine (spec_BoxOk rs hn Hts.out _ _ (HR.out.later HB.out) v R.out).mono ?_
      rintro e w1 ⟨rfl, hb1⟩
      have B1 := Lib.hid (HB.out.trans (hb1.mono HB.out.size))
      clear hb1
      go_wp2
      go_ret
      exact ⟨rfl, B1.out⟩
set_option maxHeartbeats 1000000 in
theorem hasWays_is (rs : List RG) (hn : rs.length ≤ 1000000000) (va : Value) (w : World) (ha : RV w 0 va rs) (v : Bool) (hv : waysOk9 rs = v) :
    Calls Try.prog 31 #[va] w fun e w' => e = .returned (.bool v) ∧ Below w.heap.size w w' := by
  have HR := Lib.hid ha
  clear ha
  cases hb : boxOk9 rs with
  | false =>
    have R : Hid (v = false) := show v = false by rw [← hv, waysOk9, hb]; rfl
    have HBk := Lib.hid hb
    clear hb hv
    go_enter Try.func31, Try.ntmps31
    go_wp2_with fail
    refine (impl_BoxOk rs hn va _ HR.out false HBk.out).mono ?_
    rintro e w1 ⟨rfl, hb1⟩
    have B1 := Lib.hid hb1
    clear hb1
    go_wp2
    go_ret
    exact ⟨ret_bool R.out.symm, B1.out⟩
  | true =>
    obtain ⟨c, hc⟩ : ∃ c, rs.any (fun r => decide (r.lo > r.hi)) = c := ⟨_, rfl⟩
    have R : Hid (v = !c) := show v = !c by rw [← hv, waysOk9, hb, hc]; rfl
    have HBk := Lib.hid hb
    have HC := Lib.hid hc
    clear hb hv hc
    go_enter Try.func31, Try.ntmps31
    go_wp2_with fail
    refine (impl_BoxOk rs hn va _ HR.out true HBk.out).mono ?_
    rintro e w1 ⟨rfl, hb1⟩
    have B1 := Lib.hid hb1
    clear hb1
    go_wp2_with fail
    refine (ContainsFunc9 rs hn (fun r => decide (r.lo > r.hi)) 51 #[] enters_hasWays (fun _ => True) (fun _ _ _ _ => trivial) (fun W _ t => hasWays1_is W t) va _ trivial (HR.out.later B1.out)).mono ?_
    rintro e w2 ⟨rfl, hb2⟩
    rw [HC.out]
    have B2 := Lib.hid (B1.out.trans (hb2.mono B1.out.size))
    clear hb2
    go_wp2
    go_ret
    exact ⟨ret_bool R.out.symm, B2.out⟩
end Go.Proofs.Ythecjaonbmefgaa
/-
  Rounds, the landed code's and the specification's.
-/
namespace Go.Proofs.Ythecjaonbmefgaa
open Go.RowKit Go.Lib Go.Shelf
set_option linter.unusedSimpArgs false
set_option linter.unusedVariables false

/-- How many ways there are, no more than a million. -/
def lim9 (n : Int) : Int := if 1000000 < n then 1000000 else n
def ways9 : Int → List RG → Int
  | a, [] => a
  | a, t :: r => ways9 (lim9 (a * (t.hi - t.lo + 1))) r
def rounds9 (rs : List RG) : Int := if waysOk9 rs = true then ways9 1 rs else 0
/-- Each has one way at least, and not too many. -/
def Fit9 (rs : List RG) : Prop := ∀ t ∈ rs, 1 ≤ t.hi - t.lo + 1 ∧ t.hi - t.lo + 1 ≤ 20001 ∧ -10000 ≤ t.lo ∧ t.lo ≤ 10000 ∧ -10000 ≤ t.hi ∧ t.hi ≤ 10000
theorem boxGo9_all {rs : List RG} : ∀ (n k : Nat), k + n = rs.length → boxGo9 rs k n = true → ∀ i t, k ≤ i → rs[i]? = some t → inEnd9 t.lo = true ∧ inEnd9 t.hi = true
  | 0, k, hn, _, i, t, hi, h => by have := (List.getElem?_eq_some_iff.1 h).1; omega
  | n + 1, k, hn, hb, i, t, hi, h => by
    obtain ⟨u, hu⟩ : ∃ u, rs[k]? = some u := ⟨rs[k]'(by omega), List.getElem?_eq_getElem (by omega)⟩
    simp only [boxGo9, hu, Bool.and_eq_true] at hb
    rcases Nat.lt_or_ge k i with h1 | h1
    · exact boxGo9_all n (k + 1) (by omega) hb.2 i t (by omega) h
    · have : i = k := by omega
      subst this
      rw [hu] at h; cases h
      have := hb.1
      simp only [rgOk9, Bool.and_eq_true] at this
      exact ⟨this.1.1.2, this.1.2⟩
theorem fit_of {rs : List RG} (h : waysOk9 rs = true) : Fit9 rs := by
  intro t ht
  obtain ⟨i, hi⟩ := List.getElem?_of_mem ht
  simp only [waysOk9, boxOk9, Bool.and_eq_true, Bool.not_eq_true', List.any_eq_false] at h
  have h1 := boxGo9_all rs.length 0 (by omega) h.1.2 i t (Nat.zero_le _) hi
  have h2 := h.2 t ht
  simp [inEnd9] at h1 h2
  omega
theorem ways9_full : ∀ (rs : List RG), Fit9 rs → ways9 1000000 rs = 1000000
  | [], _ => rfl
  | t :: r, h => by
    have := (h t (by simp)).1
    rw [ways9, show lim9 (1000000 * (t.hi - t.lo + 1)) = (1000000 : Int) by unfold lim9; split <;> omega]
    exact ways9_full r (fun u hu => h u (by simp [hu]))
theorem mulb9 {a f : Int} (h1 : 1 ≤ a) (h2 : a ≤ 1000000) (h3 : 1 ≤ f) (h4 : f ≤ 20001) : 1 ≤ a * f ∧ a * f ≤ 20001000000 := by
  constructor
  · exact Int.mul_le_mul h1 h3 (by omega) (by omega)
  · exact Int.mul_le_mul h2 h4 (by omega) (by omega)
set_option maxHeartbeats 2000000 in
set_option maxRecDepth 100000 in
theorem impl_Rounds (rs : List RG) (hn : rs.length ≤ 1000000000) (va : Value) (w : World) (ha : RV w 0 va rs) :
    Calls Try.prog 11 #[va] w fun e w' => e = .returned (.int .i64 (rounds9 rs)) ∧ Below w.heap.size w w' := by
  obtain ⟨ao, cap, rfl, hcap⟩ := id ha
  have HR := Lib.hid ha
  have Hr := Lib.hid hcap.2
  clear ha hcap
  cases hw : waysOk9 rs with
  | false =>
    have R : Hid (rounds9 rs = 0) := show rounds9 rs = 0 by rw [rounds9, if_neg (by simp [hw])]
    have HW := Lib.hid hw
    clear hw
    go_enter Try.func11, Try.ntmps11
    go_wp2_with fail
    refine (hasWays_is rs hn _ _ HR.out false HW.out).mono ?_
    rintro e w1 ⟨rfl, hb1⟩
    have B1 := Lib.hid hb1
    clear hb1
    go_wp2
    go_ret
    exact retI R.out.symm B1.out
  | true =>
    have R : Hid (rounds9 rs = ways9 1 rs) := show rounds9 rs = ways9 1 rs by rw [rounds9, if_pos hw]
    have HW := Lib.hid hw
    have HF := Lib.hid (fit_of hw)
    clear hw
    go_enter Try.func11, Try.ntmps11
    go_wp2_with fail
    refine (hasWays_is rs hn _ _ HR.out true HW.out).mono ?_
    rintro e w1 ⟨rfl, hb1⟩
    have B1 := Lib.hid hb1
    clear hb1
    go_wp2
    go_loopw [3, 11] (fun x i wr => ∃ (k : Nat) (a : Int), k ≤ rs.length ∧ i = .int .i64 k ∧ x = .int .i64 a ∧ 1 ≤ a ∧ a ≤ 1000000 ∧ Hid (ways9 1 rs = ways9 a (rs.drop k)) ∧ Hid (Below w.heap.size w wr)) (fun _ i _ => rs.length - (RowKit.intOf i).toNat)
    case atStart => exact ⟨0, 1, by omega, rfl, rfl, by omega, by omega, rfl, B1⟩
    case round =>
      obtain ⟨k, a, hk, rfl, rfl, ha1, ha2, hg, HB⟩ := hrel
      by_cases hlt : k < rs.length
      · have hltI : (k : Int) < (rs.length : Int) := by omega
        obtain ⟨t, ht⟩ : ∃ t, rs[k]? = some t := ⟨rs[k], List.getElem?_eq_getElem hlt⟩
        rcases Hr.out with hr | ⟨g, off, rfl, _, gl, hc⟩
        · subst hr; simp at hlt
        have A0 := (HB.out.cell (p := ⟨g, off + k * 3, Option.none⟩) gl).trans (hc k t ht).1
        have A1 := (HB.out.cell (p := ⟨g, off + k * 3 + 1, Option.none⟩) gl).trans (hc k t ht).2.1
        have A2 := (HB.out.cell (p := ⟨g, off + k * 3 + 2, Option.none⟩) gl).trans (hc k t ht).2.2
        obtain ⟨f1, f2, f3, f4, f5, f6⟩ := HF.out t (List.mem_of_getElem? ht)
        obtain ⟨m1, m2⟩ := mulb9 ha1 ha2 f1 f2
        have RX : Hid (ways9 1 rs = ways9 (lim9 (a * (t.hi - t.lo + 1))) (rs.drop (k + 1))) := by show ways9 1 rs = _; rw [hg.out, drop9 ht]; rfl
        have HB2 := Lib.hid (HB.out.trans ((alloc_below wr (.cells #[.string t.s, .int .i64 t.lo, .int .i64 t.hi] 33)).mono HB.out.size))
        have mm : 1 ≤ lim9 (a * (t.hi - t.lo + 1)) ∧ lim9 (a * (t.hi - t.lo + 1)) ≤ 1000000 := by unfold lim9; split <;> omega
        have MM := Lib.hid mm
        clear hc ht mm
        go_wp2
        go_roundw
        case rel => exact ⟨k + 1, _, by omega, by go_num, rfl, MM.out.1, MM.out.2, RX.out, HB2.out⟩
        case measure => simp [RowKit.intOf]; omega
      · have R2 : Hid (rounds9 rs = a) := by show rounds9 rs = a; rw [R.out, hg.out, List.drop_of_length_le (by omega)]; rfl
        go_wp2
        go_ret
        exact retI R2.out.symm HB.out
theorem lim9_small {n : Int} (h : n < 1000000) : lim9 n = n := by unfold lim9; split <;> omega
theorem lim9_big {n : Int} (h : ¬ n < 1000000) : lim9 n = 1000000 := by unfold lim9; split <;> omega
set_option maxHeartbeats 2000000 in
set_option maxRecDepth 100000 in
theorem spec_Rounds (rs : List RG) (hn : rs.length ≤ 1000000000) (hts : ∀ t ∈ rs, t.s.size ≤ 281474976710656) (va : Value) (w : World) (ha : RV w 0 va rs) :
    Calls Try.prog 22 #[va] w fun e w' => e = .returned (.int .i64 (rounds9 rs)) ∧ Below w.heap.size w w' := by
  obtain ⟨ao, cap, rfl, hcap⟩ := id ha
  have HR := Lib.hid ha
  have Hr := Lib.hid hcap.2
  have Hts := Lib.hid hts
  clear ha hcap hts
  cases hw : waysOk9 rs with
  | false =>
    have R : Hid (rounds9 rs = 0) := show rounds9 rs = 0 by rw [rounds9, if_neg (by simp [hw])]
    have HW := Lib.hid hw
    clear hw
    go_enter Try.func22, Try.ntmps22
    go_wp2_with fail
    refine (l9Full_is rs hn Hts.out _ _ HR.out false HW.out).mono ?_
    rintro e w1 ⟨rfl, hb1⟩
    have B1 := Lib.hid hb1
    clear hb1
    go_wp2
    go_ret
    exact retI R.out.symm B1.out
  | true =>
    have R : Hid (rounds9 rs = ways9 1 rs) := show rounds9 rs = ways9 1 rs by rw [rounds9, if_pos hw]
    have HW := Lib.hid hw
    have HF := Lib.hid (fit_of hw)
    clear hw
    go_enter Try.func22, Try.ntmps22
    go_wp2_with fail
    refine (l9Full_is rs hn Hts.out _ _ HR.out true HW.out).mono ?_
    rintro e w1 ⟨rfl, hb1⟩
    have B1 := Lib.hid hb1
    clear hb1
    go_wp2
    go_loopw [3, 4] (fun x i wr => ∃ (k : Nat) (a : Int), k ≤ rs.length ∧ i = .int .i64 k ∧ x = .int .i64 a ∧ 1 ≤ a ∧ a ≤ 20001000000 ∧ Hid (ways9 1 rs = ways9 (lim9 a) (rs.drop k)) ∧ Hid (Below w.heap.size w wr)) (fun _ i _ => rs.length - (RowKit.intOf i).toNat)
    case atStart => exact ⟨0, 1, by omega, rfl, rfl, by omega, by omega, rfl, B1⟩
    case round =>
      obtain ⟨k, a, hk, rfl, rfl, ha1, ha2, hg, HB⟩ := hrel
      by_cases hlt : k < rs.length
      · have hltI : (k : Int) < (rs.length : Int) := by omega
        by_cases hsm : a < 1000000
        · obtain ⟨t, ht⟩ : ∃ t, rs[k]? = some t := ⟨rs[k], List.getElem?_eq_getElem hlt⟩
          rcases Hr.out with hr | ⟨g, off, rfl, _, gl, hc⟩
          · subst hr; simp at hlt
          have A1 := (HB.out.cell (p := ⟨g, off + k * 3 + 1, Option.none⟩) gl).trans (hc k t ht).2.1
          have A2 := (HB.out.cell (p := ⟨g, off + k * 3 + 2, Option.none⟩) gl).trans (hc k t ht).2.2
          obtain ⟨f1, f2, f3, f4, f5, f6⟩ := HF.out t (List.mem_of_getElem? ht)
          obtain ⟨m1, m2⟩ := mulb9 ha1 (by omega : a ≤ 1000000) f1 f2
          have RX : Hid (ways9 1 rs = ways9 (lim9 (a * (t.hi - t.lo + 1))) (rs.drop (k + 1))) := by show ways9 1 rs = _; rw [hg.out, drop9 ht, lim9_small hsm]; rfl
          have e1 : IntKind.i64.wrap (t.hi - t.lo) = t.hi - t.lo := by rw [IntKind.wrap_i64]; omega
          have e2 : IntKind.i64.wrap (t.hi - t.lo + 1) = t.hi - t.lo + 1 := by rw [IntKind.wrap_i64]; omega
          have e3 : IntKind.i64.wrap (a * (t.hi - t.lo + 1)) = a * (t.hi - t.lo + 1) := by rw [IntKind.wrap_i64]; omega
          have E3 : Hid (∀ x : Int, x = a * (t.hi - t.lo + 1) → 1 ≤ x ∧ x ≤ 20001000000) := fun x hx => by rw [hx]; exact ⟨m1, m2⟩
          have hkw : IntKind.i64.wrap (k : Int) = (k : Int) := wrap_small _ (by omega) (by omega)
          clear hc ht m1 m2
          go_wp2_with fail
          go_quiet (fail)
          go_wp2
          go_roundw
          case rel => exact ⟨k + 1, a * (t.hi - t.lo + 1), by omega, by go_num, rfl, (E3.out _ rfl).1, (E3.out _ rfl).2, RX.out, belowD9 HB.out _⟩
          case measure => simp [RowKit.intOf]; omega
        · have R2 : Hid (rounds9 rs = 1000000) := by show rounds9 rs = _; rw [R.out, hg.out, lim9_big hsm]; exact ways9_full _ (fun t ht => HF.out t (List.mem_of_mem_drop ht))
          by_cases hb : 1000000 < a
          · go_wp2
            go_ret
            exact retI R2.out.symm HB.out
          · obtain rfl : a = 1000000 := by omega
            go_wp2
            go_ret
            exact retI R2.out.symm HB.out
      · have R2 : Hid (rounds9 rs = lim9 a) := by show rounds9 rs = lim9 a; rw [R.out, hg.out, List.drop_of_length_le (by omega)]; rfl
        by_cases hb : 1000000 < a
        · have R3 : Hid (rounds9 rs = 1000000) := by show rounds9 rs = _; rw [R2.out, lim9_big (by omega)]
          go_wp2
          go_ret
          exact retI R3.out.symm HB.out
        · have R3 : Hid (rounds9 rs = a) := by show rounds9 rs = _; rw [R2.out]; unfold lim9; rw [if_neg hb]
          go_wp2
          go_ret
          exact retI R3.out.symm HB.out
end Go.Proofs.Ythecjaonbmefgaa
