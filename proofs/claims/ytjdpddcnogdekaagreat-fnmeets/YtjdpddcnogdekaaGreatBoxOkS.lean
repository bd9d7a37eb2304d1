/-
  l9At, BoxOk, l9Full of the specification; hasWays of the landed code.
-/
import Derived.Test.YtjdpddcnogdekaaGreatBoxOkI
namespace Go.Proofs.YtjdpddcnogdekaaGreat
open Go.RowKit Go.Lib Go.Shelf
set_option linter.unusedSimpArgs false
set_option linter.unusedVariables false

def at9 : List RG → Nat → ByteArray → Int
  | [], _, _ => -1
  | t :: r, k, s => if t.s = s then (k : Int) else at9 r (k + 1) s
theorem at9_hit (s : ByteArray) : ∀ (l : List RG) (k j : Nat) (t : RG), (l.take k).any (fun r => decide (r.s = s)) = false → l[k]? = some t → t.s = s → at9 l j s = ((j + k : Nat) : Int)
  | [], k, j, t, _, h, _ => by simp at h
  | u :: l, 0, j, t, _, h, e => by simp at h; subst h; rw [at9, if_pos e]; rfl
  | u :: l, k + 1, j, t, h, hk, e => by
    rw [List.take_succ_cons, List.any_cons, Bool.or_eq_false_iff] at h
    rw [at9, if_neg (by simpa using h.1), at9_hit s l k (j + 1) t h.2 (by simpa using hk) e]
    omega
theorem at9_early (s : ByteArray) : ∀ (l : List RG) (k j : Nat), (l.take k).any (fun r => decide (r.s = s)) = true → (at9 l j s < ((j + k : Nat) : Int))
  | [], k, j, h => by simp at h
  | u :: l, 0, j, h => by simp at h
  | u :: l, k + 1, j, h => by
    rw [at9]
    by_cases e : u.s = s
    · rw [if_pos e]; omega
    · rw [if_neg e]
      rw [List.take_succ_cons, List.any_cons, Bool.or_eq_true] at h
      have := at9_early s l k (j + 1) (h.resolve_left (by simpa using e))
      omega
set_option maxHeartbeats 1000000 in
theorem l9At_is (rs : List RG) (hn : rs.length ≤ 1000000000) (s : ByteArray) (va : Value) (w : World) (ha : RV w 0 va rs) :
    Calls Tryz.prog 34 #[va, .string s] w fun e w' => e = .returned (.int .i64 (at9 rs 0 s)) ∧ w = w' := by
  obtain ⟨ao, cap, rfl, _, hr⟩ := ha
  have Hr := Lib.hid hr
  clear hr
  go_enter Tryz.func34, Tryz.ntmps34
  go_wp2
  go_loop [5] (fun i => ∃ k : Nat, k ≤ rs.length ∧ i = .int .i64 k ∧ Hid (at9 rs 0 s = at9 (rs.drop k) k s)) (fun i => rs.length - (RowKit.intOf i).toNat)
  case atStart => exact ⟨0, by omega, rfl, rfl⟩
  case round =>
    obtain ⟨k, hk, rfl, hg⟩ := hrel
    by_cases hlt : k < rs.length
    · have hltI : (k : Int) < (rs.length : Int) := by omega
      obtain ⟨t, ht⟩ : ∃ t, rs[k]? = some t := ⟨rs[k], List.getElem?_eq_getElem hlt⟩
      rcases Hr.out with hr | ⟨g, off, rfl, _, gl, hc⟩
      · subst hr; simp at hlt
      obtain ⟨A0, A1, A2⟩ := hc k t ht
      have hd : Hid (rs.drop k = t :: rs.drop (k + 1)) := drop9 ht
      clear hc ht Hr
      by_cases he : t.s = s
      · have R : Hid (at9 rs 0 s = (k : Int)) := by show at9 rs 0 s = (k : Int); rw [hg.out, hd.out, at9, if_pos he]
        subst he
        go_wp2
        go_ret
        exact retI R.out.symm rfl
      · have R : Hid (at9 rs 0 s = at9 (rs.drop (k + 1)) (k + 1) s) := by show at9 rs 0 s = _; rw [hg.out, hd.out, at9, if_neg he]
        have hne := str_ne he
        go_wp2
        go_round
        case rel => exact ⟨k + 1, by omega, by go_num, R.out⟩
        case measure => simp [RowKit.intOf]; omega
    · have R : Hid (at9 rs 0 s = -1) := by show at9 rs 0 s = -1; rw [hg.out, List.drop_of_length_le (by omega)]; rfl
      go_wp2
      go_ret
      exact retI R.out.symm rfl
set_option maxHeartbeats 4000000 in
set_option maxRecDepth 100000 in
theorem spec_BoxOk (rs : List RG) (hn : rs.length ≤ 1000000000) (hts : ∀ t ∈ rs, t.s.size ≤ 281474976710656) (va : Value) (w : World) (ha : RV w 0 va rs) (v : Bool) (hv : boxOk9 rs = v) :
    Calls Tryz.prog 90 #[va] w fun e w' => e = .returned (.bool v) ∧ Below w.heap.size w w' := by
  have HV : Hid ((boxGo9 rs 0 rs.length && decide (rs.length ≤ 8)) = v) := show _ = v by rw [← hv, boxOk9, Bool.and_comm]
  obtain ⟨ao, cap, rfl, hcap⟩ := id ha
  have HR := Lib.hid ha
  have Hr := Lib.hid hcap.2
  have Hts := Lib.hid hts
  clear ha hcap hv hts
  go_enter Tryz.func90, Tryz.ntmps90
  go_wp2
  go_loopw [3] (fun i wr => ∃ k : Nat, k ≤ rs.length ∧ i = .int .i64 k ∧ Hid ((boxGo9 rs k (rs.length - k) && decide (rs.length ≤ 8)) = v) ∧ Hid (Below w.heap.size w wr)) (fun i _ => rs.length - (RowKit.intOf i).toNat)
  case atStart => exact ⟨0, by omega, rfl, HV.out, Below.refl _ _⟩
  case round =>
    obtain ⟨k, hk, rfl, hg, HB⟩ := hrel
    by_cases hlt : k < rs.length
    · have hltI : (k : Int) < (rs.length : Int) := by omega
      obtain ⟨t, ht⟩ : ∃ t, rs[k]? = some t := ⟨rs[k], List.getElem?_eq_getElem hlt⟩
      rcases Hr.out with hr | ⟨g, off, rfl, _, gl, hc⟩
      · subst hr; simp at hlt
      have A0 := (HB.out.cell (p := ⟨g, off + k * 3, Option.none⟩) gl).trans (hc k t ht).1
      have HC := Lib.hid (hc k t ht)
      have hd : Hid (((rgOk9 (rs.take k) t && boxGo9 rs (k + 1) (rs.length - (k + 1))) && decide (rs.length ≤ 8)) = v) := show _ = v by rw [← boxGo9_at ht]; exact hg.out
      have hsz : t.s.size ≤ 281474976710656 := Hts.out t (List.mem_of_getElem? ht)
      have HT := Lib.hid ht
      have NX : Hid (∀ w1, Below wr.heap.size wr w1 → Below w.heap.size w w1 ∧ w1.cell? ⟨g, off + k * 3, Option.none⟩ = some (.string t.s) ∧ w1.cell? ⟨g, off + k * 3 + 1, Option.none⟩ = some (.int .i64 t.lo) ∧ w1.cell? ⟨g, off + k * 3 + 2, Option.none⟩ = some (.int .i64 t.hi)) := fun w1 h1 => by
        have hb := HB.out.trans (h1.mono HB.out.size)
        exact ⟨hb, (hb.cell (p := ⟨g, off + k * 3, Option.none⟩) gl).trans HC.out.1, (hb.cell (p := ⟨g, off + k * 3 + 1, Option.none⟩) gl).trans HC.out.2.1, (hb.cell (p := ⟨g, off + k * 3 + 2, Option.none⟩) gl).trans HC.out.2.2⟩
      clear hc ht hg
      rcases rg9_cases (rs.take k) t with ⟨c1, cb⟩ | ⟨c1, c2, cb⟩ | ⟨c1, c2, c3, cb⟩ | ⟨c1, c2, c3, c4, cb⟩ | ⟨c1, c2, c3, c4, cb⟩
      · have C1 := Lib.hid c1
        have R : Hid (v = false) := show v = false by rw [← hd.out, cb]; rfl
        clear c1 cb
        go_wp2_with fail
        refine (spec_NameOk t.s false C1.out hsz _).mono ?_
        rintro e w1 ⟨rfl, hb1⟩
        obtain ⟨hb, _⟩ := NX.out w1 hb1
        clear hb1 A0
        go_wp2
        go_ret
        exact ⟨ret_bool R.out.symm, hb⟩
      · have C1 := Lib.hid c1
        have C2 := Lib.hid c2
        have R : Hid (v = false) := show v = false by rw [← hd.out, cb]; rfl
        clear c1 c2 cb
        go_wp2_with fail
        refine (spec_NameOk t.s true C1.out hsz _).mono ?_
        rintro e w1 ⟨rfl, hb1⟩
        obtain ⟨hb, b0, b1, b2⟩ := NX.out w1 hb1
        have HB1 := Lib.hid hb
        clear hb1 A0 hb
        go_wp2_with fail
        refine (In_is t.lo _ _ false C2.out _).mono ?_
        rintro e w2 ⟨rfl, rfl⟩
        go_wp2
        go_ret
        exact ⟨ret_bool R.out.symm, HB1.out⟩
      · have C1 := Lib.hid c1
        have C2 := Lib.hid c2
        have C3 := Lib.hid c3
        have R : Hid (v = false) := show v = false by rw [← hd.out, cb]; rfl
        clear c1 c2 c3 cb
        go_wp2_with fail
        refine (spec_NameOk t.s true C1.out hsz _).mono ?_
        rintro e w1 ⟨rfl, hb1⟩
        obtain ⟨hb, b0, b1, b2⟩ := NX.out w1 hb1
        have HB1 := Lib.hid hb
        clear hb1 A0 hb
        go_wp2_with fail
        refine (In_is t.lo _ _ true C2.out _).mono ?_
        rintro e w2 ⟨rfl, rfl⟩
        go_wp2_with fail
        refine (In_is t.hi _ _ false C3.out _).mono ?_
        rintro e w2 ⟨rfl, rfl⟩
        go_wp2
        go_ret
        exact ⟨ret_bool R.out.symm, HB1.out⟩
      · have C1 := Lib.hid c1
        have C2 := Lib.hid c2
        have C3 := Lib.hid c3
        have R : Hid (v = false) := show v = false by rw [← hd.out, cb]; rfl
        have hat := at9_early t.s rs k 0 c4
        rw [Nat.zero_add] at hat
        obtain ⟨p, hp⟩ : ∃ p, at9 rs 0 t.s = p := ⟨_, rfl⟩
        rw [hp] at hat
        have HP := Lib.hid hp
        have hne : (p == (k : Int)) = false := by rw [beq_eq_false_iff_ne]; omega
        clear c1 c2 c3 c4 cb hp
        go_wp2_with fail
        refine (spec_NameOk t.s true C1.out hsz _).mono ?_
        rintro e w1 ⟨rfl, hb1⟩
        obtain ⟨hb, b0, b1, b2⟩ := NX.out w1 hb1
        have HB1 := Lib.hid hb
        clear hb1 A0 hb
        go_wp2_with fail
        refine (In_is t.lo _ _ true C2.out _).mono ?_
        rintro e w2 ⟨rfl, rfl⟩
        go_wp2_with fail
        refine (In_is t.hi _ _ true C3.out _).mono ?_
        rintro e w2 ⟨rfl, rfl⟩
        go_wp2_with fail
        refine (l9At_is rs hn t.s _ _ (HR.out.later HB1.out)).mono ?_
        rintro e w2 ⟨rfl, rfl⟩
        rw [HP.out]
        clear hat
        go_wp2
        go_ret
        exact ⟨ret_bool R.out.symm, HB1.out⟩
      · have C1 := Lib.hid c1
        have C2 := Lib.hid c2
        have C3 := Lib.hid c3
        have R : Hid ((boxGo9 rs (k + 1) (rs.length - (k + 1)) && decide (rs.length ≤ 8)) = v) := show _ = v by rw [← hd.out, cb, Bool.true_and]
        have HP : Hid (at9 rs 0 t.s = (k : Int)) := by have := at9_hit t.s rs k 0 t c4 HT.out rfl; rwa [Nat.zero_add] at this
        clear c1 c2 c3 c4 cb
        go_wp2_with fail
        refine (spec_NameOk t.s true C1.out hsz _).mono ?_
        rintro e w1 ⟨rfl, hb1⟩
        obtain ⟨hb, b0, b1, b2⟩ := NX.out w1 hb1
        have HB1 := Lib.hid hb
        clear hb1 A0 hb
        go_wp2_with fail
        refine (In_is t.lo _ _ true C2.out _).mono ?_
        rintro e w2 ⟨rfl, rfl⟩
        go_wp2_with fail
        refine (In_is t.hi _ _ true C3.out _).mono ?_
        rintro e w2 ⟨rfl, rfl⟩
        go_wp2_with fail
        refine (l9At_is rs hn t.s _ _ (HR.out.later HB1.out)).mono ?_
        rintro e w2 ⟨rfl, rfl⟩
        rw [HP.out]
        go_wp2
        go_roundw
        case rel => exact ⟨k + 1, by omega, by go_num, R.out, HB1.out⟩
        case measure => simp [RowKit.intOf]; omega
    · have R : Hid (decide (rs.length ≤ 8) = v) := show _ = v by rw [← hg.out, show rs.length - k = 0 by omega]; rfl
      by_cases h8 : rs.length ≤ 8
      · have h8I : (rs.length : Int) ≤ 8 := by omega
        have R2 : Hid (v = true) := show v = true by rw [← R.out]; exact decide_eq_true h8
        clear h8
        go_wp2
        go_ret
        exact ⟨ret_bool R2.out.symm, HB.out⟩
      · have h8I : ¬ (rs.length : Int) ≤ 8 := by omega
        have R2 : Hid (v = false) := show v = false by rw [← R.out]; exact decide_eq_false h8
        have h8J : decide ((rs.length : Int) ≤ 8) = false := decide_eq_false h8I
        have h8K : decide (rs.length ≤ 8) = false := decide_eq_false h8
        clear h8
        go_wp2
        go_ret
        exact ⟨ret_bool R2.out.symm, HB.out⟩
set_option maxHeartbeats 2000000 in
set_option maxRecDepth 100000 in
theorem l9Full_is (rs : List RG) (hn : rs.length ≤ 1000000000) (hts : ∀ t ∈ rs, t.s.size ≤ 281474976710656) (va : Value) (w : World) (ha : RV w 0 va rs) (v : Bool) (hv : waysOk9 rs = v) :
    Calls Tryz.prog 77 #[va] w fun e w' => e = .returned (.bool v) ∧ Below w.heap.size w w' := by
  obtain ⟨ao, cap, rfl, hcap⟩ := id ha
  have HR := Lib.hid ha
  have Hr := Lib.hid hcap.2
  have Hts := Lib.hid hts
  have HV := Lib.hid hv
  clear ha hcap hv hts
  go_enter Tryz.func77, Tryz.ntmps77
  go_wp2
  go_loopw [3] (fun i wr => ∃ k : Nat, k ≤ rs.length ∧ i = .int .i64 k ∧ Hid ((rs.take k).any (fun r => decide (r.lo > r.hi)) = false) ∧ Hid (Below w.heap.size w wr)) (fun i _ => rs.length - (RowKit.intOf i).toNat)
  case atStart => exact ⟨0, by omega, rfl, rfl, Below.refl _ _⟩
  case round =>
    obtain ⟨k, hk, rfl, hg, HB⟩ := hrel
    by_cases hlt : k < rs.length
    · have hltI : (k : Int) < (rs.length : Int) := by omega
      obtain ⟨t, ht⟩ : ∃ t, rs[k]? = some t := ⟨rs[k], List.getElem?_eq_getElem hlt⟩
      rcases Hr.out with hr | ⟨g, off, rfl, _, gl, hc⟩
      · subst hr; simp at hlt
      have A1 := (HB.out.cell (p := ⟨g, off + k * 3 + 1, Option.none⟩) gl).trans (hc k t ht).2.1
      have A2 := (HB.out.cell (p := ⟨g, off + k * 3 + 2, Option.none⟩) gl).trans (hc k t ht).2.2
      have hkw : IntKind.i64.wrap (k : Int) = (k : Int) := wrap_small _ (by omega) (by omega)
      have HT := Lib.hid ht
      clear hc ht
      by_cases hd : t.lo > t.hi
      · have R : Hid (v = false) := by
          show v = false
          have : rs.any (fun r => decide (r.lo > r.hi)) = true := List.any_eq_true.2 ⟨t, List.mem_of_getElem? HT.out, decide_eq_true hd⟩
          rw [← HV.out, waysOk9, this]; simp
        go_wp2_with fail
        go_quiet (fail)
        go_wp2
        go_ret
        exact ⟨ret_bool R.out.symm, belowD9 HB.out _⟩
      · have R : Hid ((rs.take (k + 1)).any (fun r => decide (r.lo > r.hi)) = false) := by
          show List.any _ _ = false
          rw [take_snocR HT.out, List.any_append, hg.out]
          simp; omega
        have hd2 : ¬ t.hi < t.lo := hd
        clear hd
        go_wp2_with fail
        go_quiet (fail)
        go_wp2
        go_roundw
        case rel => exact ⟨k + 1, by omega, by go_num, R.out, belowD9 HB.out _⟩
        case measure => simp [RowKit.intOf]; omega
    · have R : Hid (boxOk9 rs = v) := by
        show boxOk9 rs = v
        have := hg.out
        rw [List.take_of_length_le (by omega)] at this
        rw [← HV.out, waysOk9, this]; simp
      go_wp2_with fail
      refine (spec_BoxOk rs hn Hts.out _ _ (HR.out.later HB.out) v R.out).mono ?_
      rintro e w1 ⟨rfl, hb1⟩
      have B1 := Lib.hid (HB.out.trans (hb1.mono HB.out.size))
      clear hb1
      go_wp2
      go_ret
      exact ⟨rfl, B1.out⟩
set_option maxHeartbeats 1000000 in
theorem hasWays_is (rs : List RG) (hn : rs.length ≤ 1000000000) (va : Value) (w : World) (ha : RV w 0 va rs) (v : Bool) (hv : waysOk9 rs = v) :
    Calls Tryz.prog 82 #[va] w fun e w' => e = .returned (.bool v) ∧ Below w.heap.size w w' := by
  have HR := Lib.hid ha
  clear ha
  cases hb : boxOk9 rs with
  | false =>
    have R : Hid (v = false) := show v = false by rw [← hv, waysOk9, hb]; rfl
    have HBk := Lib.hid hb
    clear hb hv
    go_enter Tryz.func82, Tryz.ntmps82
    go_wp2_with fail
    refine (impl_BoxOk rs hn va _ HR.out false HBk.out).mono ?_
    rintro e w1 ⟨rfl, hb1⟩
    have B1 := Lib.hid hb1
    clear hb1
    go_wp2
    go_ret
    exact ⟨ret_bool R.out.symm, B1.out⟩
  | true =>
    obtain ⟨c, hc⟩ : ∃ c, rs.any (fun r => decide (r.lo > r.hi)) = c := ⟨_, rfl⟩
    have R : Hid (v = !c) := show v = !c by rw [← hv, waysOk9, hb, hc]; rfl
    have HBk := Lib.hid hb
    have HC := Lib.hid hc
    clear hb hv hc
    go_enter Tryz.func82, Tryz.ntmps82
    go_wp2_with fail
    refine (impl_BoxOk rs hn va _ HR.out true HBk.out).mono ?_
    rintro e w1 ⟨rfl, hb1⟩
    have B1 := Lib.hid hb1
    clear hb1
    go_wp2_with fail
    refine (ContainsFunc9 rs hn (fun r => decide (r.lo > r.hi)) 93 #[] enters_hasWays (fun _ => True) (fun _ _ _ _ => trivial) (fun W _ t => hasWays1_is W t) va _ trivial (HR.out.later B1.out)).mono ?_
    rintro e w2 ⟨rfl, hb2⟩
    rw [HC.out]
    have B2 := Lib.hid (B1.out.trans (hb2.mono B1.out.size))
    clear hb2
    go_wp2
    go_ret
    exact ⟨ret_bool R.out.symm, B2.out⟩
end Go.Proofs.YtjdpddcnogdekaaGreat
