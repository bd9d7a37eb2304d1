/-
  Texts in one: EndS, EndsI.
-/
import Derived.Test.YtjdpddcnogdekaaGreatP15ofMx
import Derived.Test.YtjdpddcnogdekaaGreatAffOkS
import Derived.Test.YtjdpddcnogdekaaGreatP18ofMx
import Derived.RangeFuncNested
import Derived.RangeFuncBound
import Derived.RangeFuncCalls
import Derived.RangeFuncLeaves
import Derived.Shelf.Abstract
import Derived.Shelf.RegionOpen
import Derived.OwnWalkIn
import Derived.TacticsInMore
import Derived.LoopNIn
import Derived.LoopIn
import Derived.RangeFuncBox
/-
  l9End, Least and Most of the specification; namesWithin of the landed code.
-/
namespace Go.Proofs.YtjdpddcnogdekaaGreat
open Go.RowKit Go.Lib
set_option linter.unusedSimpArgs false
set_option linter.unusedVariables false

theorem at9_find (s : ByteArray) : ∀ (rs : List RG) (k : Nat), hasR9 rs s = true → ∃ j, rs[j]? = some (rg9 rs s) ∧ at9 rs k s = ((k + j : Nat) : Int)
  | [], k, h => by simp [hasR9] at h
  | r :: rs, k, h => by
    by_cases e : r.s = s
    · exact ⟨0, by simp [rg9, List.find?_cons, e], by rw [at9, if_pos e]; rfl⟩
    · obtain ⟨j, h1, h2⟩ := at9_find s rs (k + 1) (by simpa [hasR9, e] using h)
      refine ⟨j + 1, ?_, ?_⟩
      · have : rg9 (r :: rs) s = rg9 rs s := by simp [rg9, List.find?_cons, e]
        rw [this]; simpa using h1
      · rw [at9, if_neg e, h2]; omega
theorem at9_no (s : ByteArray) : ∀ (rs : List RG) (k : Nat), hasR9 rs s = false → at9 rs k s = -1
  | [], k, _ => rfl
  | r :: rs, k, h => by
    have : ¬ r.s = s ∧ hasR9 rs s = false := by simpa [hasR9] using h
    rw [at9, if_neg this.1, at9_no s rs (k + 1) this.2]
theorem okFrom8_mem : ∀ (p : Option ByteArray) (ts : List AR), okFrom8 p ts = true → ∀ t ∈ ts, -100000 ≤ t.n ∧ t.n ≤ 100000
  | _, [], _, t, h => by simp at h
  | p, u :: ts, h, t, ht => by
    rw [okFrom8, Bool.and_eq_true] at h
    rcases List.mem_cons.1 ht with rfl | ht
    · have := h.1; simp [termOk8, inMax8] at this; omega
    · exact okFrom8_mem _ ts h.2 t ht
theorem prod9 {n x : Int} (h1 : -100000 ≤ n) (h2 : n ≤ 100000) (h3 : -10000 ≤ x) (h4 : x ≤ 10000) : -1000000000 ≤ n * x ∧ n * x ≤ 1000000000 := by
  have hn : n.natAbs ≤ 100000 := by omega
  have hx : x.natAbs ≤ 10000 := by omega
  have h : (n * x).natAbs ≤ 1000000000 := by rw [Int.natAbs_mul]; exact Nat.mul_le_mul hn hx
  omega
theorem val9 {a b : Int} (h : a = b) : Value.int .i64 a = .int .i64 b := by rw [h]
set_option maxHeartbeats 4000000 in
set_option maxRecDepth 100000 in
theorem l9End_is (c : Int) (ts : List AR) (hn : ts.length ≤ 1000000000) (hts : ∀ t ∈ ts, t.s.size ≤ 281474976710656) (rs : List RG) (hm : rs.length ≤ 1000000000) (hrs : ∀ t ∈ rs, t.s.size ≤ 281474976710656) (most : Bool) (va vb : Value) (w : World) (ha : AV w 0 va ts) (hb : RV w 0 vb rs) :
    Calls Tryz.prog 60 #[.agg #[.int .i64 c, va], vb, .bool most] w fun e w' => e = farR9 (far9 most c ts rs) ∧ Below w.heap.size w w' := by
  have HX := Lib.hid (And.intro hts hrs)
  have T0 := Lib.hid (At8.start 26 (c := c) ha)
  have S0 := Lib.hid (hb.later (alloc_below w (.cells #[.int .i64 c, va] 26)))
  clear ha hb hts hrs
  cases hk : affOk8 c ts with
  | false =>
    have R : Hid (far9 most c ts rs = none) := show far9 most c ts rs = none by rw [far9, hk]; rfl
    have HK := Lib.hid hk
    clear hk
    go_enter Tryz.func60, Tryz.ntmps60
    go_wp2_with fail
    refine (spec_AffOk c ts hn HX.out.1 va _ T0.out.av false HK.out).mono ?_
    rintro e w1 ⟨rfl, hb1⟩
    have T1 := Lib.hid (T0.out.later hb1)
    clear hb1 T0 S0
    go_wp2
    exact bodyPost_ret (v := .tuple #[.int .i64 0, .bool false]) (by simp [results, Tryz.results60, go_sem]) rfl ⟨by rw [R.out]; rfl, T1.out.low⟩
  | true =>
    have HK := Lib.hid hk
    have HM := Lib.hid (okFrom8_mem none ts (by have := hk; simp only [affOk8, Bool.and_eq_true] at this; exact this.2))
    have HC : Hid (-100000 ≤ c ∧ c ≤ 100000) := by have := hk; simp [affOk8, inMax8] at this; exact this.1
    cases hw : waysOk9 rs with
    | false =>
      have R : Hid (far9 most c ts rs = none) := show far9 most c ts rs = none by rw [far9, hk, hw]; rfl
      have HW := Lib.hid hw
      clear hk hw
      go_enter Tryz.func60, Tryz.ntmps60
      go_wp2_with fail
      refine (spec_AffOk c ts hn HX.out.1 va _ T0.out.av true HK.out).mono ?_
      rintro e w1 ⟨rfl, hb1⟩
      have T1 := Lib.hid (T0.out.later hb1)
      have S1 := Lib.hid (S0.out.later hb1)
      clear hb1 T0 S0
      go_wp2_with fail
      refine (l9Full_is rs hm HX.out.2 vb _ S1.out false HW.out).mono ?_
      rintro e w2 ⟨rfl, hb1⟩
      have T2 := Lib.hid (T1.out.later hb1)
      clear hb1 T1 S1
      go_wp2
      exact bodyPost_ret (v := .tuple #[.int .i64 0, .bool false]) (by simp [results, Tryz.results60, go_sem]) rfl ⟨by rw [R.out]; rfl, T2.out.low⟩
    | true =>
      have R : Hid (far9 most c ts rs = if (ts.all fun t => hasR9 rs t.s) = true then some (IntKind.i64.wrap (c + sumT9 most rs ts)) else none) := show far9 most c ts rs = _ by rw [far9, hk, hw]; rfl
      have HW := Lib.hid hw
      have HF := Lib.hid (fit_of hw)
      clear hk hw
      go_enter Tryz.func60, Tryz.ntmps60
      go_wp2_with fail
      refine (spec_AffOk c ts hn HX.out.1 va _ T0.out.av true HK.out).mono ?_
      rintro e w1 ⟨rfl, hb1⟩
      have T1 := Lib.hid (T0.out.later hb1)
      have S1 := Lib.hid (S0.out.later hb1)
      clear hb1 T0 S0
      go_wp2_with fail
      refine (l9Full_is rs hm HX.out.2 vb _ S1.out true HW.out).mono ?_
      rintro e w2 ⟨rfl, hb1⟩
      have T2 := Lib.hid (T1.out.later hb1)
      have S2 := Lib.hid (S1.out.later hb1)
      clear hb1 T1 S1
      have x0 := T2.out.rg 0 _ rfl
      have x1 := T2.out.rg 1 _ rfl
      obtain ⟨ao, cap, rfl, hr⟩ := T2.out.av
      obtain ⟨bo, bcap, rfl, _, hq⟩ := S2.out
      have Hr := Lib.hid hr
      have Hq := Lib.hid hq
      clear hr hq
      go_wp2
      go_loop [8, 9] (fun x i => ∃ (k : Nat) (a : Int), k ≤ ts.length ∧ i = .int .i64 k ∧ x = .int .i64 a ∧ Hid (IntKind.i64.wrap (c + sumT9 most rs ts) = IntKind.i64.wrap (a + sumT9 most rs (ts.drop k)) ∧ (ts.take k).all (fun t => hasR9 rs t.s) = true ∧ -9223372036854775808 ≤ a ∧ a ≤ 9223372036854775807)) (fun _ i => ts.length - (RowKit.intOf i).toNat)
      case atStart => exact ⟨0, c, by omega, rfl, rfl, rfl, rfl, by have := HC.out.1; omega, by have := HC.out.2; omega⟩
      case round =>
        obtain ⟨k, a, hk, rfl, rfl, hg⟩ := hrel
        by_cases hlt : k < ts.length
        · have hltI : (k : Int) < (ts.length : Int) := by omega
          obtain ⟨t, ht⟩ : ∃ t, ts[k]? = some t := ⟨ts[k], List.getElem?_eq_getElem hlt⟩
          rcases Hr.out with hr | ⟨g, off, rfl, _, gl, hc⟩
          · subst hr; simp at hlt
          obtain ⟨A0, A1⟩ := hc k t ht
          have HT := Lib.hid ht
          obtain ⟨n1, n2⟩ := HM.out t (List.mem_of_getElem? ht)
          clear hc ht
          cases hh : hasR9 rs t.s with
          | false =>
            have RX : Hid (far9 most c ts rs = none) := by
              show far9 most c ts rs = none
              rw [R.out, if_neg]
              intro h
              have := List.all_eq_true.1 h t (List.mem_of_getElem? HT.out)
              rw [hh] at this; cases this
            have HP := Lib.hid (at9_no t.s rs 0 hh)
            clear hh
            go_wp2_with fail
            refine (l9At_is rs hm t.s _ _ S2.out).mono ?_
            rintro e w3 ⟨rfl, rfl⟩
            rw [HP.out]
            go_wp2
            exact bodyPost_ret (v := .tuple #[.int .i64 0, .bool false]) (by simp [results, Tryz.results60, go_sem]) rfl ⟨by rw [RX.out]; rfl, T2.out.low⟩
          | true =>
            obtain ⟨j, hj, hp⟩ := at9_find t.s rs 0 hh
            rw [Nat.zero_add] at hp
            obtain ⟨r, hrr⟩ : ∃ r, rg9 rs t.s = r := ⟨_, rfl⟩
            rw [hrr] at hj
            have hjl := (List.getElem?_eq_some_iff.1 hj).1
            have hjI : (j : Int) < (rs.length : Int) := by omega
            have hj0 : ¬ (j : Int) < 0 := by omega
            rcases Hq.out with hq | ⟨h, boff, rfl, _, gh, hd⟩
            · subst hq; simp at hjl
            obtain ⟨B0, B1, B2⟩ := hd j r hj
            obtain ⟨_, _, f3, f4, f5, f6⟩ := HF.out r (List.mem_of_getElem? hj)
            obtain ⟨p1, p2⟩ := prod9 n1 n2 f3 f4
            obtain ⟨p3, p4⟩ := prod9 n1 n2 f5 f6
            have e1 : IntKind.i64.wrap (t.n * r.lo) = t.n * r.lo := by rw [IntKind.wrap_i64]; omega
            have e2 : IntKind.i64.wrap (t.n * r.hi) = t.n * r.hi := by rw [IntKind.wrap_i64]; omega
            have HP := Lib.hid hp
            have G : ∀ b, end9 most t.n r = b → Hid (IntKind.i64.wrap (c + sumT9 most rs ts) = IntKind.i64.wrap (IntKind.i64.wrap (a + b) + sumT9 most rs (ts.drop (k + 1))) ∧ (ts.take (k + 1)).all (fun t => hasR9 rs t.s) = true ∧ -9223372036854775808 ≤ IntKind.i64.wrap (a + b) ∧ IntKind.i64.wrap (a + b) ≤ 9223372036854775807) := fun b hb => by
              refine ⟨?_, ?_, ?_, ?_⟩
              · rw [hg.out.1, drop8 HT.out, sumT9, hrr, hb, wrap_add9]; congr 1; omega
              · rw [take_snocA HT.out, List.all_append, hg.out.2.1]; simp [hh]
              · rw [IntKind.wrap_i64]; omega
              · rw [IntKind.wrap_i64]; omega
            have HG : Hid (∀ b, end9 most t.n r = b → Hid (IntKind.i64.wrap (c + sumT9 most rs ts) = IntKind.i64.wrap (wrap64 (a + b) + sumT9 most rs (ts.drop (k + 1))) ∧ (ts.take (k + 1)).all (fun t => hasR9 rs t.s) = true ∧ -9223372036854775808 ≤ wrap64 (a + b) ∧ wrap64 (a + b) ≤ 9223372036854775807)) := fun b hb => by have := (G b hb).out; rw [wrapE9 (a + b)] at this; exact this
            clear G hj hjl hd hrr hh p1 p2 p3 p4 hp
            by_cases hpos : t.n > 0
            · cases most with
              | true =>
                have RX := HG.out (t.n * r.hi) (by rw [end9, decide_eq_true hpos]; rfl)
                go_wp2_with fail
                refine (l9At_is rs hm t.s _ _ S2.out).mono ?_
                rintro e w3 ⟨rfl, rfl⟩
                rw [HP.out]
                go_wp2
                go_round
                case rel => exact ⟨k + 1, _, by omega, by go_num, rfl, RX⟩
                case measure => simp [RowKit.intOf]; omega
              | false =>
                have RX := HG.out (t.n * r.lo) (by rw [end9, decide_eq_true hpos]; rfl)
                go_wp2_with fail
                refine (l9At_is rs hm t.s _ _ S2.out).mono ?_
                rintro e w3 ⟨rfl, rfl⟩
                rw [HP.out]
                go_wp2
                go_round
                case rel => exact ⟨k + 1, _, by omega, by go_num, rfl, RX⟩
                case measure => simp [RowKit.intOf]; omega
            · have hpf : decide (t.n > 0) = false := decide_eq_false hpos
              cases most with
              | true =>
                have RX := HG.out (t.n * r.lo) (by rw [end9, hpf]; rfl)
                go_wp2_with fail
                refine (l9At_is rs hm t.s _ _ S2.out).mono ?_
                rintro e w3 ⟨rfl, rfl⟩
                rw [HP.out]
                go_wp2
                go_round
                case rel => exact ⟨k + 1, _, by omega, by go_num, rfl, RX⟩
                case measure => simp [RowKit.intOf]; omega
              | false =>
                have RX := HG.out (t.n * r.hi) (by rw [end9, hpf]; rfl)
                go_wp2_with fail
                refine (l9At_is rs hm t.s _ _ S2.out).mono ?_
                rintro e w3 ⟨rfl, rfl⟩
                rw [HP.out]
                go_wp2
                go_round
                case rel => exact ⟨k + 1, _, by omega, by go_num, rfl, RX⟩
                case measure => simp [RowKit.intOf]; omega
        · have RX : Hid (far9 most c ts rs = some a) := by
            have h2 := hg.out.2.1
            rw [List.take_of_length_le (by omega)] at h2
            show far9 most c ts rs = some a
            rw [R.out, if_pos h2, hg.out.1, List.drop_of_length_le (by omega)]
            show some (IntKind.i64.wrap (a + 0)) = some a
            congr 1
            have := hg.out.2.2
            rw [IntKind.wrap_i64]; omega
          go_wp2
          exact bodyPost_ret (v := .tuple #[.int .i64 a, .bool true]) (by simp [results, Tryz.results60, go_sem]) rfl ⟨by rw [RX.out]; rfl, T2.out.low⟩
theorem spec_Least (c : Int) (ts : List AR) (hn : ts.length ≤ 1000000000) (hts : ∀ t ∈ ts, t.s.size ≤ 281474976710656) (rs : List RG) (hm : rs.length ≤ 1000000000) (hrs : ∀ t ∈ rs, t.s.size ≤ 281474976710656) (va vb : Value) (w : World) (ha : AV w 0 va ts) (hb : RV w 0 vb rs) :
    Calls Tryz.prog 36 #[.agg #[.int .i64 c, va], vb] w fun e w' => e = farR9 (far9 false c ts rs) ∧ Below w.heap.size w w' := by
  have B := Lib.hid (alloc_below w (.cells #[.int .i64 c, va] 26))
  have HX := Lib.hid (l9End_is c ts hn hts rs hm hrs false va vb _ (ha.later B.out) (hb.later B.out))
  clear ha hb hts hrs
  go_enter Tryz.func36, Tryz.ntmps36
  go_wp2_with fail
  refine HX.out.mono ?_
  rintro e w1 ⟨he, hb1⟩
  rw [farR9] at he
  subst he
  have B1 := Lib.hid (B.out.trans (hb1.mono B.out.size))
  clear hb1
  go_wp2
  exact bodyPost_ret (v := .tuple #[.int .i64 ((far9 false c ts rs).getD 0), .bool (far9 false c ts rs).isSome]) (by simp [results, Tryz.results36, go_sem]) rfl ⟨rfl, B1.out⟩
theorem spec_Most (c : Int) (ts : List AR) (hn : ts.length ≤ 1000000000) (hts : ∀ t ∈ ts, t.s.size ≤ 281474976710656) (rs : List RG) (hm : rs.length ≤ 1000000000) (hrs : ∀ t ∈ rs, t.s.size ≤ 281474976710656) (va vb : Value) (w : World) (ha : AV w 0 va ts) (hb : RV w 0 vb rs) :
    Calls Tryz.prog 37 #[.agg #[.int .i64 c, va], vb] w fun e w' => e = farR9 (far9 true c ts rs) ∧ Below w.heap.size w w' := by
  have B := Lib.hid (alloc_below w (.cells #[.int .i64 c, va] 26))
  have HX := Lib.hid (l9End_is c ts hn hts rs hm hrs true va vb _ (ha.later B.out) (hb.later B.out))
  clear ha hb hts hrs
  go_enter Tryz.func37, Tryz.ntmps37
  go_wp2_with fail
  refine HX.out.mono ?_
  rintro e w1 ⟨he, hb1⟩
  rw [farR9] at he
  subst he
  have B1 := Lib.hid (B.out.trans (hb1.mono B.out.size))
  clear hb1
  go_wp2
  exact bodyPost_ret (v := .tuple #[.int .i64 ((far9 true c ts rs).getD 0), .bool (far9 true c ts rs).isSome]) (by simp [results, Tryz.results37, go_sem]) rfl ⟨rfl, B1.out⟩
set_option maxHeartbeats 1000000 in
theorem namesWithin_is (c : Int) (ts : List AR) (hn : ts.length ≤ 1000000000) (rs : List RG) (hm : rs.length ≤ 1000000000) (va vb : Value) (w : World) (ha : AV w 0 va ts) (hb : RV w 0 vb rs) (v : Bool) (hv : (ts.all fun t => hasR9 rs t.s) = v) :
    Calls Tryz.prog 91 #[.agg #[.int .i64 c, va], vb] w fun e w' => e = .returned (.bool v) ∧ Below w.heap.size w w' := by
  have HV := Lib.hid hv
  have HB0 := Lib.hid hb
  obtain ⟨ao, cap, rfl, hr⟩ := ha
  have Hr := Lib.hid hr
  clear hr hb hv
  have hc1 : (w.alloc (.cells #[.int .i64 c, .slice ao ts.length cap] 26)).cell? ⟨w.heap.size, 1, Option.none⟩ = some (.slice ao ts.length cap) := box_cell (i := 1) (Below.refl _ _) rfl
  have B := Lib.hid (alloc_below w (.cells #[.int .i64 c, .slice ao ts.length cap] 26))
  go_enter Tryz.func91, Tryz.ntmps91
  go_wp2
  go_loopw [10] (fun i wr => ∃ k : Nat, k ≤ ts.length ∧ i = .int .i64 k ∧ Hid ((ts.drop k).all (fun t => hasR9 rs t.s) = v) ∧ Hid (Below w.heap.size w wr)) (fun i _ => ts.length - (RowKit.intOf i).toNat)
  case atStart => exact ⟨0, by omega, rfl, HV.out, B⟩
  case round =>
    obtain ⟨k, hk, rfl, hg, HB⟩ := hrel
    clear hc1
    by_cases hlt : k < ts.length
    · have hltI : (k : Int) < (ts.length : Int) := by omega
      obtain ⟨t, ht⟩ : ∃ t, ts[k]? = some t := ⟨ts[k], List.getElem?_eq_getElem hlt⟩
      rcases Hr.out with hr | ⟨g, off, rfl, _, gl, hc⟩
      · subst hr; simp at hlt
      have A0 := (HB.out.cell (p := ⟨g, off + k * 2, Option.none⟩) gl).trans (hc k t ht).1
      have A1 := (HB.out.cell (p := ⟨g, off + k * 2 + 1, Option.none⟩) gl).trans (hc k t ht).2
      have hd : Hid ((hasR9 rs t.s && (ts.drop (k + 1)).all (fun t => hasR9 rs t.s)) = v) := show _ = v by rw [← hg.out, drop8 ht]; rfl
      have HB2 := Lib.hid (HB.out.trans ((alloc_below wr (.cells #[.string t.s, .int .i64 t.n] 70)).mono HB.out.size))
      clear hc ht
      cases hh : hasR9 rs t.s with
      | false =>
        have R : Hid (v = false) := show v = false by rw [← hd.out, hh]; rfl
        have HH := Lib.hid hh
        clear hh
        go_wp2_with fail
        refine (hasRng_is rs hm t.s vb _ (HB0.out.later HB2.out) false HH.out).mono ?_
        rintro e w1 ⟨rfl, hb1⟩
        have B1 := Lib.hid (HB2.out.trans (hb1.mono HB2.out.size))
        clear hb1
        go_wp2
        go_ret
        exact ⟨ret_bool R.out.symm, B1.out⟩
      | true =>
        have R : Hid ((ts.drop (k + 1)).all (fun t => hasR9 rs t.s) = v) := show _ = v by rw [← hd.out, hh]; rfl
        have HH := Lib.hid hh
        clear hh
        go_wp2_with fail
        refine (hasRng_is rs hm t.s vb _ (HB0.out.later HB2.out) true HH.out).mono ?_
        rintro e w1 ⟨rfl, hb1⟩
        have B1 := Lib.hid (HB2.out.trans (hb1.mono HB2.out.size))
        clear hb1
        go_wp2
        go_roundw
        case rel => exact ⟨k + 1, by omega, by go_num, R.out, B1.out⟩
        case measure => simp [RowKit.intOf]; omega
    · have R : Hid (v = true) := show v = true by rw [← hg.out, List.drop_of_length_le (by omega)]; rfl
      go_wp2
      go_ret
      exact ⟨ret_bool R.out.symm, HB.out⟩
end Go.Proofs.YtjdpddcnogdekaaGreat
/-
  What endsOf hands back: it goes through a box and tells each range's ends.
-/
namespace Go.Proofs.YtjdpddcnogdekaaGreat
open Go.RowKit Go.Lib Go.Shelf
set_option linter.unusedSimpArgs false
set_option linter.unusedVariables false

attribute [local go_sem] Oper.semAt_some

/-- What a range's ends come to. -/
def en9 (ts : List AR) (r : RG) : Int × Int := (coefA ts r.s * r.lo, coefA ts r.s * r.hi)
abbrev encs9 (x : Int × Int) : Array Value := #[.int .i64 x.1, .int .i64 x.2]
theorem coefA_bd (s : ByteArray) : ∀ (ts : List AR), (∀ t ∈ ts, -100000 ≤ t.n ∧ t.n ≤ 100000) → -100000 ≤ coefA ts s ∧ coefA ts s ≤ 100000
  | [], _ => by simp [coefA]
  | t :: ts, h => by
    rw [coefA]
    split
    · exact h t (by simp)
    · exact coefA_bd s ts (fun u hu => h u (by simp [hu]))
/-- Below n nothing has turned but one block. -/
structure K9 (n S : Nat) (A B : World) : Prop where
  os : B.os = A.os
  tape : B.tape = A.tape
  output : B.output = A.output
  size : A.heap.size ≤ B.heap.size
  block : ∀ k, k < n → k ≠ S → B.heap[k]? = A.heap[k]?
theorem K9.refl (n S : Nat) (A : World) : K9 n S A A := ⟨rfl, rfl, rfl, Nat.le_refl _, fun _ _ _ => rfl⟩
theorem K9.trans {n S : Nat} {A B C : World} (h : K9 n S A B) (k : K9 n S B C) : K9 n S A C := ⟨k.os.trans h.os, k.tape.trans h.tape, k.output.trans h.output, Nat.le_trans h.size k.size, fun j h1 h2 => (k.block j h1 h2).trans (h.block j h1 h2)⟩
theorem K9.of {n S : Nat} {A B : World} (h : Below n A B) : K9 n S A B := ⟨h.os, h.tape, h.output, h.size, fun k hk _ => h.block k hk⟩
theorem K9.cell {n S : Nat} {A B : World} (h : K9 n S A B) {p : Addr} (hp : p.block < n ∧ p.block ≠ S) : B.cell? p = A.cell? p := by simp only [World.cell?, h.block _ hp.1 hp.2]
theorem grown_none {w w' : World} (h : Below w.heap.size w w') : w.grownBy w' none := ⟨h.os, h.tape, h.output, h.size, fun k hk _ => h.block k hk⟩
set_option maxRecDepth 100000 in
set_option maxHeartbeats 4000000 in
theorem ends_in (l pb pa n₀ S : Nat) (c : Int) (ts : List AR) (hn : ts.length ≤ 1000000000) (hT : ∀ t ∈ ts, -100000 ≤ t.n ∧ t.n ≤ 100000) (rs : List RG) (hm : rs.length ≤ 1000000000) (hF : Fit9 rs) (va vb : Value) (J Jx : List (Int × Int) → World → Prop) (W : World) (hn₀ : n₀ ≤ W.heap.size)
    (hAb : AbidesFrom W.heap.size J)
    (hY : ∀ pre (x : Int × Int) W1, J pre W1 → pre.length < rs.length → YieldAt Fence.wide 1 Tryz.prog l #[.int .i64 x.1, .int .i64 x.2] W1 fun e W' =>
      (e = .returned (.bool true) ∧ J (pre ++ [x]) W' ∧ K9 n₀ S W1 W') ∨ (e = .returned (.bool false) ∧ Jx (pre ++ [x]) W'))
    (hb : W.cell? ⟨pb, 0, Option.none⟩ = some vb) (ha0 : W.cell? ⟨pa, 0, Option.none⟩ = some (.int .i64 c)) (ha1 : W.cell? ⟨pa, 1, Option.none⟩ = some va) (hbn : pb < n₀ ∧ pb ≠ S) (han : pa < n₀ ∧ pa ≠ S)
    (hAV : AV W 0 va ts) (hAn : ∀ k, va.ownBlock = some k → ts ≠ [] → k < n₀ ∧ k ≠ S) (hRV : RV W 0 vb rs) (hRn : ∀ k, vb.ownBlock = some k → rs ≠ [] → k < n₀ ∧ k ≠ S) (h0 : J [] W) :
    CallsIn Fence.wide 2 Tryz.prog 98 #[.func (.yield l) #[] #[], .pointer (some ⟨pb, 0, Option.none⟩), .pointer (some ⟨pa, 0, Option.none⟩)] W fun e W' => (∃ v, e = .returned v) ∧
      ((∃ ys, ys = rs.map (en9 ts) ∧ J ys W') ∨ (∃ pre, True ∧ Jx pre W')) := by
  have HA := Lib.hid hAV
  obtain ⟨ao, acap, rfl, har⟩ := hAV
  obtain ⟨bo, bcap, rfl, _, hbr⟩ := hRV
  have Har := Lib.hid har
  have Hbr := Lib.hid hbr
  have HT := Lib.hid hT
  have HF := Lib.hid hF
  have HAb := Lib.hid hAb
  clear har hbr hT hF hAb
  refine callsIn_of_wp Tryz.func98 rfl trivial ?_ rfl
  simp only [Tryz.ntmps98, List.size_toArray, List.length_cons, List.length_nil, Nat.reduceAdd, Nat.reduceSub, Array.replicate_succ, Array.replicate_zero, List.push_toArray, List.append_toArray, List.nil_append, List.cons_append]
  gi_wp2
  gi_loopw [9] (fun i wr => ∃ k : Nat, k ≤ rs.length ∧ i = .int .i64 (k : Int) ∧ J ((rs.take k).map (en9 ts)) wr ∧ K9 n₀ S W wr)
    (fun i _ => rs.length - (RowKit.intOf i).toNat)
  case atStart => exact ⟨0, Nat.zero_le _, rfl, h0, K9.refl _ _ _⟩
  case round =>
    obtain ⟨k, hk, rfl, hJs, hnx⟩ := hrel
    by_cases hlt : k < rs.length
    · have hltI : (k : Int) < (rs.length : Int) := by omega
      obtain ⟨r, hrr⟩ : ∃ r, rs[k]? = some r := ⟨rs[k], List.getElem?_eq_getElem hlt⟩
      rcases Hbr.out with hq | ⟨g, off, rfl, _, gl, hc⟩
      · subst hq; simp at hlt
      have hgn := hRn g rfl (fun e => by subst e; simp at hlt)
      have A0 := (hnx.cell (p := ⟨g, off + k * 3, Option.none⟩) hgn).trans (hc k r hrr).1
      have A1 := (hnx.cell (p := ⟨g, off + k * 3 + 1, Option.none⟩) hgn).trans (hc k r hrr).2.1
      have A2 := (hnx.cell (p := ⟨g, off + k * 3 + 2, Option.none⟩) hgn).trans (hc k r hrr).2.2
      have p0 := (hnx.cell (p := ⟨pa, 0, Option.none⟩) han).trans ha0
      have p1 := (hnx.cell (p := ⟨pa, 1, Option.none⟩) han).trans ha1
      have p0' := keeps (alloc_below wr (.cells #[.string r.s, .int .i64 r.lo, .int .i64 r.hi] 32)) p0
      have p1' := keeps (alloc_below wr (.cells #[.string r.s, .int .i64 r.lo, .int .i64 r.hi] 32)) p1
      clear p0 p1
      have hAVr : AV wr 0 (.slice ao ts.length acap) ts := by
        refine ⟨ao, acap, rfl, ?_⟩
        rcases Har.out with h | ⟨g2, off2, e1, e2, e3, e4⟩
        · exact .inl h
        · by_cases hte : ts = []
          · exact .inl hte
          · have hg2 := hAn g2 (by rw [e1]; rfl) hte
            exact .inr ⟨g2, off2, e1, e2, Nat.lt_of_lt_of_le e3 hnx.size, fun i t hi => ⟨(hnx.cell (p := ⟨g2, off2 + i * 2, Option.none⟩) hg2).trans (e4 i t hi).1, (hnx.cell (p := ⟨g2, off2 + i * 2 + 1, Option.none⟩) hg2).trans (e4 i t hi).2⟩⟩
      have HS : Hid ((rs.take (k + 1)).map (en9 ts) = (rs.take k).map (en9 ts) ++ [en9 ts r]) := show _ = _ by rw [take_snocR hrr, List.map_append]; rfl
      obtain ⟨_, _, f3, f4, f5, f6⟩ := HF.out r (List.mem_of_getElem? hrr)
      obtain ⟨n1, n2⟩ := coefA_bd r.s ts HT.out
      obtain ⟨m1, m2⟩ := prod9 n1 n2 f3 f4
      obtain ⟨m3, m4⟩ := prod9 n1 n2 f5 f6
      obtain ⟨q, hq⟩ : ∃ q, coefA ts r.s = q := ⟨_, rfl⟩
      rw [hq] at m1 m2 m3 m4
      have HQ := Lib.hid hq
      have e1 : IntKind.i64.wrap (q * r.lo) = q * r.lo := by rw [IntKind.wrap_i64]; omega
      have e2 : IntKind.i64.wrap (q * r.hi) = q * r.hi := by rw [IntKind.wrap_i64]; omega
      have HJ := Lib.hid hJs
      have HN := Lib.hid hnx
      have hlen : Hid (((rs.take k).map (en9 ts)).length < rs.length) := show _ < _ by rw [List.length_map, List.length_take]; omega
      have hAVq := hAVr.later (alloc_below wr (.cells #[.string r.s, .int .i64 r.lo, .int .i64 r.hi] 32))
      obtain ⟨b0, b1, b2⟩ := blk3 (heap_last wr (.cells #[.string r.s, .int .i64 r.lo, .int .i64 r.hi] 32))
      have HB := Lib.hid (And.intro b0 (And.intro b1 b2))
      have HAV := Lib.hid hAVq
      clear hc hrr hJs hnx n1 n2 m1 m2 m3 m4 hq hAVr hAVq b0 b1 b2 f3 f4 f5 f6
      gi_wp2_with fail
      refine ⟨trivial, (callsIn_wide.2 (impl_CoefOf c ts hn r.s _ _ HAV.out)).mono ?_⟩
      rintro e w3 ⟨rfl, hb3⟩
      rw [HQ.out]
      have hw3 : Below wr.heap.size wr w3 := below_alloc hb3
      have J3 := HAb.out _ _ _ _ HJ.out (grown_none hw3) (fun r e => by cases e)
      have N3 := Lib.hid (HN.out.trans (K9.of (hw3.mono (Nat.le_trans hn₀ HN.out.size))))
      have B1 := (hb3.cell (p := ⟨wr.heap.size, 1, Option.none⟩) (by simp)).trans HB.out.2.1
      have B2 := (hb3.cell (p := ⟨wr.heap.size, 2, Option.none⟩) (by simp)).trans HB.out.2.2
      have HE : Hid (en9 ts r = (q * r.lo, q * r.hi)) := show en9 ts r = _ by rw [en9, HQ.out]
      obtain ⟨fn, tmps, assign, body, hy, hR⟩ := hY _ (q * r.lo, q * r.hi) w3 J3 hlen.out
      dsimp only at hy
      clear hb3 hw3 J3 A0 A1 A2 p0' p1'
      gi_wp2
      refine hR.mono ?_
      rintro e W3 (⟨rfl, hJ3, hk3⟩ | ⟨rfl, hJx3⟩)
      · rw [← HE.out, ← HS.out] at hJ3
        have HJ3 := Lib.hid hJ3
        have HK3 := Lib.hid (N3.out.trans hk3)
        clear hJ3 hk3
        gi_wp2
        go_roundw
        case rel => exact ⟨k + 1, by omega, by go_num, HJ3.out, HK3.out⟩
        case measure => simp [RowKit.intOf]; try omega
      · have HJx3 := Lib.hid hJx3
        clear hJx3
        gi_wp2
        refine bodyPost_ret (results_none rfl _ _ _) rfl ?_
        exact ⟨⟨_, rfl⟩, .inr ⟨_, trivial, HJx3.out⟩⟩
    · have hkk : rs.take k = rs := List.take_of_length_le (by omega)
      rw [hkk] at hJs
      have HJ := Lib.hid hJs
      clear hJs
      gi_wp2
      go_end0
      exact ⟨⟨_, rfl⟩, .inl ⟨_, rfl, HJ.out⟩⟩
end Go.Proofs.YtjdpddcnogdekaaGreat
