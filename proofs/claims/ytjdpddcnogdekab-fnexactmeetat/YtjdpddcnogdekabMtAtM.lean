/-
  MeetAt of the specification.
-/
import Derived.Test.YtjdpddcnogdekabP52ofMa
import Derived.Test.YtjdpddcnogdekabAffOkS
import Derived.BigQuiet
namespace Go.Proofs.Ytjdpddcnogdekab
open Go.RowKit Go.Lib
set_option linter.unusedSimpArgs false
set_option linter.unusedVariables false

theorem told_l11 {rs : List RG} {b : Bool} (h : told11 rs = b) : (decide (1 ≤ rounds9 rs) && decide (rounds9 rs ≤ 600)) = b := by
  rw [← h, told11]
  rfl
set_option maxHeartbeats 4000000 in
set_option maxRecDepth 100000 in
theorem smeetA (c : Int) (ts : List AR) (hn : ts.length ≤ 1000000000) (hts : ∀ t ∈ ts, t.s.size ≤ 281474976710656) (d : Int) (us : List AR) (hn2 : us.length ≤ 1000000000) (hus : ∀ t ∈ us, t.s.size ≤ 281474976710656) (s : ByteArray) (i k : Int) (rs : List RG) (hm : rs.length ≤ 10000000) (hrs : ∀ t ∈ rs, t.s.size ≤ 281474976710656) (va vb vr : Value) (w : World) (ha : AV w 0 va ts) (hb : AV w 0 vb us) (hr : RV w 0 vr rs) (v : Bool) (ht : told11 rs = false) (hv : v = false) :
    Calls Try.prog 11 #[.agg #[.int .i64 c, va], .agg #[.int .i64 d, vb], .string s, .int .i64 i, .int .i64 k, vr] w fun e w' => e = .returned (.bool v) ∧ Below w.heap.size w w' := by
  have T0 := Lib.hid (Two11.start w c d 30 ha hb hr)
  have HM := Lib.hid (And.intro hn (And.intro hn2 hm))
  have HS := Lib.hid (And.intro hts (And.intro hus hrs))
  obtain ⟨a1, c1, rfl⟩ := ha.shape
  obtain ⟨a2, c2, rfl⟩ := hb.shape
  obtain ⟨a3, c3, rfl⟩ := hr.shape
  have HT := Lib.hid ht
  have HV := Lib.hid hv
  clear ha hb hr hn hn2 hm hts hus hrs ht hv
  go_enter Try.func11, Try.ntmps11
  go_wp2_with fail
  refine (spec_Rounds rs (by have := HM.out; omega) HS.out.2.2 _ _ T0.out.rr).mono ?_
  rintro e w1 ⟨rfl, hb1⟩
  have T1 := Lib.hid (T0.out.later hb1)
  clear hb1 T0
  obtain ⟨R, hR⟩ : ∃ R, Hid (rounds9 rs = R) := ⟨_, rfl⟩
  have TL : Hid ((decide (1 ≤ R) && decide (R ≤ 600)) = false) := show _ = _ by rw [← hR.out]; exact told_l11 HT.out
  rw [hR.out]
  go_wp2_with fail
  refine (l1In_is _ _ _ _ TL.out _).mono ?_
  rintro e w2 ⟨rfl, rfl⟩
  clear TL
  go_wp2
  go_ret
  exact ⟨by rw [HV.out]; rfl, T1.out.low⟩
set_option maxHeartbeats 4000000 in
set_option maxRecDepth 100000 in
theorem smeetB (c : Int) (ts : List AR) (hn : ts.length ≤ 1000000000) (hts : ∀ t ∈ ts, t.s.size ≤ 281474976710656) (d : Int) (us : List AR) (hn2 : us.length ≤ 1000000000) (hus : ∀ t ∈ us, t.s.size ≤ 281474976710656) (s : ByteArray) (i k : Int) (rs : List RG) (hm : rs.length ≤ 10000000) (hrs : ∀ t ∈ rs, t.s.size ≤ 281474976710656) (va vb vr : Value) (w : World) (ha : AV w 0 va ts) (hb : AV w 0 vb us) (hr : RV w 0 vr rs) (v : Bool) (ht : told11 rs = true) (ho : affOk8 c ts = false) (hv : v = false) :
    Calls Try.prog 11 #[.agg #[.int .i64 c, va], .agg #[.int .i64 d, vb], .string s, .int .i64 i, .int .i64 k, vr] w fun e w' => e = .returned (.bool v) ∧ Below w.heap.size w w' := by
  have T0 := Lib.hid (Two11.start w c d 30 ha hb hr)
  have HM := Lib.hid (And.intro hn (And.intro hn2 hm))
  have HS := Lib.hid (And.intro hts (And.intro hus hrs))
  obtain ⟨a1, c1, rfl⟩ := ha.shape
  obtain ⟨a2, c2, rfl⟩ := hb.shape
  obtain ⟨a3, c3, rfl⟩ := hr.shape
  have HT := Lib.hid ht
  have HV := Lib.hid hv
  have HO := Lib.hid ho
  clear ha hb hr hn hn2 hm hts hus hrs ht hv ho
  go_enter Try.func11, Try.ntmps11
  go_wp2_with fail
  refine (spec_Rounds rs (by have := HM.out; omega) HS.out.2.2 _ _ T0.out.rr).mono ?_
  rintro e w1 ⟨rfl, hb1⟩
  have T1 := Lib.hid (T0.out.later hb1)
  clear hb1 T0
  obtain ⟨R, hR⟩ : ∃ R, Hid (rounds9 rs = R) := ⟨_, rfl⟩
  have TL : Hid ((decide (1 ≤ R) && decide (R ≤ 600)) = true) := show _ = _ by rw [← hR.out]; exact told_l11 HT.out
  rw [hR.out]
  go_wp2_with fail
  refine (l1In_is _ _ _ _ TL.out _).mono ?_
  rintro e w2 ⟨rfl, rfl⟩
  clear TL
  obtain ⟨D0, D1⟩ := And.intro (cellC11 T1.out.r1) (cellT11 T1.out.r1)
  go_wp2_with fail
  refine (spec_AffOk c ts HM.out.1 HS.out.1 _ _ T1.out.a1 false HO.out).mono ?_
  rintro e w3 ⟨rfl, hb1⟩
  have T2 := Lib.hid (T1.out.later hb1)
  clear hb1 T1 D0 D1
  go_wp2
  go_ret
  exact ⟨by rw [HV.out]; rfl, T2.out.low⟩
set_option maxHeartbeats 4000000 in
set_option maxRecDepth 100000 in
theorem smeetC (c : Int) (ts : List AR) (hn : ts.length ≤ 1000000000) (hts : ∀ t ∈ ts, t.s.size ≤ 281474976710656) (d : Int) (us : List AR) (hn2 : us.length ≤ 1000000000) (hus : ∀ t ∈ us, t.s.size ≤ 281474976710656) (s : ByteArray) (i k : Int) (rs : List RG) (hm : rs.length ≤ 10000000) (hrs : ∀ t ∈ rs, t.s.size ≤ 281474976710656) (va vb vr : Value) (w : World) (ha : AV w 0 va ts) (hb : AV w 0 vb us) (hr : RV w 0 vr rs) (v : Bool) (ht : told11 rs = true) (ho : affOk8 c ts = true) (ho2 : affOk8 d us = false) (hv : v = false) :
    Calls Try.prog 11 #[.agg #[.int .i64 c, va], .agg #[.int .i64 d, vb], .string s, .int .i64 i, .int .i64 k, vr] w fun e w' => e = .returned (.bool v) ∧ Below w.heap.size w w' := by
  have T0 := Lib.hid (Two11.start w c d 30 ha hb hr)
  have HM := Lib.hid (And.intro hn (And.intro hn2 hm))
  have HS := Lib.hid (And.intro hts (And.intro hus hrs))
  obtain ⟨a1, c1, rfl⟩ := ha.shape
  obtain ⟨a2, c2, rfl⟩ := hb.shape
  obtain ⟨a3, c3, rfl⟩ := hr.shape
  have HT := Lib.hid ht
  have HV := Lib.hid hv
  have HO := Lib.hid ho
  have HO2 := Lib.hid ho2
  clear ha hb hr hn hn2 hm hts hus hrs ht hv ho ho2
  go_enter Try.func11, Try.ntmps11
  go_wp2_with fail
  refine (spec_Rounds rs (by have := HM.out; omega) HS.out.2.2 _ _ T0.out.rr).mono ?_
  rintro e w1 ⟨rfl, hb1⟩
  have T1 := Lib.hid (T0.out.later hb1)
  clear hb1 T0
  obtain ⟨R, hR⟩ : ∃ R, Hid (rounds9 rs = R) := ⟨_, rfl⟩
  have TL : Hid ((decide (1 ≤ R) && decide (R ≤ 600)) = true) := show _ = _ by rw [← hR.out]; exact told_l11 HT.out
  rw [hR.out]
  go_wp2_with fail
  refine (l1In_is _ _ _ _ TL.out _).mono ?_
  rintro e w2 ⟨rfl, rfl⟩
  clear TL
  obtain ⟨D0, D1⟩ := And.intro (cellC11 T1.out.r1) (cellT11 T1.out.r1)
  go_wp2_with fail
  refine (spec_AffOk c ts HM.out.1 HS.out.1 _ _ T1.out.a1 true HO.out).mono ?_
  rintro e w3 ⟨rfl, hb1⟩
  have T2 := Lib.hid (T1.out.later hb1)
  clear hb1 T1 D0 D1
  obtain ⟨D0, D1⟩ := And.intro (cellC11 T2.out.r2) (cellT11 T2.out.r2)
  go_wp2_with fail
  refine (spec_AffOk d us HM.out.2.1 HS.out.2.1 _ _ T2.out.a2 false HO2.out).mono ?_
  rintro e w4 ⟨rfl, hb1⟩
  have T3 := Lib.hid (T2.out.later hb1)
  clear hb1 T2 D0 D1
  go_wp2
  go_ret
  exact ⟨by rw [HV.out]; rfl, T3.out.low⟩
set_option maxHeartbeats 4000000 in
set_option maxRecDepth 100000 in
theorem smeetD (c : Int) (ts : List AR) (hn : ts.length ≤ 1000000000) (hts : ∀ t ∈ ts, t.s.size ≤ 281474976710656) (d : Int) (us : List AR) (hn2 : us.length ≤ 1000000000) (hus : ∀ t ∈ us, t.s.size ≤ 281474976710656) (s : ByteArray) (i k : Int) (rs : List RG) (hm : rs.length ≤ 10000000) (hrs : ∀ t ∈ rs, t.s.size ≤ 281474976710656) (va vb vr : Value) (w : World) (ha : AV w 0 va ts) (hb : AV w 0 vb us) (hr : RV w 0 vr rs) (v : Bool) (ht : told11 rs = true) (ho : affOk8 c ts = true) (ho2 : affOk8 d us = true) (hv : v = both11 (valsL11 c ts s i rs) (valsL11 d us s k rs)) (hPl0 : (valsL11 c ts s i rs).length ≤ 600) (hQl0 : (valsL11 d us s k rs).length ≤ 600) :
    Calls Try.prog 11 #[.agg #[.int .i64 c, va], .agg #[.int .i64 d, vb], .string s, .int .i64 i, .int .i64 k, vr] w fun e w' => e = .returned (.bool v) ∧ Below w.heap.size w w' := by
  have T0 := Lib.hid (Two11.start w c d 30 ha hb hr)
  have HM := Lib.hid (And.intro hn (And.intro hn2 hm))
  have HS := Lib.hid (And.intro hts (And.intro hus hrs))
  obtain ⟨a1, c1, rfl⟩ := ha.shape
  obtain ⟨a2, c2, rfl⟩ := hb.shape
  obtain ⟨a3, c3, rfl⟩ := hr.shape
  have hPl := Lib.hid hPl0
  have hQl := Lib.hid hQl0
  clear hPl0 hQl0
  have HT := Lib.hid ht
  have HV := Lib.hid hv
  have HO := Lib.hid ho
  have HO2 := Lib.hid ho2
  clear ha hb hr hn hn2 hm hts hus hrs ht hv ho ho2
  go_enter Try.func11, Try.ntmps11
  go_wp2_with fail
  refine (spec_Rounds rs (by have := HM.out; omega) HS.out.2.2 _ _ T0.out.rr).mono ?_
  rintro e w1 ⟨rfl, hb1⟩
  have T1 := Lib.hid (T0.out.later hb1)
  clear hb1 T0
  obtain ⟨R, hR⟩ : ∃ R, Hid (rounds9 rs = R) := ⟨_, rfl⟩
  have TL : Hid ((decide (1 ≤ R) && decide (R ≤ 600)) = true) := show _ = _ by rw [← hR.out]; exact told_l11 HT.out
  rw [hR.out]
  go_wp2_with fail
  refine (l1In_is _ _ _ _ TL.out _).mono ?_
  rintro e w2 ⟨rfl, rfl⟩
  clear TL
  obtain ⟨D0, D1⟩ := And.intro (cellC11 T1.out.r1) (cellT11 T1.out.r1)
  go_wp2_with fail
  refine (spec_AffOk c ts HM.out.1 HS.out.1 _ _ T1.out.a1 true HO.out).mono ?_
  rintro e w3 ⟨rfl, hb1⟩
  have T2 := Lib.hid (T1.out.later hb1)
  clear hb1 T1 D0 D1
  obtain ⟨D0, D1⟩ := And.intro (cellC11 T2.out.r2) (cellT11 T2.out.r2)
  go_wp2_with fail
  refine (spec_AffOk d us HM.out.2.1 HS.out.2.1 _ _ T2.out.a2 true HO2.out).mono ?_
  rintro e w4 ⟨rfl, hb1⟩
  have T3 := Lib.hid (T2.out.later hb1)
  clear hb1 T2 D0 D1
  obtain ⟨D0, D1⟩ := And.intro (cellC11 T3.out.r1) (cellT11 T3.out.r1)
  go_wp2_with fail
  refine (vals_is c ts HM.out.1 (by have := affOk_c HO.out; omega) s i rs HM.out.2.2 HS.out.2.2 HT.out _ _ _ T3.out.a1 T3.out.rr).mono ?_
  rintro e w5 ⟨p1, rfl, hp, hb1⟩
  have T4 := Lib.hid (T3.out.later hb1)
  have P4 := Lib.hid hp
  obtain ⟨pa, pc, rfl⟩ := hp.shape
  clear hb1 T3 D0 D1 hp
  obtain ⟨D0, D1⟩ := And.intro (cellC11 T4.out.r2) (cellT11 T4.out.r2)
  go_wp2_with fail
  refine (vals_is d us HM.out.2.1 (by have := affOk_c HO2.out; omega) s k rs HM.out.2.2 HS.out.2.2 HT.out _ _ _ T4.out.a2 T4.out.rr).mono ?_
  rintro e w6 ⟨q1, rfl, hq, hb1⟩
  have L5 := Lib.hid (T4.out.later hb1).low
  have P5 := Lib.hid (P4.out.later hb1)
  have Q5 := Lib.hid hq
  obtain ⟨qa, qc, rfl⟩ := hq.shape
  clear hb1 T4 P4 D0 D1 hq
  generalize valsL11 c ts s i rs = P at P5 HV hPl ⊢
  generalize valsL11 d us s k rs = Q at Q5 HV hQl ⊢
  have HA := P5.out
  have HB := Q5.out
  obtain ⟨_, _, he1, hra⟩ := HA
  obtain ⟨_, _, he2, hrb⟩ := HB
  injection he1 with he1 _ he3
  subst he1; subst he3
  injection he2 with he1 _ he3
  subst he1; subst he3
  have HA := Lib.hid hra
  have HB := Lib.hid hrb
  have hPI : (P.length : Int) ≤ 9223372036854775807 := by have := hPl.out; omega
  have hQI : (Q.length : Int) ≤ 9223372036854775807 := by have := hQl.out; omega
  clear hra hrb P5 Q5
  go_wp2
  go_loopw [15] (fun x wr => ∃ x0 : Nat, x0 ≤ P.length ∧ x = .int .i64 (x0 : Int) ∧ Hid (∀ p ∈ P.take x0, p ∉ Q) ∧ Hid (Below w6.heap.size w6 wr)) (fun x _ => P.length - (RowKit.intOf x).toNat)
  case atStart => exact ⟨0, Nat.zero_le _, rfl, by intro x hx; simp at hx, Below.refl _ _⟩
  case round =>
    obtain ⟨x0, hx0, rfl, HN, HW⟩ := hrel
    by_cases hlt : x0 < P.length
    · have hltI : (x0 : Int) < (P.length : Int) := by omega
      obtain ⟨p, hp⟩ : ∃ p, P[x0]? = some p := ⟨P[x0], List.getElem?_eq_getElem hlt⟩
      have HP := Lib.hid hp
      clear hp
      go_wp2
      go_loopw [16] (fun y wq => ∃ y0 : Nat, y0 ≤ Q.length ∧ y = .int .i64 (y0 : Int) ∧ Hid (∀ q ∈ Q.take y0, ¬ q = p) ∧ Hid (Below w6.heap.size w6 wq)) (fun y _ => Q.length - (RowKit.intOf y).toNat)
      case atStart => exact ⟨0, Nat.zero_le _, rfl, by intro x hx; simp at hx, HW.out⟩
      case round =>
        obtain ⟨y0, hy0, rfl, HY, HX⟩ := hrel
        by_cases hly : y0 < Q.length
        · have hlyI : (y0 : Int) < (Q.length : Int) := by omega
          obtain ⟨q, hq⟩ : ∃ q, Q[y0]? = some q := ⟨Q[y0], List.getElem?_eq_getElem hly⟩
          rcases HA.out with hr | ⟨g, off, rfl, _, gl, hc⟩
          · subst hr; simp at hlt
          rcases HB.out with hr | ⟨g2, off2, rfl, _, gl2, hc2⟩
          · subst hr; simp at hly
          have A0 := (HX.out.cell (p := ⟨g, off + x0, Option.none⟩) gl).trans (hc x0 p HP.out)
          have B0 := (HX.out.cell (p := ⟨g2, off2 + y0, Option.none⟩) gl2).trans (hc2 y0 q hq)
          have HQ := Lib.hid hq
          clear hc hc2 hq
          by_cases he : p = q
          · have HR : Hid (v = true) := show _ = _ by
              rw [HV.out, both11, List.any_eq_true]
              refine ⟨p, List.mem_of_getElem? HP.out, ?_⟩
              rw [List.any_eq_true]
              exact ⟨q, List.mem_of_getElem? HQ.out, by simp [he]⟩
            subst he
            go_wp2_with fail
            go_quiet (fail)
            go_wp2
            go_ret
            exact ⟨by rw [HR.out]; rfl, (L5.out.trans (HX.out.mono L5.out.size)).trans (belowD8 (Below.refl _ _) _)⟩
          · have HY2 : Hid (∀ z ∈ Q.take (y0 + 1), ¬ z = p) := by
              intro z hz
              rw [List.take_add_one, HQ.out] at hz
              rcases List.mem_append.1 hz with hz | hz
              · exact HY.out z hz
              · simp only [Option.toList_some, List.mem_singleton] at hz; subst hz; exact fun e => he e.symm
            go_wp2_with fail
            go_quiet (fail)
            go_wp2
            go_roundw
            case rel => exact ⟨y0 + 1, by omega, by go_num, HY2.out, belowD8 HX.out _⟩
            case measure => simp [RowKit.intOf]; omega
        · have HN2 : Hid (∀ z ∈ P.take (x0 + 1), z ∉ Q) := by
            intro z hz hzq
            rw [List.take_add_one, HP.out] at hz
            rcases List.mem_append.1 hz with hz | hz
            · exact HN.out z hz hzq
            · simp only [Option.toList_some, List.mem_singleton] at hz
              subst hz
              exact HY.out z (by rw [List.take_of_length_le (by omega)]; exact hzq) rfl
          go_wp2
          go_roundw
          case rel => exact ⟨x0 + 1, by omega, by go_num, HN2.out, HX.out⟩
          case measure => simp [RowKit.intOf]; omega
    · have HR : Hid (v = false) := show _ = _ by
        rw [HV.out]
        cases hh : both11 P Q with
        | false => rfl
        | true =>
          rw [both11, List.any_eq_true] at hh
          obtain ⟨x, hx, hh⟩ := hh
          rw [List.any_eq_true] at hh
          obtain ⟨y, hy, hh⟩ := hh
          simp only [decide_eq_true_eq] at hh
          subst hh
          exact absurd hy (HN.out y (by rw [List.take_of_length_le (by omega)]; exact hx))
      go_wp2
      go_ret
      exact ⟨by rw [HR.out]; rfl, L5.out.trans (HW.out.mono L5.out.size)⟩
theorem spec_MeetAt (c : Int) (ts : List AR) (hn : ts.length ≤ 1000000000) (hts : ∀ t ∈ ts, t.s.size ≤ 281474976710656) (d : Int) (us : List AR) (hn2 : us.length ≤ 1000000000) (hus : ∀ t ∈ us, t.s.size ≤ 281474976710656) (s : ByteArray) (i k : Int) (rs : List RG) (hm : rs.length ≤ 10000000) (hrs : ∀ t ∈ rs, t.s.size ≤ 281474976710656) (va vb vr : Value) (w : World) (ha : AV w 0 va ts) (hb : AV w 0 vb us) (hr : RV w 0 vr rs) (v : Bool) (hv : meetAt11 c ts d us s i k rs = v) :
    Calls Try.prog 11 #[.agg #[.int .i64 c, va], .agg #[.int .i64 d, vb], .string s, .int .i64 i, .int .i64 k, vr] w fun e w' => e = .returned (.bool v) ∧ Below w.heap.size w w' := by
  cases ht : told11 rs with
  | false => exact smeetA c ts hn hts d us hn2 hus s i k rs hm hrs va vb vr w ha hb hr v ht (by rw [← hv, meetAt11, ht]; rfl)
  | true =>
    cases ho : affOk8 c ts with
    | false => exact smeetB c ts hn hts d us hn2 hus s i k rs hm hrs va vb vr w ha hb hr v ht ho (by rw [← hv, meetAt11, ht, ho]; rfl)
    | true =>
      cases ho2 : affOk8 d us with
      | false => exact smeetC c ts hn hts d us hn2 hus s i k rs hm hrs va vb vr w ha hb hr v ht ho ho2 (by rw [← hv, meetAt11, ht, ho, ho2]; rfl)
      | true =>
        have hw := (told_prod ht).1
        have hl : prodS11 s rs ≤ 600 := by
          cases hs : hasR9 rs s with
          | false => have := (split_no ht hs).2.2; omega
          | true => obtain ⟨_, _, _, _, _, _, _, _, h⟩ := split_has ht hs; omega
        refine smeetD c ts hn hts d us hn2 hus s i k rs hm hrs va vb vr w ha hb hr v ht ho ho2 ?_ (by rw [valsL11_len]; exact hl) (by rw [valsL11_len]; exact hl)
        rw [← hv, meetAt11, ht, ho, ho2, both_vals (vals_places ho s i (fit_of hw) (dist_of hw)) (vals_places ho2 s k (fit_of hw) (dist_of hw))]
        rfl
end Go.Proofs.Ytjdpddcnogdekab
