/-
  Texts in one: SameFunc, SameStoI, SameStoS, LawSto.
-/
import Derived.Test.YtpinockfakndlaaGreatP33ofFnEvals
import Derived.Test.YtpinockfakndlaaGreatP31ofFnEvals
/-
  Whether two rows of rows are the same: slices.EqualFunc.
-/
namespace Go.Proofs.YtpinockfakndlaaGreat
open Go.RowKit Go.Lib
set_option linter.unusedSimpArgs false
set_option linter.unusedVariables false

set_option maxHeartbeats 2000000 in
set_option maxRecDepth 100000 in
theorem equalFunc_is (A D : List (List Int)) (hA : A.length ≤ 100000000) (hD : D.length ≤ 100000000) (hAi : ∀ xs ∈ A, xs.length ≤ 100000000) (hDi : ∀ xs ∈ D, xs.length ≤ 100000000) (va vb : Value) (w : World) (ha : IIV w 0 va A) (hb : IIV w 0 vb D) :
    Calls Tryz.prog 38 #[va, vb, .func (.func 37) #[] #[]] w fun e w' => e = .returned (.bool (decide (A = D))) ∧ Below w.heap.size w w' := by
  by_cases hl : A.length = D.length
  · have HA := Lib.hid ha
    have HB := Lib.hid hb
    have HAi := Lib.hid (And.intro hAi hDi)
    obtain ⟨ao, ca, rfl⟩ := ha.shape
    obtain ⟨bo, cb, rfl⟩ := hb.shape
    rw [← hl] at HB ⊢
    have HL := Lib.hid hl
    clear ha hb hl hD hAi hDi
    go_enter Tryz.func38, Tryz.ntmps38
    go_wp2
    go_loopw [17] (fun i wr => ∃ k : Nat, k ≤ A.length ∧ i = .int .i64 k ∧ Hid (A.take k = D.take k) ∧ Below w.heap.size w wr) (fun i _ => A.length - (RowKit.intOf i).toNat)
    case atStart => exact ⟨0, by omega, rfl, (by show A.take 0 = D.take 0; simp), Below.refl _ _⟩
    case round =>
      obtain ⟨k, hk, rfl, htk, hbw⟩ := hrel
      by_cases hlt : k < A.length
      · obtain ⟨x, hx1⟩ : ∃ x, A[k]? = some x := ⟨A[k], List.getElem?_eq_getElem hlt⟩
        obtain ⟨y, hy1⟩ : ∃ y, D[k]? = some y := ⟨D[k]'(by have := HL.out; omega), List.getElem?_eq_getElem _⟩
        obtain ⟨ga, oa, ua, rfl, A0, hua⟩ := (HA.out.later hbw).at hx1
        obtain ⟨gb, ob, ub, rfl, B0, hub⟩ := (HB.out.later hbw).at hy1
        have hltI : (k : Int) < (A.length : Int) := by omega
        have hxl := HAi.out.1 x (List.mem_of_getElem? hx1)
        have hyl := HAi.out.2 y (List.mem_of_getElem? hy1)
        have UA := Lib.hid hua
        have UB := Lib.hid hub
        obtain ⟨pa, qa, rfl⟩ := hua.shape
        obtain ⟨pb, qb, rfl⟩ := hub.shape
        by_cases hxy : x = y
        · have Htk : Hid (A.take (k + 1) = D.take (k + 1)) := show A.take (k + 1) = D.take (k + 1) by rw [List.take_add_one, List.take_add_one, hx1, hy1, htk.out, hxy]
          have Hdt : Hid (decide (x = y) = true) := decide_eq_true hxy
          clear hx1 hy1 htk hua hub hxy
          go_wp2_with fail
          refine (slicesEqual_is x y hxl hyl _ _ _ UA.out UB.out).mono ?_
          rintro e w1 ⟨rfl, hb1⟩
          rw [Hdt.out]
          have hbw2 := hbw.trans (hb1.mono hbw.size)
          clear A0 B0 hb1 UA UB
          go_wp2
          go_roundw
          case rel => exact ⟨k + 1, by omega, by go_num, Htk.out, hbw2⟩
          case measure => simp [RowKit.intOf]; omega
        · have Hne : Hid (¬ A = D) := fun e => hxy (by subst e; rw [hx1] at hy1; injection hy1)
          have Hdt : Hid (decide (x = y) = false) := decide_eq_false hxy
          clear hx1 hy1 htk hua hub hxy
          go_wp2_with fail
          refine (slicesEqual_is x y hxl hyl _ _ _ UA.out UB.out).mono ?_
          rintro e w1 ⟨rfl, hb1⟩
          rw [Hdt.out]
          have hbw2 := hbw.trans (hb1.mono hbw.size)
          clear A0 B0 hb1 UA UB
          go_wp2
          go_ret
          exact ⟨(by rw [decide_eq_false Hne.out]; try rfl), hbw2⟩
      · have He : A = D := by
          have h := htk.out
          rw [List.take_of_length_le (by omega), List.take_of_length_le (by have := HL.out; omega)] at h
          exact h
        have HE := Lib.hid He
        clear He
        go_wp2
        go_ret
        exact ⟨(by rw [decide_eq_true HE.out]; try rfl), hbw⟩
  · obtain ⟨ao, ca, rfl⟩ := ha.shape
    obtain ⟨bo, cb, rfl⟩ := hb.shape
    have hlI : ((A.length : Int) == (D.length : Int)) = false := by simp; omega
    have Hne : Hid (¬ A = D) := fun e => hl (by rw [e])
    clear ha hb
    go_enter Tryz.func38, Tryz.ntmps38
    go_wp2
    go_ret
    exact ⟨(by rw [decide_eq_false Hne.out]; try rfl), Below.refl _ _⟩
end Go.Proofs.YtpinockfakndlaaGreat
/-
  Whether two stores are the same: SameSto of the landed code.
-/
namespace Go.Proofs.YtpinockfakndlaaGreat
open Go.RowKit Go.Lib
set_option linter.unusedSimpArgs false
set_option linter.unusedVariables false
/-- Whether two stores are the same. -/
def sameS (A D : List (List Int)) (V O U N : List Int) (e f : Int) : Bool := decide (A = D) && decide (V = U) && decide (O = N) && decide (e = f)

set_option maxHeartbeats 2000000 in
set_option maxRecDepth 100000 in
theorem impl_SameSto (A D : List (List Int)) (V O U N : List Int) (e f : Int) (hl : StoL A V O) (hk : StoL D U N) (va vv vo ua uv uo : Value) (w : World) (h : StoV w va vv vo A V O) (g : StoV w ua uv uo D U N) :
    Calls Tryz.prog 11 #[.agg #[va, vv, vo, .int .i64 e], .agg #[ua, uv, uo, .int .i64 f]] w fun e1 w' => e1 = .returned (.bool (sameS A D V O U N e f)) ∧ Below w.heap.size w w' := by
  have H := Lib.hid (And.intro h g)
  have hA : Hid ((∀ xs ∈ A, xs.length ≤ 100000000) ∧ (∀ xs ∈ D, xs.length ≤ 100000000)) := ⟨fun xs hx => Nat.le_trans (hl.b xs hx) (by omega), fun xs hx => Nat.le_trans (hk.b xs hx) (by omega)⟩
  have hAl : A.length ≤ 100000000 := Nat.le_trans hl.a (by omega)
  have hV : V.length ≤ 100000000 := Nat.le_trans hl.v (by omega)
  have hO : O.length ≤ 100000000 := Nat.le_trans hl.o (by omega)
  have hDl : D.length ≤ 100000000 := Nat.le_trans hk.a (by omega)
  have hU : U.length ≤ 100000000 := Nat.le_trans hk.v (by omega)
  have hN : N.length ≤ 100000000 := Nat.le_trans hk.o (by omega)
  obtain ⟨a1, c1, rfl⟩ := h.a.shape
  obtain ⟨a2, c2, rfl⟩ := h.v.shape
  obtain ⟨a3, c3, rfl⟩ := h.o.shape
  obtain ⟨a4, c4, rfl⟩ := g.a.shape
  obtain ⟨a5, c5, rfl⟩ := g.v.shape
  obtain ⟨a6, c6, rfl⟩ := g.o.shape
  clear h g hl hk
  have P := Lib.hid (Bx2.start w (.slice a1 A.length c1) (.slice a2 V.length c2) (.slice a3 O.length c3) (.int .i64 e) (.slice a4 D.length c4) (.slice a5 U.length c5) (.slice a6 N.length c6) (.int .i64 f) 33)
  by_cases he : e = f
  case neg =>
    have hef : (e == f) = false := by simpa using he
    have R : Hid (sameS A D V O U N e f = false) := show sameS A D V O U N e f = false by simp [sameS, he]
    clear he
    go_enter Tryz.func11, Tryz.ntmps11
    go_wp2
    go_ret
    exact ⟨(by rw [R.out]; try rfl), P.out.b⟩
  subst he
  have R0 : Hid (sameS A D V O U N e e = (decide (A = D) && decide (V = U) && decide (O = N))) := show sameS A D V O U N e e = _ by simp [sameS]
  go_enter Tryz.func11, Tryz.ntmps11
  go_wp2_with fail
  refine (slicesEqual_is V U hV hU _ _ _ (H.out.1.v.later P.out.b) (H.out.2.v.later P.out.b)).mono ?_
  rintro e1 w1 ⟨rfl, hb1⟩
  have P1 := Lib.hid (P.out.later hb1)
  obtain ⟨⟨p0, p1, p2, p3⟩, _⟩ := blk4 P1.out.p
  obtain ⟨⟨q0, q1, q2, q3⟩, _⟩ := blk4 P1.out.q
  clear hb1 P
  by_cases hv : V = U
  case neg =>
    have R : Hid (sameS A D V O U N e e = false) := R0.out.trans (by simp [hv])
    rw [decide_eq_false hv]
    clear hv
    go_wp2
    go_ret
    exact ⟨(by rw [R.out]; try rfl), P1.out.b⟩
  rw [decide_eq_true hv]
  have HVv := Lib.hid hv
  clear hv
  go_wp2_with fail
  clear p0 p1 p2 p3 q0 q1 q2 q3
  refine (slicesEqual_is O N hO hN _ _ _ (H.out.1.o.later P1.out.b) (H.out.2.o.later P1.out.b)).mono ?_
  rintro e1 w2 ⟨rfl, hb2⟩
  have P2 := Lib.hid (P1.out.later hb2)
  obtain ⟨⟨p0, p1, p2, p3⟩, _⟩ := blk4 P2.out.p
  obtain ⟨⟨q0, q1, q2, q3⟩, _⟩ := blk4 P2.out.q
  clear hb2 P1
  by_cases ho : O = N
  case neg =>
    have R : Hid (sameS A D V O U N e e = false) := R0.out.trans (by simp [ho])
    rw [decide_eq_false ho]
    clear ho
    go_wp2
    go_ret
    exact ⟨(by rw [R.out]; try rfl), P2.out.b⟩
  rw [decide_eq_true ho]
  have HOo := Lib.hid ho
  clear ho
  go_wp2_with fail
  clear p0 p1 p2 p3 q0 q1 q2 q3
  refine (equalFunc_is A D hAl hDl hA.out.1 hA.out.2 _ _ _ (H.out.1.a.later P2.out.b) (H.out.2.a.later P2.out.b)).mono ?_
  rintro e1 w3 ⟨rfl, hb3⟩
  have P3 := Lib.hid (P2.out.later hb3)
  obtain ⟨⟨p0, p1, p2, p3⟩, _⟩ := blk4 P3.out.p
  obtain ⟨⟨q0, q1, q2, q3⟩, _⟩ := blk4 P3.out.q
  clear hb3 P2
  have R : Hid (sameS A D V O U N e e = decide (A = D)) := R0.out.trans (by simp [HVv.out, HOo.out])
  clear p0 p1 p2 p3 q0 q1 q2 q3
  go_wp2
  go_ret
  exact ⟨(by rw [R.out]; try rfl), P3.out.b⟩
end Go.Proofs.YtpinockfakndlaaGreat
/-
  Whether two stores are the same: SameSto of the specification.
-/
namespace Go.Proofs.YtpinockfakndlaaGreat
open Go.RowKit Go.Lib
set_option linter.unusedSimpArgs false
set_option linter.unusedVariables false

set_option maxHeartbeats 2000000 in
set_option maxRecDepth 100000 in
theorem spec_SameSto (A D : List (List Int)) (V O U N : List Int) (e f : Int) (hl : StoL A V O) (hk : StoL D U N) (va vv vo ua uv uo : Value) (w : World) (h : StoV w va vv vo A V O) (g : StoV w ua uv uo D U N) :
    Calls Tryz.prog 12 #[.agg #[va, vv, vo, .int .i64 e], .agg #[ua, uv, uo, .int .i64 f]] w fun e1 w' => e1 = .returned (.bool (sameS A D V O U N e f)) ∧ Below w.heap.size w w' := by
  have H := Lib.hid (And.intro h g)
  have hA : Hid ((∀ xs ∈ A, xs.length ≤ 100000000) ∧ (∀ xs ∈ D, xs.length ≤ 100000000)) := ⟨fun xs hx => Nat.le_trans (hl.b xs hx) (by omega), fun xs hx => Nat.le_trans (hk.b xs hx) (by omega)⟩
  have hAl : A.length ≤ 100000000 := Nat.le_trans hl.a (by omega)
  have hV : V.length ≤ 100000000 := Nat.le_trans hl.v (by omega)
  have hO : O.length ≤ 100000000 := Nat.le_trans hl.o (by omega)
  have hDl : D.length ≤ 100000000 := Nat.le_trans hk.a (by omega)
  have hU : U.length ≤ 100000000 := Nat.le_trans hk.v (by omega)
  have hN : N.length ≤ 100000000 := Nat.le_trans hk.o (by omega)
  obtain ⟨a1, c1, rfl⟩ := h.a.shape
  obtain ⟨a2, c2, rfl⟩ := h.v.shape
  obtain ⟨a3, c3, rfl⟩ := h.o.shape
  obtain ⟨a4, c4, rfl⟩ := g.a.shape
  obtain ⟨a5, c5, rfl⟩ := g.v.shape
  obtain ⟨a6, c6, rfl⟩ := g.o.shape
  clear h g hl hk
  have P := Lib.hid (Bx2.start w (.slice a1 A.length c1) (.slice a2 V.length c2) (.slice a3 O.length c3) (.int .i64 e) (.slice a4 D.length c4) (.slice a5 U.length c5) (.slice a6 N.length c6) (.int .i64 f) 33)
  by_cases hln : A.length = D.length
  case neg =>
    have hlI : ((A.length : Int) == (D.length : Int)) = false := by simp; omega
    have R : Hid (sameS A D V O U N e f = false) := show sameS A D V O U N e f = false by
      have : ¬ A = D := fun h => hln (by rw [h])
      simp [sameS, this]
    clear hln
    go_enter Tryz.func12, Tryz.ntmps12
    go_wp2
    go_ret
    exact ⟨(by rw [R.out]; try rfl), P.out.b⟩
  have hbl : ((A.length : Int) != (D.length : Int)) = false := by simp; omega
  have HLN := Lib.hid hln
  clear hln
  go_enter Tryz.func12, Tryz.ntmps12
  go_wp2_with fail
  refine (l7SameInts_is V U hV hU _ _ _ (H.out.1.v.later P.out.b) (H.out.2.v.later P.out.b)).mono ?_
  rintro e1 w1 ⟨rfl, hb1⟩
  have P1 := Lib.hid (P.out.later hb1)
  obtain ⟨⟨p0, p1, p2, p3⟩, _⟩ := blk4 P1.out.p
  obtain ⟨⟨q0, q1, q2, q3⟩, _⟩ := blk4 P1.out.q
  clear hb1 P
  by_cases hv : V = U
  case neg =>
    have R : Hid (sameS A D V O U N e f = false) := show sameS A D V O U N e f = false by simp [sameS, hv]
    rw [decide_eq_false hv]
    clear hv
    go_wp2
    go_ret
    exact ⟨(by rw [R.out]; try rfl), P1.out.b⟩
  rw [decide_eq_true hv]
  have HVv := Lib.hid hv
  clear hv
  go_wp2_with fail
  clear p0 p1 p2 p3 q0 q1 q2 q3
  refine (l7SameInts_is O N hO hN _ _ _ (H.out.1.o.later P1.out.b) (H.out.2.o.later P1.out.b)).mono ?_
  rintro e1 w2 ⟨rfl, hb2⟩
  have P2 := Lib.hid (P1.out.later hb2)
  obtain ⟨⟨p0, p1, p2, p3⟩, _⟩ := blk4 P2.out.p
  obtain ⟨⟨q0, q1, q2, q3⟩, _⟩ := blk4 P2.out.q
  clear hb2 P1
  by_cases ho : O = N
  case neg =>
    have R : Hid (sameS A D V O U N e f = false) := show sameS A D V O U N e f = false by simp [sameS, ho]
    rw [decide_eq_false ho]
    clear ho
    go_wp2
    go_ret
    exact ⟨(by rw [R.out]; try rfl), P2.out.b⟩
  rw [decide_eq_true ho]
  have HOo := Lib.hid ho
  clear ho
  by_cases he : e = f
  case neg =>
    have hef : (e == f) = false := by simpa using he
    have R : Hid (sameS A D V O U N e f = false) := show sameS A D V O U N e f = false by simp [sameS, he]
    clear he
    go_wp2
    go_ret
    exact ⟨(by rw [R.out]; try rfl), P2.out.b⟩
  subst he
  have R0 : Hid (sameS A D V O U N e e = decide (A = D)) := show sameS A D V O U N e e = _ by simp [sameS, HVv.out, HOo.out]
  have B2 := P2.out.b
  go_wp2
  clear p0 p1 p2 p3 q0 q1 q2 q3
  go_loopw [5] (fun i wr => ∃ k : Nat, k ≤ A.length ∧ i = .int .i64 k ∧ Hid (A.take k = D.take k) ∧ Hid (Bx2 w wr w.heap.size (.slice a1 A.length c1) (.slice a2 V.length c2) (.slice a3 O.length c3) (.int .i64 e) (.slice a4 D.length c4) (.slice a5 U.length c5) (.slice a6 N.length c6) (.int .i64 e) 33)) (fun i _ => A.length - (RowKit.intOf i).toNat)
  case atStart => exact ⟨0, by omega, rfl, (by show A.take 0 = D.take 0; simp), P2.out⟩
  case round =>
    obtain ⟨k, hk, rfl, htk, hP⟩ := hrel
    clear P2 B2
    obtain ⟨⟨p0, p1, p2, p3⟩, _⟩ := blk4 hP.out.p
    obtain ⟨⟨q0, q1, q2, q3⟩, _⟩ := blk4 hP.out.q
    by_cases hlt : k < A.length
    · obtain ⟨x, hx1⟩ : ∃ x, A[k]? = some x := ⟨A[k], List.getElem?_eq_getElem hlt⟩
      obtain ⟨y, hy1⟩ : ∃ y, D[k]? = some y := ⟨D[k]'(by have := HLN.out; omega), List.getElem?_eq_getElem _⟩
      obtain ⟨ga, oa, xa, rfl, A0, hua⟩ := (H.out.1.a.later hP.out.b).at hx1
      obtain ⟨gb, ob, xb, rfl, B0, hub⟩ := (H.out.2.a.later hP.out.b).at hy1
      have hltI : (k : Int) < (A.length : Int) := by omega
      have hltD : (k : Int) < (D.length : Int) := by have := HLN.out; omega
      have hxl := hA.out.1 x (List.mem_of_getElem? hx1)
      have hyl := hA.out.2 y (List.mem_of_getElem? hy1)
      have UA := Lib.hid hua
      have UB := Lib.hid hub
      obtain ⟨pa, qa, rfl⟩ := hua.shape
      obtain ⟨pb, qb, rfl⟩ := hub.shape
      have Ht0 := Lib.hid (And.intro hx1 hy1)
      have HC := Lib.hid hP.out
      clear hx1 hy1 hua hub hP p1 p2 p3 q1 q2 q3
      go_wp2_with fail
      go_cut [54] from 36 to 54 (fun v wx => v = .bool (!decide (x = y)) ∧ Below wr.heap.size wr wx)
      case first =>
        go_region_with (go_at_call 39; refine (l7SameInts_is x y hxl hyl _ _ _ (UA.out.later (Below.refl _ wr).drew) (UB.out.later (Below.refl _ wr).drew)).mono ?_; rintro e1 w1 ⟨rfl, hb1⟩)
        all_goals (try go_wp2_with fail)
        all_goals go_meet
        all_goals exact ⟨by simp, ⟨hb1.os, hb1.tape, hb1.output, hb1.size, hb1.block⟩⟩
      case rest =>
        obtain ⟨rfl, hb1⟩ := hcut
        have HC2 := Lib.hid (HC.out.later hb1)
        clear A0 B0 hb1 UA UB p0 q0 HC
        by_cases hxy : x = y
        · have Htk : Hid (A.take (k + 1) = D.take (k + 1)) := show A.take (k + 1) = D.take (k + 1) by rw [List.take_add_one, List.take_add_one, Ht0.out.1, Ht0.out.2, htk.out, hxy]
          rw [decide_eq_true hxy]
          clear hxy htk
          go_wp2
          go_roundw
          case rel => exact ⟨k + 1, by omega, by go_num, Htk.out, HC2.out⟩
          case measure => simp [RowKit.intOf]; omega
        · have Hne : Hid (¬ A = D) := fun e => hxy (by subst e; have := Ht0.out.1.symm.trans Ht0.out.2; injection this)
          rw [decide_eq_false hxy]
          clear hxy htk
          go_wp2
          go_ret
          exact ⟨(by rw [R0.out, decide_eq_false Hne.out]; try rfl), HC2.out.b⟩
    · have He : A = D := by
        have h := htk.out
        rw [List.take_of_length_le (by omega), List.take_of_length_le (by have := HLN.out; omega)] at h
        exact h
      have HE := Lib.hid He
      have hltI : ¬ (k : Int) < (A.length : Int) := by omega
      clear He p1 p2 p3 q0 q1 q2 q3
      go_wp2
      go_ret
      exact ⟨(by rw [R0.out, decide_eq_true HE.out]; try rfl), hP.out.b⟩
end Go.Proofs.YtpinockfakndlaaGreat
/-
  laws.sameInts, laws.sameSto of what is the same.
-/
namespace Go.Proofs.YtpinockfakndlaaGreat
open Go.RowKit Go.Lib
set_option linter.unusedSimpArgs false
set_option linter.unusedVariables false

set_option maxHeartbeats 2000000 in
set_option maxRecDepth 100000 in
theorem sameInts_law (xs : List Int) (hlen : xs.length ≤ 100000000) (va vb : Value) (w : World) (ha : IV w 0 va xs) (hb : IV w 0 vb xs) :
    Calls Tryz.prog 32 #[va, vb] w fun e w' => e = .returned (.bool true) ∧ Below w.heap.size w w' := by
  obtain ⟨ao, ca, rfl, ha⟩ := ha
  obtain ⟨bo, cb, rfl, hb⟩ := hb
  go_enter Tryz.func32, Tryz.ntmps32
  go_wp2
  go_loopw [5] (fun i wr => ∃ k : Nat, k ≤ xs.length ∧ i = .int .i64 k ∧ Below w.heap.size w wr) (fun i _ => xs.length - (RowKit.intOf i).toNat)
  case atStart => exact ⟨0, by omega, rfl, Below.refl _ _⟩
  case round =>
    obtain ⟨k, hk, rfl, hbw⟩ := hrel
    by_cases hlt : k < xs.length
    · obtain ⟨t, ht⟩ : ∃ t, xs[k]? = some t := ⟨xs[k], List.getElem?_eq_getElem hlt⟩
      rcases ha with ha | ⟨ga, oa, rfl, _, gla, hca⟩
      · subst ha; simp at hlt
      rcases hb with hb | ⟨gb, ob, rfl, _, glb, hcb⟩
      · subst hb; simp at hlt
      have A0 := (hbw.cell (p := ⟨ga, oa + k, Option.none⟩) gla).trans (hca k t ht)
      have B0 := (hbw.cell (p := ⟨gb, ob + k, Option.none⟩) glb).trans (hcb k t ht)
      have hltI : (k : Int) < (xs.length : Int) := by omega
      clear hca hcb ht
      go_wp2_with fail
      go_cut [25] from 11 to 25 (fun v wx => v = .bool false ∧ Below wr.heap.size wr wx)
      case first =>
        go_region_with fail
        all_goals (try go_wp2_with fail)
        all_goals go_meet
        all_goals exact ⟨by simp, (Below.refl _ wr).drew⟩
      case rest =>
        obtain ⟨rfl, hb1⟩ := hcut
        have hbw2 := hbw.trans (hb1.mono hbw.size)
        clear A0 B0 hb1
        go_wp2
        go_roundw
        case rel => exact ⟨k + 1, by omega, by go_num, hbw2⟩
        case measure => simp [RowKit.intOf]; omega
    · go_wp2
      go_ret
      exact ⟨rfl, hbw⟩
set_option maxHeartbeats 2000000 in
set_option maxRecDepth 100000 in
theorem sameSto_law (A : List (List Int)) (V O : List Int) (e : Int) (hl : StoL A V O) (va vv vo ua uv uo : Value) (w : World) (h : StoV w va vv vo A V O) (g : StoV w ua uv uo A V O) :
    Calls Tryz.prog 9 #[.agg #[va, vv, vo, .int .i64 e], .agg #[ua, uv, uo, .int .i64 e]] w fun e1 w' => e1 = .returned (.bool true) ∧ Below w.heap.size w w' := by
  have H := Lib.hid (And.intro h g)
  have hA : Hid (∀ xs ∈ A, xs.length ≤ 100000000) := fun xs hx => Nat.le_trans (hl.b xs hx) (by omega)
  have hAl : A.length ≤ 100000000 := Nat.le_trans hl.a (by omega)
  have hV : V.length ≤ 100000000 := Nat.le_trans hl.v (by omega)
  have hO : O.length ≤ 100000000 := Nat.le_trans hl.o (by omega)
  obtain ⟨a1, c1, rfl⟩ := h.a.shape
  obtain ⟨a2, c2, rfl⟩ := h.v.shape
  obtain ⟨a3, c3, rfl⟩ := h.o.shape
  obtain ⟨a4, c4, rfl⟩ := g.a.shape
  obtain ⟨a5, c5, rfl⟩ := g.v.shape
  obtain ⟨a6, c6, rfl⟩ := g.o.shape
  clear h g hl
  have P := Lib.hid (Bx2.start w (.slice a1 A.length c1) (.slice a2 V.length c2) (.slice a3 O.length c3) (.int .i64 e) (.slice a4 A.length c4) (.slice a5 V.length c5) (.slice a6 O.length c6) (.int .i64 e) 33)
  go_enter Tryz.func9, Tryz.ntmps9
  go_wp2_with fail
  refine (sameInts_law V hV _ _ _ (H.out.1.v.later P.out.b) (H.out.2.v.later P.out.b)).mono ?_
  rintro e1 w1 ⟨rfl, hb1⟩
  have P1 := Lib.hid (P.out.later hb1)
  obtain ⟨⟨p0, p1, p2, p3⟩, _⟩ := blk4 P1.out.p
  obtain ⟨⟨q0, q1, q2, q3⟩, _⟩ := blk4 P1.out.q
  clear hb1 P
  go_wp2_with fail
  clear p0 p1 p2 p3 q0 q1 q2 q3
  refine (sameInts_law O hO _ _ _ (H.out.1.o.later P1.out.b) (H.out.2.o.later P1.out.b)).mono ?_
  rintro e1 w2 ⟨rfl, hb2⟩
  have P2 := Lib.hid (P1.out.later hb2)
  obtain ⟨⟨p0, p1, p2, p3⟩, _⟩ := blk4 P2.out.p
  obtain ⟨⟨q0, q1, q2, q3⟩, _⟩ := blk4 P2.out.q
  clear hb2 P1
  go_wp2_with fail
  clear p0 p1 p2 p3 q0 q1 q2 q3
  go_loopw [5] (fun i wr => ∃ k : Nat, k ≤ A.length ∧ i = .int .i64 k ∧ Hid (Bx2 w wr w.heap.size (.slice a1 A.length c1) (.slice a2 V.length c2) (.slice a3 O.length c3) (.int .i64 e) (.slice a4 A.length c4) (.slice a5 V.length c5) (.slice a6 O.length c6) (.int .i64 e) 33)) (fun i _ => A.length - (RowKit.intOf i).toNat)
  case atStart => exact ⟨0, by omega, rfl, P2.out⟩
  case round =>
    obtain ⟨k, hk, rfl, hP⟩ := hrel
    clear P2
    obtain ⟨⟨p0, p1, p2, p3⟩, _⟩ := blk4 hP.out.p
    obtain ⟨⟨q0, q1, q2, q3⟩, _⟩ := blk4 hP.out.q
    by_cases hlt : k < A.length
    · obtain ⟨x, hx1⟩ : ∃ x, A[k]? = some x := ⟨A[k], List.getElem?_eq_getElem hlt⟩
      obtain ⟨ga, oa, xa, rfl, A0, hua⟩ := (H.out.1.a.later hP.out.b).at hx1
      obtain ⟨gb, ob, xb, rfl, B0, hub⟩ := (H.out.2.a.later hP.out.b).at hx1
      have hltI : (k : Int) < (A.length : Int) := by omega
      have hxl := hA.out x (List.mem_of_getElem? hx1)
      have UA := Lib.hid hua
      have UB := Lib.hid hub
      obtain ⟨pa, qa, rfl⟩ := hua.shape
      obtain ⟨pb, qb, rfl⟩ := hub.shape
      have HC := Lib.hid hP.out
      clear hx1 hua hub hP p1 p2 p3 q1 q2 q3
      go_wp2_with fail
      go_cut [54] from 36 to 54 (fun v wx => v = .bool false ∧ Below wr.heap.size wr wx)
      case first =>
        go_region_with (go_at_call 32; refine (sameInts_law x hxl _ _ _ (UA.out.later (Below.refl _ wr).drew) (UB.out.later (Below.refl _ wr).drew)).mono ?_; rintro e1 w1 ⟨rfl, hb1⟩)
        all_goals (try go_wp2_with fail)
        all_goals go_meet
        all_goals exact ⟨by simp, ⟨hb1.os, hb1.tape, hb1.output, hb1.size, hb1.block⟩⟩
      case rest =>
        obtain ⟨rfl, hb1⟩ := hcut
        have HC2 := Lib.hid (HC.out.later hb1)
        clear A0 B0 hb1 UA UB p0 q0 HC
        go_wp2
        go_roundw
        case rel => exact ⟨k + 1, by omega, by go_num, HC2.out⟩
        case measure => simp [RowKit.intOf]; omega
    · have HB := Lib.hid hP.out.b
      go_wp2
      go_ret
      exact ⟨rfl, HB.out⟩
end Go.Proofs.YtpinockfakndlaaGreat
