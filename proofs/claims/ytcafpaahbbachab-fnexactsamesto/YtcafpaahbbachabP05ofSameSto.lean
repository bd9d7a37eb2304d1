/-
  Texts in one: SameStoI, SameStoS.
-/
import Derived.Test.YtcafpaahbbachabP04ofSameSto
import Derived.Test.YtcafpaahbbachabP02ofSameSto
/-
  Whether two stores are the same: SameSto of the landed code.
-/
namespace Go.Proofs.Ytcafpaahbbachab
open Go.RowKit Go.Lib
set_option linter.unusedSimpArgs false
set_option linter.unusedVariables false
/-- Whether two stores are the same. -/
def sameS (A D : List (List Int)) (V O U N : List Int) (e f : Int) : Bool := decide (A = D) && decide (V = U) && decide (O = N) && decide (e = f)

set_option maxHeartbeats 2000000 in
set_option maxRecDepth 100000 in
theorem impl_SameSto (A D : List (List Int)) (V O U N : List Int) (e f : Int) (hl : StoL A V O) (hk : StoL D U N) (va vv vo ua uv uo : Value) (w : World) (h : StoV w va vv vo A V O) (g : StoV w ua uv uo D U N) :
    Calls Try.prog 7 #[.agg #[va, vv, vo, .int .i64 e], .agg #[ua, uv, uo, .int .i64 f]] w fun e1 w' => e1 = .returned (.bool (sameS A D V O U N e f)) ∧ Below w.heap.size w w' := by
  have H := Lib.hid (And.intro h g)
  have hA : Hid ((∀ xs ∈ A, xs.length ≤ 100000000) ∧ (∀ xs ∈ D, xs.length ≤ 100000000)) := ⟨fun xs hx => Nat.le_trans (hl.b xs hx) (by omega), fun xs hx => Nat.le_trans (hk.b xs hx) (by omega)⟩
  have hAl : A.length ≤ 100000000 := Nat.le_trans hl.a (by omega)
  have hV : V.length ≤ 100000000 := Nat.le_trans hl.v (by omega)
  have hO : O.length ≤ 100000000 := Nat.le_trans hl.o (by omega)
  have hDl : D.length ≤ 100000000 := Nat.le_trans hk.a (by omega)
  have hU : U.length ≤ 100000000 := Nat.le_trans hk.v (by omega)
  have hN : N.length ≤ 100000000 := Nat.le_trans hk.o (by omega)
  obtain ⟨a1, c1, rfl⟩ := h.a.shape
  obtain ⟨a2, c2, rfl⟩ := h.v.shape
  obtain ⟨a3, c3, rfl⟩ := h.o.shape
  obtain ⟨a4, c4, rfl⟩ := g.a.shape
  obtain ⟨a5, c5, rfl⟩ := g.v.shape
  obtain ⟨a6, c6, rfl⟩ := g.o.shape
  clear h g hl hk
  have P := Lib.hid (Bx2.start w (.slice a1 A.length c1) (.slice a2 V.length c2) (.slice a3 O.length c3) (.int .i64 e) (.slice a4 D.length c4) (.slice a5 U.length c5) (.slice a6 N.length c6) (.int .i64 f) 28)
  by_cases he : e = f
  case neg =>
    have hef : (e == f) = false := by simpa using he
    have R : Hid (sameS A D V O U N e f = false) := show sameS A D V O U N e f = false by simp [sameS, he]
    clear he
    go_enter Try.func7, Try.ntmps7
    go_wp2
    go_ret
    exact ⟨(by rw [R.out]; try rfl), P.out.b⟩
  subst he
  have R0 : Hid (sameS A D V O U N e e = (decide (A = D) && decide (V = U) && decide (O = N))) := show sameS A D V O U N e e = _ by simp [sameS]
  go_enter Try.func7, Try.ntmps7
  go_wp2_with fail
  refine (slicesEqual_is V U hV hU _ _ _ (H.out.1.v.later P.out.b) (H.out.2.v.later P.out.b)).mono ?_
  rintro e1 w1 ⟨rfl, hb1⟩
  have P1 := Lib.hid (P.out.later hb1)
  obtain ⟨⟨p0, p1, p2, p3⟩, _⟩ := blk4 P1.out.p
  obtain ⟨⟨q0, q1, q2, q3⟩, _⟩ := blk4 P1.out.q
  clear hb1 P
  by_cases hv : V = U
  case neg =>
    have R : Hid (sameS A D V O U N e e = false) := R0.out.trans (by simp [hv])
    rw [decide_eq_false hv]
    clear hv
    go_wp2
    go_ret
    exact ⟨(by rw [R.out]; try rfl), P1.out.b⟩
  rw [decide_eq_true hv]
  have HVv := Lib.hid hv
  clear hv
  go_wp2_with fail
  clear p0 p1 p2 p3 q0 q1 q2 q3
  refine (slicesEqual_is O N hO hN _ _ _ (H.out.1.o.later P1.out.b) (H.out.2.o.later P1.out.b)).mono ?_
  rintro e1 w2 ⟨rfl, hb2⟩
  have P2 := Lib.hid (P1.out.later hb2)
  obtain ⟨⟨p0, p1, p2, p3⟩, _⟩ := blk4 P2.out.p
  obtain ⟨⟨q0, q1, q2, q3⟩, _⟩ := blk4 P2.out.q
  clear hb2 P1
  by_cases ho : O = N
  case neg =>
    have R : Hid (sameS A D V O U N e e = false) := R0.out.trans (by simp [ho])
    rw [decide_eq_false ho]
    clear ho
    go_wp2
    go_ret
    exact ⟨(by rw [R.out]; try rfl), P2.out.b⟩
  rw [decide_eq_true ho]
  have HOo := Lib.hid ho
  clear ho
  go_wp2_with fail
  clear p0 p1 p2 p3 q0 q1 q2 q3
  refine (equalFunc_is A D hAl hDl hA.out.1 hA.out.2 _ _ _ (H.out.1.a.later P2.out.b) (H.out.2.a.later P2.out.b)).mono ?_
  rintro e1 w3 ⟨rfl, hb3⟩
  have P3 := Lib.hid (P2.out.later hb3)
  obtain ⟨⟨p0, p1, p2, p3⟩, _⟩ := blk4 P3.out.p
  obtain ⟨⟨q0, q1, q2, q3⟩, _⟩ := blk4 P3.out.q
  clear hb3 P2
  have R : Hid (sameS A D V O U N e e = decide (A = D)) := R0.out.trans (by simp [HVv.out, HOo.out])
  clear p0 p1 p2 p3 q0 q1 q2 q3
  go_wp2
  go_ret
  exact ⟨(by rw [R.out]; try rfl), P3.out.b⟩
end Go.Proofs.Ytcafpaahbbachab
/-
  Whether two stores are the same: SameSto of the specification.
-/
namespace Go.Proofs.Ytcafpaahbbachab
open Go.RowKit Go.Lib
set_option linter.unusedSimpArgs false
set_option linter.unusedVariables false

set_option maxHeartbeats 2000000 in
set_option maxRecDepth 100000 in
theorem spec_SameSto (A D : List (List Int)) (V O U N : List Int) (e f : Int) (hl : StoL A V O) (hk : StoL D U N) (va vv vo ua uv uo : Value) (w : World) (h : StoV w va vv vo A V O) (g : StoV w ua uv uo D U N) :
    Calls Try.prog 5 #[.agg #[va, vv, vo, .int .i64 e], .agg #[ua, uv, uo, .int .i64 f]] w fun e1 w' => e1 = .returned (.bool (sameS A D V O U N e f)) ∧ Below w.heap.size w w' := by
  have H := Lib.hid (And.intro h g)
  have hA : Hid ((∀ xs ∈ A, xs.length ≤ 100000000) ∧ (∀ xs ∈ D, xs.length ≤ 100000000)) := ⟨fun xs hx => Nat.le_trans (hl.b xs hx) (by omega), fun xs hx => Nat.le_trans (hk.b xs hx) (by omega)⟩
  have hAl : A.length ≤ 100000000 := Nat.le_trans hl.a (by omega)
  have hV : V.length ≤ 100000000 := Nat.le_trans hl.v (by omega)
  have hO : O.length ≤ 100000000 := Nat.le_trans hl.o (by omega)
  have hDl : D.length ≤ 100000000 := Nat.le_trans hk.a (by omega)
  have hU : U.length ≤ 100000000 := Nat.le_trans hk.v (by omega)
  have hN : N.length ≤ 100000000 := Nat.le_trans hk.o (by omega)
  obtain ⟨a1, c1, rfl⟩ := h.a.shape
  obtain ⟨a2, c2, rfl⟩ := h.v.shape
  obtain ⟨a3, c3, rfl⟩ := h.o.shape
  obtain ⟨a4, c4, rfl⟩ := g.a.shape
  obtain ⟨a5, c5, rfl⟩ := g.v.shape
  obtain ⟨a6, c6, rfl⟩ := g.o.shape
  clear h g hl hk
  have P := Lib.hid (Bx2.start w (.slice a1 A.length c1) (.slice a2 V.length c2) (.slice a3 O.length c3) (.int .i64 e) (.slice a4 D.length c4) (.slice a5 U.length c5) (.slice a6 N.length c6) (.int .i64 f) 28)
  by_cases hln : A.length = D.length
  case neg =>
    have hlI : ((A.length : Int) == (D.length : Int)) = false := by simp; omega
    have R : Hid (sameS A D V O U N e f = false) := show sameS A D V O U N e f = false by
      have : ¬ A = D := fun h => hln (by rw [h])
      simp [sameS, this]
    clear hln
    go_enter Try.func5, Try.ntmps5
    go_wp2
    go_ret
    exact ⟨(by rw [R.out]; try rfl), P.out.b⟩
  have hbl : ((A.length : Int) != (D.length : Int)) = false := by simp; omega
  have HLN := Lib.hid hln
  clear hln
  go_enter Try.func5, Try.ntmps5
  go_wp2_with fail
  refine (l7SameInts_is V U hV hU _ _ _ (H.out.1.v.later P.out.b) (H.out.2.v.later P.out.b)).mono ?_
  rintro e1 w1 ⟨rfl, hb1⟩
  have P1 := Lib.hid (P.out.later hb1)
  obtain ⟨⟨p0, p1, p2, p3⟩, _⟩ := blk4 P1.out.p
  obtain ⟨⟨q0, q1, q2, q3⟩, _⟩ := blk4 P1.out.q
  clear hb1 P
  by_cases hv : V = U
  case neg =>
    have R : Hid (sameS A D V O U N e f = false) := show sameS A D V O U N e f = false by simp [sameS, hv]
    rw [decide_eq_false hv]
    clear hv
    go_wp2
    go_ret
    exact ⟨(by rw [R.out]; try rfl), P1.out.b⟩
  rw [decide_eq_true hv]
  have HVv := Lib.hid hv
  clear hv
  go_wp2_with fail
  clear p0 p1 p2 p3 q0 q1 q2 q3
  refine (l7SameInts_is O N hO hN _ _ _ (H.out.1.o.later P1.out.b) (H.out.2.o.later P1.out.b)).mono ?_
  rintro e1 w2 ⟨rfl, hb2⟩
  have P2 := Lib.hid (P1.out.later hb2)
  obtain ⟨⟨p0, p1, p2, p3⟩, _⟩ := blk4 P2.out.p
  obtain ⟨⟨q0, q1, q2, q3⟩, _⟩ := blk4 P2.out.q
  clear hb2 P1
  by_cases ho : O = N
  case neg =>
    have R : Hid (sameS A D V O U N e f = false) := show sameS A D V O U N e f = false by simp [sameS, ho]
    rw [decide_eq_false ho]
    clear ho
    go_wp2
    go_ret
    exact ⟨(by rw [R.out]; try rfl), P2.out.b⟩
  rw [decide_eq_true ho]
  have HOo := Lib.hid ho
  clear ho
  by_cases he : e = f
  case neg =>
    have hef : (e == f) = false := by simpa using he
    have R : Hid (sameS A D V O U N e f = false) := show sameS A D V O U N e f = false by simp [sameS, he]
    clear he
    go_wp2
    go_ret
    exact ⟨(by rw [R.out]; try rfl), P2.out.b⟩
  subst he
  have R0 : Hid (sameS A D V O U N e e = decide (A = D)) := show sameS A D V O U N e e = _ by simp [sameS, HVv.out, HOo.out]
  have B2 := P2.out.b
  go_wp2
  clear p0 p1 p2 p3 q0 q1 q2 q3
  go_loopw [5] (fun i wr => ∃ k : Nat, k ≤ A.length ∧ i = .int .i64 k ∧ Hid (A.take k = D.take k) ∧ Hid (Bx2 w wr w.heap.size (.slice a1 A.length c1) (.slice a2 V.length c2) (.slice a3 O.length c3) (.int .i64 e) (.slice a4 D.length c4) (.slice a5 U.length c5) (.slice a6 N.length c6) (.int .i64 e) 28)) (fun i _ => A.length - (RowKit.intOf i).toNat)
  case atStart => exact ⟨0, by omega, rfl, (by show A.take 0 = D.take 0; simp), P2.out⟩
  case round =>
    obtain ⟨k, hk, rfl, htk, hP⟩ := hrel
    clear P2 B2
    obtain ⟨⟨p0, p1, p2, p3⟩, _⟩ := blk4 hP.out.p
    obtain ⟨⟨q0, q1, q2, q3⟩, _⟩ := blk4 hP.out.q
    by_cases hlt : k < A.length
    · obtain ⟨x, hx1⟩ : ∃ x, A[k]? = some x := ⟨A[k], List.getElem?_eq_getElem hlt⟩
      obtain ⟨y, hy1⟩ : ∃ y, D[k]? = some y := ⟨D[k]'(by have := HLN.out; omega), List.getElem?_eq_getElem _⟩
      obtain ⟨ga, oa, xa, rfl, A0, hua⟩ := (H.out.1.a.later hP.out.b).at hx1
      obtain ⟨gb, ob, xb, rfl, B0, hub⟩ := (H.out.2.a.later hP.out.b).at hy1
      have hltI : (k : Int) < (A.length : Int) := by omega
      have hltD : (k : Int) < (D.length : Int) := by have := HLN.out; omega
      have hxl := hA.out.1 x (List.mem_of_getElem? hx1)
      have hyl := hA.out.2 y (List.mem_of_getElem? hy1)
      have UA := Lib.hid hua
      have UB := Lib.hid hub
      obtain ⟨pa, qa, rfl⟩ := hua.shape
      obtain ⟨pb, qb, rfl⟩ := hub.shape
      have Ht0 := Lib.hid (And.intro hx1 hy1)
      have HC := Lib.hid hP.out
      clear hx1 hy1 hua hub hP p1 p2 p3 q1 q2 q3
      go_wp2_with fail
      go_cut [54] from 36 to 54 (fun v wx => v = .bool (!decide (x = y)) ∧ Below wr.heap.size wr wx)
      case first =>
        go_region_with (go_at_call 11; refine (l7SameInts_is x y hxl hyl _ _ _ (UA.out.later (Below.refl _ wr).drew) (UB.out.later (Below.refl _ wr).drew)).mono ?_; rintro e1 w1 ⟨rfl, hb1⟩)
        all_goals (try go_wp2_with fail)
        all_goals go_meet
        all_goals exact ⟨by simp, ⟨hb1.os, hb1.tape, hb1.output, hb1.size, hb1.block⟩⟩
      case rest =>
        obtain ⟨rfl, hb1⟩ := hcut
        have HC2 := Lib.hid (HC.out.later hb1)
        clear A0 B0 hb1 UA UB p0 q0 HC
        by_cases hxy : x = y
        · have Htk : Hid (A.take (k + 1) = D.take (k + 1)) := show A.take (k + 1) = D.take (k + 1) by rw [List.take_add_one, List.take_add_one, Ht0.out.1, Ht0.out.2, htk.out, hxy]
          rw [decide_eq_true hxy]
          clear hxy htk
          go_wp2
          go_roundw
          case rel => exact ⟨k + 1, by omega, by go_num, Htk.out, HC2.out⟩
          case measure => simp [RowKit.intOf]; omega
        · have Hne : Hid (¬ A = D) := fun e => hxy (by subst e; have := Ht0.out.1.symm.trans Ht0.out.2; injection this)
          rw [decide_eq_false hxy]
          clear hxy htk
          go_wp2
          go_ret
          exact ⟨(by rw [R0.out, decide_eq_false Hne.out]; try rfl), HC2.out.b⟩
    · have He : A = D := by
        have h := htk.out
        rw [List.take_of_length_le (by omega), List.take_of_length_le (by have := HLN.out; omega)] at h
        exact h
      have HE := Lib.hid He
      have hltI : ¬ (k : Int) < (A.length : Int) := by omega
      clear He p1 p2 p3 q0 q1 q2 q3
      go_wp2
      go_ret
      exact ⟨(by rw [R0.out, decide_eq_true HE.out]; try rfl), hP.out.b⟩
end Go.Proofs.Ytcafpaahbbachab
