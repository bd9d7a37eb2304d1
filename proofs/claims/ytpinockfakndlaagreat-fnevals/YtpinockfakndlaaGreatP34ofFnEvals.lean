import Derived.Test.YtpinockfakndlaaGreatP33ofFnEvals
import Derived.Test.YtpinockfakndlaaGreatP31ofFnEvals
namespace Go.Proofs.YtpinockfakndlaaGreat
open Go.RowKit Go.Lib
set_option maxRecDepth 100000
set_option maxHeartbeats 2000000
set_option linter.unusedSimpArgs false
set_option linter.unusedVariables false
theorem sameInts_law (xs : List Int) (hlen : xs.length ≤ 100000000) (va vb : Value) (w : World) (ha : IV w 0 va xs) (hb : IV w 0 vb xs) :
    Calls Tryz.prog 32 #[va, vb] w fun e w' => e = .returned (.bool true) ∧ Below w.heap.size w w' := by
  obtain ⟨ao, ca, rfl, ha⟩ := ha
  obtain ⟨bo, cb, rfl, hb⟩ := hb
  go_enter Tryz.func32, Tryz.ntmps32
  go_wp2
  go_loopw [5] (fun i wr => ∃ k : Nat, k ≤ xs.length ∧ i = .int .i64 k ∧ Below w.heap.size w wr) (fun i _ => xs.length - (RowKit.intOf i).toNat)
  case atStart => exact ⟨0, by omega, rfl, Below.refl _ _⟩
  case round =>
    obtain ⟨k, hk, rfl, hbw⟩ := hrel
    by_cases hlt : k < xs.length
    · obtain ⟨t, ht⟩ : ∃ t, xs[k]? = some t := ⟨xs[k], List.getElem?_eq_getElem hlt⟩
      rcases ha with ha | ⟨ga, oa, rfl, _, gla, hca⟩
      · subst ha; simp at hlt
      rcases hb with hb | ⟨gb, ob, rfl, _, glb, hcb⟩
      · subst hb; simp at hlt
      have A0 := (hbw.cell (p := ⟨ga, oa + k, Option.none⟩) gla).trans (hca k t ht)
      have B0 := (hbw.cell (p := ⟨gb, ob + k, Option.none⟩) glb).trans (hcb k t ht)
      have hltI : (k : Int) < (xs.length : Int) := by omega
      clear hca hcb ht
      go_wp2_with fail
      go_cut [25] from 11 to 25 (fun v wx => v = .bool false ∧ Below wr.heap.size wr wx)
      case first =>
        go_region_with fail
        all_goals (try go_wp2_with fail)
        all_goals go_meet
        all_goals exact ⟨by simp, (Below.refl _ wr).drew⟩
      case rest =>
        obtain ⟨rfl, hb1⟩ := hcut
        have hbw2 := hbw.trans (hb1.mono hbw.size)
        clear A0 B0 hb1
        go_wp2
        go_roundw
        case rel => exact ⟨k + 1, by omega, by go_num, hbw2⟩
        case measure => simp [RowKit.intOf]; omega
    · go_wp2
      go_ret
      exact ⟨rfl, hbw⟩
theorem sameSto_law (A : List (List Int)) (V O : List Int) (e : Int) (hl : StoL A V O) (va vv vo ua uv uo : Value) (w : World) (h : StoV w va vv vo A V O) (g : StoV w ua uv uo A V O) :
    Calls Tryz.prog 9 #[.agg #[va, vv, vo, .int .i64 e], .agg #[ua, uv, uo, .int .i64 e]] w fun e1 w' => e1 = .returned (.bool true) ∧ Below w.heap.size w w' := by
  have H := hid (And.intro h g)
  have hA : Hid (∀ xs ∈ A, xs.length ≤ 100000000) := fun xs hx => Nat.le_trans (hl.b xs hx) (by omega)
  have hAl : A.length ≤ 100000000 := Nat.le_trans hl.a (by omega)
  have hV : V.length ≤ 100000000 := Nat.le_trans hl.v (by omega)
  have hO : O.length ≤ 100000000 := Nat.le_trans hl.o (by omega)
  obtain ⟨a1, c1, rfl⟩ := h.a.shape
  obtain ⟨a2, c2, rfl⟩ := h.v.shape
  obtain ⟨a3, c3, rfl⟩ := h.o.shape
  obtain ⟨a4, c4, rfl⟩ := g.a.shape
  obtain ⟨a5, c5, rfl⟩ := g.v.shape
  obtain ⟨a6, c6, rfl⟩ := g.o.shape
  clear h g hl
  have P := hid (Bx2.start w (.slice a1 A.length c1) (.slice a2 V.length c2) (.slice a3 O.length c3) (.int .i64 e) (.slice a4 A.length c4) (.slice a5 V.length c5) (.slice a6 O.length c6) (.int .i64 e) 33)
  go_enter Tryz.func9, Tryz.ntmps9
  go_wp2_with fail
  refine (sameInts_law V hV _ _ _ (H.out.1.v.later P.out.b) (H.out.2.v.later P.out.b)).mono ?_
  rintro e1 w1 ⟨rfl, hb1⟩
  have P1 := hid (P.out.later hb1)
  obtain ⟨⟨p0, p1, p2, p3⟩, _⟩ := blk4 P1.out.p
  obtain ⟨⟨q0, q1, q2, q3⟩, _⟩ := blk4 P1.out.q
  clear hb1 P
  go_wp2_with fail
  clear p0 p1 p2 p3 q0 q1 q2 q3
  refine (sameInts_law O hO _ _ _ (H.out.1.o.later P1.out.b) (H.out.2.o.later P1.out.b)).mono ?_
  rintro e1 w2 ⟨rfl, hb2⟩
  have P2 := hid (P1.out.later hb2)
  obtain ⟨⟨p0, p1, p2, p3⟩, _⟩ := blk4 P2.out.p
  obtain ⟨⟨q0, q1, q2, q3⟩, _⟩ := blk4 P2.out.q
  clear hb2 P1
  go_wp2_with fail
  clear p0 p1 p2 p3 q0 q1 q2 q3
  go_loopw [5] (fun i wr => ∃ k : Nat, k ≤ A.length ∧ i = .int .i64 k ∧ Hid (Bx2 w wr w.heap.size (.slice a1 A.length c1) (.slice a2 V.length c2) (.slice a3 O.length c3) (.int .i64 e) (.slice a4 A.length c4) (.slice a5 V.length c5) (.slice a6 O.length c6) (.int .i64 e) 33)) (fun i _ => A.length - (RowKit.intOf i).toNat)
  case atStart => exact ⟨0, by omega, rfl, P2.out⟩
  case round =>
    obtain ⟨k, hk, rfl, hP⟩ := hrel
    clear P2
    obtain ⟨⟨p0, p1, p2, p3⟩, _⟩ := blk4 hP.out.p
    obtain ⟨⟨q0, q1, q2, q3⟩, _⟩ := blk4 hP.out.q
    by_cases hlt : k < A.length
    · obtain ⟨x, hx1⟩ : ∃ x, A[k]? = some x := ⟨A[k], List.getElem?_eq_getElem hlt⟩
      obtain ⟨ga, oa, xa, rfl, A0, hua⟩ := (H.out.1.a.later hP.out.b).at hx1
      obtain ⟨gb, ob, xb, rfl, B0, hub⟩ := (H.out.2.a.later hP.out.b).at hx1
      have hltI : (k : Int) < (A.length : Int) := by omega
      have hxl := hA.out x (List.mem_of_getElem? hx1)
      have UA := hid hua
      have UB := hid hub
      obtain ⟨pa, qa, rfl⟩ := hua.shape
      obtain ⟨pb, qb, rfl⟩ := hub.shape
      have HC := hid hP.out
      clear hx1 hua hub hP p1 p2 p3 q1 q2 q3
      go_wp2_with fail
      go_cut [54] from 36 to 54 (fun v wx => v = .bool false ∧ Below wr.heap.size wr wx)
      case first =>
        go_region_with (go_at_call 32; refine (sameInts_law x hxl _ _ _ (UA.out.later (Below.refl _ wr).drew) (UB.out.later (Below.refl _ wr).drew)).mono ?_; rintro e1 w1 ⟨rfl, hb1⟩)
        all_goals (try go_wp2_with fail)
        all_goals go_meet
        all_goals exact ⟨by simp, ⟨hb1.os, hb1.tape, hb1.output, hb1.size, hb1.block⟩⟩
      case rest =>
        obtain ⟨rfl, hb1⟩ := hcut
        have HC2 := hid (HC.out.later hb1)
        clear A0 B0 hb1 UA UB p0 q0 HC
        go_wp2
        go_roundw
        case rel => exact ⟨k + 1, by omega, by go_num, HC2.out⟩
        case measure => simp [RowKit.intOf]; omega
    · have HB := hid hP.out.b
      go_wp2
      go_ret
      exact ⟨rfl, HB.out⟩
end Go.Proofs.YtpinockfakndlaaGreat
