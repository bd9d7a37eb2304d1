/-
  Texts in one: AstTop, AstSame, AstSize, AstCount, AstAll.
-/
import Derived.Test.YtkhccpjkajhnpaaGreatDoorP05ofParseExp
import Derived.Test.YtkhccpjkajhnpaaGreatDoorP02ofParseExp
import Derived.OneCell
import Derived.Deep.AppendLies
/-
  The contracts of sameTop, partsOf.
-/
namespace Go.Proofs.YtkhccpjkajhnpaaGreatDoor
open Go.RowKit Go.Lib
set_option linter.unusedSimpArgs false
set_option linter.unusedVariables false

set_option maxHeartbeats 1000000 in
set_option maxRecDepth 100000 in
theorem sameTop_is (x y : X) (va vb : Value) (w : World) :
    Calls Tryz.prog 227 #[.agg (xcells x va).toArray, .agg (xcells y vb).toArray] w fun e w' => e = .returned (.bool (hsame x.h y.h)) ∧ Below w.heap.size w w' := by
  obtain ⟨⟨xk, xn, xs⟩, xl⟩ := x
  obtain ⟨⟨yk, yn, ys⟩, yl⟩ := y
  show Calls Tryz.prog 227 #[.agg #[.int .i64 xk, .int .i64 xn, .string xs, va], .agg #[.int .i64 yk, .int .i64 yn, .string ys, vb]] w _
  have hB : Hid (∀ a b, Below w.heap.size w ((w.alloc a).alloc b)) := fun a b => (alloc_below w a).alloc (by simp) b
  by_cases hk : xk = yk
  case neg =>
    have hf : Hid (hsame ⟨xk, xn, xs⟩ ⟨yk, yn, ys⟩ = false) := show hsame _ _ = false by simp [hsame, hk]
    have h1 := int_ne hk
    go_enter Tryz.func227, Tryz.ntmps227
    go_wp2
    go_ret
    exact retB hf.out (hB.out _ _)
  by_cases hn : xn = yn
  case neg =>
    have hf : Hid (hsame ⟨xk, xn, xs⟩ ⟨yk, yn, ys⟩ = false) := show hsame _ _ = false by simp [hsame, hn]
    have h1 := int_ne hn
    subst hk
    go_enter Tryz.func227, Tryz.ntmps227
    go_wp2
    go_ret
    exact retB hf.out (hB.out _ _)
  by_cases hs : xs = ys
  case neg =>
    have hf : Hid (hsame ⟨xk, xn, xs⟩ ⟨yk, yn, ys⟩ = false) := show hsame _ _ = false by simp [hsame, hs]
    have h1 := str_ne hs
    subst hk
    subst hn
    clear hs
    go_enter Tryz.func227, Tryz.ntmps227
    go_wp2
    go_ret
    exact retB hf.out (hB.out _ _)
  subst hk
  subst hn
  subst hs
  have hf : Hid (hsame ⟨xk, xn, xs⟩ ⟨xk, xn, xs⟩ = true) := show hsame _ _ = true by simp [hsame]
  go_enter Tryz.func227, Tryz.ntmps227
  go_wp2
  go_ret
  exact retB hf.out (hB.out _ _)
end Go.Proofs.YtkhccpjkajhnpaaGreatDoor
/-
  What it is that two expressions are the same; the contract of the specification's SameExp.
-/
namespace Go.Proofs.YtkhccpjkajhnpaaGreatDoor
open Go.RowKit Go.Lib
set_option linter.unusedSimpArgs false
set_option linter.unusedVariables false

set_option maxHeartbeats 2000000 in
set_option maxRecDepth 100000 in
theorem spec_SameExp_step (x y : X) (hx : enodes x.l ≤ 10000000) (hy : enodes y.l ≤ 10000000)
    (ih : ∀ x' y' : X, enodes x'.l < enodes x.l → enodes y'.l ≤ 10000000 → ∀ (w : World) (va vb : Value), EV w 0 x'.l va → EV w 0 y'.l vb → Calls Tryz.prog 15 #[.agg (xcells x' va).toArray, .agg (xcells y' vb).toArray] w fun e w' => e = .returned (.bool (xsame x' y')) ∧ Below w.heap.size w w')
    (w : World) (va vb : Value) (ha : EV w 0 x.l va) (hb : EV w 0 y.l vb) :
    Calls Tryz.prog 15 #[.agg (xcells x va).toArray, .agg (xcells y vb).toArray] w fun e w' => e = .returned (.bool (xsame x y)) ∧ Below w.heap.size w w' := by
  obtain ⟨⟨xk, xn, xs⟩, xl⟩ := x
  obtain ⟨⟨yk, yn, ys⟩, yl⟩ := y
  show Calls Tryz.prog 15 #[.agg #[.int .i64 xk, .int .i64 xn, .string xs, va], .agg #[.int .i64 yk, .int .i64 yn, .string ys, vb]] w _
  obtain ⟨b1, o1, ao1, cap1, rfl, hao1, _, hin1⟩ := ha
  obtain ⟨b2, o2, ao2, cap2, rfl, hao2, _, hin2⟩ := hb
  have HB0 := two_blk w #[.int .i64 xk, .int .i64 xn, .string xs, .slice ao1 (elen xl) cap1] #[.int .i64 yk, .int .i64 yn, .string ys, .slice ao2 (elen yl) cap2] 33 33
  have HB := Lib.hid HB0
  clear HB0
  by_cases hk : xk = yk
  case neg =>
    have hf : Hid (xsame ⟨⟨xk, xn, xs⟩, xl⟩ ⟨⟨yk, yn, ys⟩, yl⟩ = false) := show xsame _ _ = false by simp [xsame, hsame, hk]
    have h1 := int_ne hk
    clear ih
    go_enter Tryz.func15, Tryz.ntmps15
    go_wp2
    go_ret
    exact retB hf.out HB.out.2.2
  by_cases hn : xn = yn
  case neg =>
    have hf : Hid (xsame ⟨⟨xk, xn, xs⟩, xl⟩ ⟨⟨yk, yn, ys⟩, yl⟩ = false) := show xsame _ _ = false by simp [xsame, hsame, hn]
    have h1 := int_ne hn
    subst hk
    clear ih
    go_enter Tryz.func15, Tryz.ntmps15
    go_wp2
    go_ret
    exact retB hf.out HB.out.2.2
  by_cases hs : xs = ys
  case neg =>
    have hf : Hid (xsame ⟨⟨xk, xn, xs⟩, xl⟩ ⟨⟨yk, yn, ys⟩, yl⟩ = false) := show xsame _ _ = false by simp [xsame, hsame, hs]
    have h1 := str_ne hs
    subst hk
    subst hn
    clear ih
    go_enter Tryz.func15, Tryz.ntmps15
    go_wp2
    go_ret
    exact retB hf.out HB.out.2.2
  subst hk
  subst hn
  subst hs
  by_cases hL : elen xl = elen yl
  case neg =>
    have hf : Hid (xsame ⟨⟨xk, xn, xs⟩, xl⟩ ⟨⟨xk, xn, xs⟩, yl⟩ = false) := show xsame _ _ = false by simp [xsame, esame_diff hL]
    have h1 : ((elen xl : Int) == (elen yl : Int)) = false := int_ne (by omega)
    clear ih hL
    go_enter Tryz.func15, Tryz.ntmps15
    go_wp2
    go_ret
    exact retB hf.out HB.out.2.2
  have hf : Hid (xsame ⟨⟨xk, xn, xs⟩, xl⟩ ⟨⟨xk, xn, xs⟩, yl⟩ = esame xl yl) := show xsame _ _ = _ by simp [xsame, hsame]
  have hlx : elen xl ≤ 10000000 := by have := elen_le xl; have hx3 : enodes xl ≤ 10000000 := hx; omega
  have h1 : ((elen xl : Int) == (elen yl : Int)) = true := by rw [beq_iff_eq]; omega
  have Hih := Lib.hid ih
  have HL := Lib.hid hL
  have hx2 : enodes xl ≤ 10000000 := hx
  have hy2 : enodes yl ≤ 10000000 := hy
  clear ih hL hx hy
  go_enter Tryz.func15, Tryz.ntmps15
  go_wp2
  go_loopw [5] (fun i wr => ∃ (R S : EF) (k : Nat), i = .int .i64 (k : Int) ∧ Hid (k + elen R = elen xl ∧ k + elen S = elen yl ∧ enodes R ≤ enodes xl ∧ enodes S ≤ enodes yl ∧ EIn w 0 R b1 (o1 + k * 4) ∧ EIn w 0 S b2 (o2 + k * 4) ∧ esame xl yl = esame R S) ∧ Hid (wr.rangeAt w.heap.size 0 [.int .i64 xk, .int .i64 xn, .string xs, .slice ao1 (elen xl) cap1] ∧ wr.rangeAt (w.heap.size + 1) 0 [.int .i64 xk, .int .i64 xn, .string xs, .slice ao2 (elen yl) cap2]) ∧ Below w.heap.size w wr) (fun i _ => elen xl - (RowKit.intOf i).toNat)
  case atStart => exact ⟨xl, yl, 0, rfl, ⟨by omega, by have := HL.out; omega, Nat.le_refl _, Nat.le_refl _, by simpa using hin1, by simpa using hin2, rfl⟩, ⟨HB.out.1, HB.out.2.1⟩, HB.out.2.2⟩
  case round =>
    obtain ⟨R, S, k, rfl, hr, hrg, hbw⟩ := hrel
    obtain ⟨e1, e2, e3, e4, e5, e6, e7⟩ := hr.out
    have c1 : wr.cell? ⟨w.heap.size, 3, Option.none⟩ = some (.slice ao1 (elen xl) cap1) := by have := hrg.out.1 3 _ rfl; rwa [Nat.zero_add] at this
    have c2 : wr.cell? ⟨w.heap.size + 1, 3, Option.none⟩ = some (.slice ao2 (elen yl) cap2) := by have := hrg.out.2 3 _ rfl; rwa [Nat.zero_add] at this
    cases R with
    | nil =>
      have hk : ¬ (k : Int) < (elen xl : Int) := by simp only [elen] at e1; omega
      have hres : Hid (esame xl yl = true) := show esame xl yl = true by
        rw [e7]
        cases S with
        | nil => rfl
        | node _ _ _ _ _ => simp only [elen] at e1 e2; have := HL.out; omega
      go_wp2
      go_ret
      exact retB (by rw [hf.out, hres.out]) hbw
    | node p q h l r =>
      cases S with
      | nil => simp only [elen] at e1 e2; have := HL.out; omega
      | node p' q' h' l' r' =>
      have hlt : (k : Int) < (elen xl : Int) := by simp only [elen] at e1; omega
      have hlt2 : (k : Int) < (elen yl : Int) := by simp only [elen] at e2; omega
      have hk0 : (0 : Int) ≤ (k : Int) := by omega
      have hne1 : ¬ xl = .nil := by intro e; rw [e] at e1; simp only [elen] at e1; omega
      have hne2 : ¬ yl = .nil := by intro e; rw [e] at e2; simp only [elen] at e2; omega
      obtain rfl : ao1 = some ⟨b1, o1, Option.none⟩ := hao1.resolve_right hne1
      obtain rfl : ao2 = some ⟨b2, o2, Option.none⟩ := hao2.resolve_right hne2
      obtain ⟨⟨a0, a1, a2, u1, a3, hu1⟩, _⟩ := EIn_node.1 (EIn_later hbw _ _ _ e5)
      obtain ⟨⟨d0, d1, d2, u2, d3, hu2⟩, _⟩ := EIn_node.1 (EIn_later hbw _ _ _ e6)
      have ra : wr.rangeAt b1 (o1 + k * 4) (xcells ⟨h, l⟩ u1) := x_range a0 a1 a2 a3
      have rc : wr.rangeAt b2 (o2 + k * 4) (xcells ⟨h', l'⟩ u2) := x_range d0 d1 d2 d3
      simp only [enodes] at e3 e4
      have Hl := Lib.hid (Hih.out ⟨h, l⟩ ⟨h', l'⟩ (by show enodes l < enodes xl; omega) (by show enodes l' ≤ _; omega))
      rw [esame_node] at e7
      have He : Hid (k + 1 + elen r = elen xl ∧ k + 1 + elen r' = elen yl ∧ enodes r ≤ enodes xl ∧ enodes r' ≤ enodes yl ∧ EIn w 0 r b1 (o1 + (k + 1) * 4) ∧ EIn w 0 r' b2 (o2 + (k + 1) * 4) ∧ esame xl yl = (xsame ⟨h, l⟩ ⟨h', l'⟩ && esame r r')) := ⟨by simp only [elen] at e1; omega, by simp only [elen] at e2; omega, by omega, by omega, by rw [show o1 + (k + 1) * 4 = o1 + k * 4 + 4 by omega]; exact (EIn_node.1 e5).2, by rw [show o2 + (k + 1) * 4 = o2 + k * 4 + 4 by omega]; exact (EIn_node.1 e6).2, e7⟩
      have HU := Lib.hid (And.intro hu1 hu2)
      obtain ⟨A, HA⟩ : ∃ A, Hid (A = xcells ⟨h, l⟩ u1) := ⟨_, rfl⟩
      obtain ⟨C, HC⟩ : ∃ C, Hid (C = xcells ⟨h', l'⟩ u2) := ⟨_, rfl⟩
      rw [← HA.out] at ra
      rw [← HC.out] at rc
      have hiA : (Tryz.prog.info? 33).map (·.size) = some A.length := by rw [HA.out]; exact sizeIE2
      have hiC : (Tryz.prog.info? 33).map (·.size) = some C.length := by rw [HC.out]; exact sizeIE2
      obtain ⟨tv, htv⟩ : ∃ tv, xsame ⟨h, l⟩ ⟨h', l'⟩ = tv := ⟨_, rfl⟩
      have Htv := Lib.hid htv
      clear hr e1 e2 e3 e4 e5 e6 e7 hin1 hin2 hne1 hne2 hao1 hao2 hu1 hu2 a0 a1 a2 a3 d0 d1 d2 d3 htv
      go_wp2_with fail
      go_cut [52] from 34 to 52 (fun v wx => v = .bool (!tv) ∧ Below wr.heap.size wr wx)
      case first =>
        refine wp_region_held_drew (S := fun w' => (w'.cell? ⟨w.heap.size, 3, Option.none⟩ = some (.slice (some ⟨b1, o1, Option.none⟩) (elen xl) cap1) ∧ w'.cell? ⟨w.heap.size + 1, 3, Option.none⟩ = some (.slice (some ⟨b2, o2, Option.none⟩) (elen yl) cap2)) ∧ (w'.rangeAt b1 (o1 + k * 4) A ∧ w'.rangeAt b2 (o2 + k * 4) C)) (by kernel_rfl) ⟨⟨c1, c2⟩, ⟨(World.rangeAt_drew _ _ _ _).2 ra, (World.rangeAt_drew _ _ _ _).2 rc⟩⟩ (fun hHeld => ?_)
        refine wpAnyH_take (i := 0) (v := .pointer (some ⟨w.heap.size, 3, Option.none⟩)) rfl (by kernel_rfl) (by kernel_rfl) (by kernel_rfl) (fun _ _ _ h => h) (Or.inl ⟨by rfl, ?y0⟩) hHeld ?_
        case y0 => intro w hSw; go_simp
        simp only [Act.put, List.getElem_toArray, List.getElem_cons_succ, List.getElem_cons_zero, List.setIfInBounds_toArray, List.set_cons_zero, List.set_cons_succ]
        refine wpAnyH_take (i := 1) (v := .slice (some ⟨b1, o1, Option.none⟩) (elen xl) cap1) rfl (by kernel_rfl) (by kernel_rfl) (by kernel_rfl) (fun _ _ _ h => h) (Or.inl ⟨by rfl, ?y1⟩) hHeld ?_
        case y1 => intro w hSw; have q1 := hSw.1.1; clear hSw c1 c2 ra rc hHeld; go_simp
        simp only [Act.put, List.getElem_toArray, List.getElem_cons_succ, List.getElem_cons_zero, List.setIfInBounds_toArray, List.set_cons_zero, List.set_cons_succ]
        refine wpAnyH_take (i := 2) (v := .int .i64 (k : Int)) rfl (by kernel_rfl) (by kernel_rfl) (by kernel_rfl) (fun _ _ _ h => h) (Or.inl ⟨by rfl, ?y2⟩) hHeld ?_
        case y2 => intro w hSw; go_simp
        simp only [Act.put, List.getElem_toArray, List.getElem_cons_succ, List.getElem_cons_zero, List.setIfInBounds_toArray, List.set_cons_zero, List.set_cons_succ]
        refine wpAnyH_take (i := 3) (v := .pointer (some ⟨b1, o1 + k * 4, Option.none⟩)) rfl (by kernel_rfl) (by kernel_rfl) (by kernel_rfl) (fun _ _ _ h => h) (Or.inl ⟨by rfl, ?y3⟩) hHeld ?_
        case y3 => intro w hSw; go_simp
        simp only [Act.put, List.getElem_toArray, List.getElem_cons_succ, List.getElem_cons_zero, List.setIfInBounds_toArray, List.set_cons_zero, List.set_cons_succ]
        refine wpAnyH_take (i := 4) (v := .agg A.toArray) rfl (by kernel_rfl) (by kernel_rfl) (by kernel_rfl) (fun _ _ _ h => h) (yieldsIf_load_mid (by rfl) 33 _ rfl b1 (o1 + k * 4) rfl A _ (fun w h => h.2.1) Tryz.underlying33 rfl hiA) hHeld ?_
        simp only [Act.put, List.getElem_toArray, List.getElem_cons_succ, List.getElem_cons_zero, List.setIfInBounds_toArray, List.set_cons_zero, List.set_cons_succ]
        refine wpAnyH_take (i := 5) (v := .pointer (some ⟨w.heap.size + 1, 3, Option.none⟩)) rfl (by kernel_rfl) (by kernel_rfl) (by kernel_rfl) (fun _ _ _ h => h) (Or.inl ⟨by rfl, ?y5⟩) hHeld ?_
        case y5 => intro w hSw; go_simp
        simp only [Act.put, List.getElem_toArray, List.getElem_cons_succ, List.getElem_cons_zero, List.setIfInBounds_toArray, List.set_cons_zero, List.set_cons_succ]
        refine wpAnyH_take (i := 6) (v := .slice (some ⟨b2, o2, Option.none⟩) (elen yl) cap2) rfl (by kernel_rfl) (by kernel_rfl) (by kernel_rfl) (fun _ _ _ h => h) (Or.inl ⟨by rfl, ?y6⟩) hHeld ?_
        case y6 => intro w hSw; have q1 := hSw.1.2; clear hSw c1 c2 ra rc hHeld; go_simp
        simp only [Act.put, List.getElem_toArray, List.getElem_cons_succ, List.getElem_cons_zero, List.setIfInBounds_toArray, List.set_cons_zero, List.set_cons_succ]
        refine wpAnyH_take (i := 7) (v := .int .i64 (k : Int)) rfl (by kernel_rfl) (by kernel_rfl) (by kernel_rfl) (fun _ _ _ h => h) (Or.inl ⟨by rfl, ?y7⟩) hHeld ?_
        case y7 => intro w hSw; go_simp
        simp only [Act.put, List.getElem_toArray, List.getElem_cons_succ, List.getElem_cons_zero, List.setIfInBounds_toArray, List.set_cons_zero, List.set_cons_succ]
        refine wpAnyH_take (i := 8) (v := .pointer (some ⟨b2, o2 + k * 4, Option.none⟩)) rfl (by kernel_rfl) (by kernel_rfl) (by kernel_rfl) (fun _ _ _ h => h) (Or.inl ⟨by rfl, ?y8⟩) hHeld ?_
        case y8 => intro w hSw; go_simp
        simp only [Act.put, List.getElem_toArray, List.getElem_cons_succ, List.getElem_cons_zero, List.setIfInBounds_toArray, List.set_cons_zero, List.set_cons_succ]
        refine wpAnyH_take (i := 9) (v := .agg C.toArray) rfl (by kernel_rfl) (by kernel_rfl) (by kernel_rfl) (fun _ _ _ h => h) (yieldsIf_load_mid (by rfl) 33 _ rfl b2 (o2 + k * 4) rfl C _ (fun w h => h.2.2) Tryz.underlying33 rfl hiC) hHeld ?_
        simp only [Act.put, List.getElem_toArray, List.getElem_cons_succ, List.getElem_cons_zero, List.setIfInBounds_toArray, List.set_cons_zero, List.set_cons_succ]
        refine wpAnyH_ready (rs := [10]) (by kernel_rfl) (by simp) ?_
        refine AllReadyH.cons rfl (fun K hK => ?_) AllReadyH.nil
        rw [if_pos (by rfl)]
        simp only [List.getElem_toArray, List.getElem_cons_succ, List.getElem_cons_zero]
        have hq := Hl.out _ _ _ HU.out.1.drew HU.out.2.drew
        rw [Htv.out, ← HA.out, ← HC.out] at hq
        have HQ := Lib.hid hq
        clear hq
        go_wp2_with fail
        refine HQ.out.mono ?_
        rintro e w1 ⟨rfl, hb1⟩
        go_wp2_with fail
        refine hK.out _ _ ⟨⟨keeps hb1 hHeld.1.1, keeps hb1 hHeld.1.2⟩, ⟨rangeAt_later hHeld.2.1 hb1, rangeAt_later hHeld.2.2 hb1⟩⟩ (fun hHeld => ?_)
        refine wpAnyH_take (i := 11) (v := .bool (!tv)) rfl (by kernel_rfl) (by kernel_rfl) (by kernel_rfl) (fun _ _ _ h => h) (Or.inl ⟨by rfl, ?y11⟩) hHeld ?_
        case y11 => intro w hSw; go_simp
        simp only [Act.put, List.getElem_toArray, List.getElem_cons_succ, List.getElem_cons_zero, List.setIfInBounds_toArray, List.set_cons_zero, List.set_cons_succ]
        refine wpAnyH_done (by kernel_rfl) ?_ _
        all_goals (try go_wp2_with fail)
        all_goals go_meet
        all_goals exact ⟨rfl, ⟨hb1.os, hb1.tape, hb1.output, hb1.size, hb1.block⟩⟩
      case rest =>
        obtain ⟨rfl, hb1⟩ := hcut
        have hbw2 := hbw.trans (hb1.mono hbw.size)
        have hrg2 := Lib.hid (And.intro (rangeAt_later hrg.out.1 hb1) (rangeAt_later hrg.out.2 hb1))
        clear ra rc hb1 hiA hiC c1 c2 hrg hbw
        cases tv with
        | false =>
          have hres : Hid (esame xl yl = false) := show esame xl yl = false by rw [He.out.2.2.2.2.2.2, Htv.out]; rfl
          go_wp2
          go_ret
          exact retB (by rw [hf.out, hres.out]) hbw2
        | true =>
          go_wp2
          go_roundw
          case rel =>
            obtain ⟨g1, g2, g3, g4, g5, g6, g7⟩ := He.out
            exact ⟨r, r', k + 1, by go_num, ⟨g1, g2, g3, g4, g5, g6, by rw [g7, Htv.out, Bool.true_and]⟩, hrg2, hbw2⟩
          case measure => simp [RowKit.intOf]; omega
theorem spec_SameExp_all : ∀ (n : Nat) (x y : X), enodes x.l < n → enodes x.l ≤ 10000000 → enodes y.l ≤ 10000000 → ∀ (w : World) (va vb : Value), EV w 0 x.l va → EV w 0 y.l vb → Calls Tryz.prog 15 #[.agg (xcells x va).toArray, .agg (xcells y vb).toArray] w fun e w' => e = .returned (.bool (xsame x y)) ∧ Below w.heap.size w w'
  | 0, _, _, h, _, _, _, _, _, _, _ => absurd h (by omega)
  | n + 1, x, y, h, hx, hy, w, va, vb, ha, hb => spec_SameExp_step x y hx hy (fun x' y' h1 h2 w va vb a b => spec_SameExp_all n x' y' (by omega) (by omega) h2 w va vb a b) w va vb ha hb
theorem spec_SameExp (x y : X) (hx : enodes x.l ≤ 10000000) (hy : enodes y.l ≤ 10000000) (w : World) (va vb : Value) (ha : EV w 0 x.l va) (hb : EV w 0 y.l vb) :
    Calls Tryz.prog 15 #[.agg (xcells x va).toArray, .agg (xcells y vb).toArray] w fun e w' => e = .returned (.bool (xsame x y)) ∧ Below w.heap.size w w' := spec_SameExp_all _ x y (Nat.lt_succ_self _) hx hy w va vb ha hb
end Go.Proofs.YtkhccpjkajhnpaaGreatDoor
/-
  The contracts of Size, the specification's and the landed code's.
-/
namespace Go.Proofs.YtkhccpjkajhnpaaGreatDoor
open Go.RowKit Go.Lib
set_option linter.unusedSimpArgs false
set_option linter.unusedVariables false

set_option maxHeartbeats 1000000 in
theorem spec_Size_step (F : SF) (hF : snodes F ≤ 10000000)
    (ih : ∀ l : SF, snodes l < snodes F → ∀ (w : World) (v : Value), SV w 0 l v → Calls Tryz.prog 138 #[v] w fun e w' => e = .returned (.int .i64 (snodes l : Int)) ∧ Below w.heap.size w w')
    (w : World) (v : Value) (hv : SV w 0 F v) :
    Calls Tryz.prog 138 #[v] w fun e w' => e = .returned (.int .i64 (snodes F : Int)) ∧ Below w.heap.size w w' := by
  obtain ⟨b, o, ao, cap, rfl, hao, _, hin⟩ := hv
  have Hih := Lib.hid ih
  have hlenF := slen_le F
  clear ih
  go_enter Tryz.func138, Tryz.ntmps138
  go_wp2
  go_loopw [3, 4] (fun x i wr => ∃ (R : SF) (k c : Nat), i = .int .i64 (k : Int) ∧ x = .int .i64 (c : Int) ∧ Hid (k + slen R = slen F ∧ c + snodes R = snodes F ∧ SIn w 0 R b (o + k * 19)) ∧ Below w.heap.size w wr) (fun _ i _ => slen F - (RowKit.intOf i).toNat)
  case atStart => exact ⟨F, 0, 0, rfl, rfl, ⟨by omega, by omega, by simpa using hin⟩, Below.refl _ _⟩
  case round =>
    obtain ⟨R, k, c, rfl, rfl, hr, hbw⟩ := hrel
    obtain ⟨e1, e2, e3⟩ := hr.out
    cases R with
    | nil =>
      have hk : ¬ (k : Int) < (slen F : Int) := by simp only [slen] at e1; omega
      simp only [snodes] at e2
      go_wp2
      go_ret
      exact retI (by omega) hbw
    | node p q h l r =>
      have hlt : (k : Int) < (slen F : Int) := by simp only [slen] at e1; omega
      have hne : ¬ F = .nil := by intro e; subst e; simp only [slen] at e1; omega
      obtain rfl : ao = some ⟨b, o, Option.none⟩ := hao.resolve_right hne
      obtain ⟨hsc, hinr⟩ := SIn_node.1 (SIn_later hbw _ _ _ e3)
      obtain ⟨_, _, _, _, _, _, u, c18, hu⟩ := hsc
      simp only [snodes] at e2
      have Hl := Lib.hid (Hih.out l (by omega))
      have He : Hid (k + 1 + slen r = slen F ∧ c + 1 + snodes l + snodes r = snodes F ∧ SIn w 0 r b (o + (k + 1) * 19)) := ⟨by simp only [slen] at e1; omega, by omega, by rw [show o + (k + 1) * 19 = o + k * 19 + 19 by omega]; exact (SIn_node.1 e3).2⟩
      have hc1 : (c : Int) + 1 ≤ 10000000 := by omega
      have hl1 : (snodes l : Int) ≤ 10000000 := by omega
      clear hr e1 e2 e3 hinr hin hne hao
      go_wp2_with fail
      refine (Hl.out _ u hu).mono ?_
      rintro e w1 ⟨rfl, hb1⟩
      have hbw1 := hbw.trans (hb1.mono hbw.size)
      clear hb1 hbw c18 hu
      go_wp2
      go_roundw
      case rel => exact ⟨r, k + 1, c + 1 + snodes l, by go_num, by go_num, He.out, hbw1⟩
      case measure => simp [RowKit.intOf]; omega
theorem spec_Size_all : ∀ (n : Nat) (F : SF), snodes F < n → snodes F ≤ 10000000 → ∀ (w : World) (v : Value), SV w 0 F v → Calls Tryz.prog 138 #[v] w fun e w' => e = .returned (.int .i64 (snodes F : Int)) ∧ Below w.heap.size w w'
  | 0, _, h, _, _, _, _ => absurd h (by omega)
  | n + 1, F, h, hF, w, v, hv => spec_Size_step F hF (fun l hl w v a => spec_Size_all n l (by omega) (by omega) w v a) w v hv
theorem spec_Size (F : SF) (hF : snodes F ≤ 10000000) (w : World) (v : Value) (hv : SV w 0 F v) :
    Calls Tryz.prog 138 #[v] w fun e w' => e = .returned (.int .i64 (snodes F : Int)) ∧ Below w.heap.size w w' := spec_Size_all _ F (Nat.lt_succ_self _) hF w v hv
end Go.Proofs.YtkhccpjkajhnpaaGreatDoor
/-
  The contract of the landed code's countAll over statements, and of its Size.
-/
namespace Go.Proofs.YtkhccpjkajhnpaaGreatDoor
open Go.RowKit Go.Lib
set_option linter.unusedSimpArgs false
set_option linter.unusedVariables false

/-- A variable of its own that holds a number. -/
abbrev NumAt (w : World) (b : Nat) (c : Int) : Prop := w.heap[b]? = some (.cells #[.int .i64 c] 3 (0, 0))
theorem below_boxset {w : World} {cb : Nat} {o : Obj} {c d : Int} (hc : NumAt w cb c) : NumAt ((w.setCell ⟨cb, 0, Option.none⟩ (.int .i64 d)).alloc o) cb d ∧ Gap cb (cb + 1) w ((w.setCell ⟨cb, 0, Option.none⟩ (.int .i64 d)).alloc o) := by
  have hlt := lt_of_block hc
  refine ⟨(Below.heap_alloc _ _ cb (by simpa using hlt)).trans (one_setCell hc), rfl, rfl, rfl, by simp, fun k hk hk2 => ?_⟩
  rw [Below.heap_alloc _ _ _ (by simpa using hk), Below.heap_setCell _ _ _ _ (show k ≠ cb by omega)]
set_option maxHeartbeats 1000000 in
set_option maxRecDepth 100000 in
theorem cntS_is (h : SH) (v1 v2 v3 v4 v : Value) (w : World) (cb : Nat) (c : Nat) (hc : NumAt w cb (c : Int)) (hs : c < 10000000) :
    Calls Tryz.prog 214 #[sagg h v1 v2 v3 v4 v, .pointer (some ⟨cb, 0, Option.none⟩)] w fun e w' => e = .returned (.tuple #[]) ∧ NumAt w' cb (c + 1 : Nat) ∧ Gap cb (cb + 1) w w' := by
  have H := Lib.hid (fun (o : Obj) (d : Int) => below_boxset (o := o) (d := d) hc)
  have hlt := lt_of_block hc
  have c1 : ∀ o, (w.alloc o).cell? ⟨cb, 0, Option.none⟩ = some (.int .i64 (c : Int)) := fun o => cell_of_one ((Below.heap_alloc _ _ cb hlt).trans hc)
  have c2 : ∀ o, (w.alloc o).frozen? ⟨cb, 0, Option.none⟩ = false := fun o => free_of_one ((Below.heap_alloc _ _ cb hlt).trans hc)
  have hsI : (c : Int) + 1 ≤ 10000000 := by omega
  clear hc
  go_enter Tryz.func214, Tryz.ntmps214
  go_wp2
  go_end0
  exact ⟨rfl, H.out _ _⟩
theorem new_num (w : World) (c : Int) : NumAt (w.alloc (.cells #[.int .i64 c] 3)) w.heap.size c ∧ Below w.heap.size w (w.alloc (.cells #[.int .i64 c] 3)) := ⟨by show (w.heap.push _)[w.heap.size]? = _; simp, alloc_below _ _⟩
theorem gap_own {w W w' : World} (hb : Below w.heap.size w W) (hg : Gap w.heap.size W.heap.size W w') : Below w.heap.size w w' := hb.trans (hg.below (Nat.le_refl _) hb.size)
set_option maxHeartbeats 1000000 in
set_option maxRecDepth 100000 in
theorem countAllS_is (F : SF) (hF : snodes F ≤ 10000000) (w : World) (v : Value) (hv : SV w 0 F v) :
    Calls Tryz.prog 174 #[v, .func (.func 165) #[] #[]] w fun e w' => e = .returned (.int .i64 (snodes F : Int)) ∧ Below w.heap.size w w' := by
  have hmf : ∀ (fn : Fn) (first cap : Array Value) (w : World), (Instr.makeFunc fn first cap).run Tryz.prog w = .ok (.func fn first cap) w := fun _ _ _ _ => rfl
  have N := Lib.hid (new_num w 0)
  have Hv := Lib.hid (fun (W : World) (hN : NumAt W w.heap.size 0) (hb : Below w.heap.size w W) (hW : W.heap.size = w.heap.size + 1) =>
    visitAllS_is F hF w W hb w.heap.size (w.heap.size + 1) (Nat.le_refl _) (by omega) v hv 214 (fun _ _ => rfl) #[.pointer (some ⟨w.heap.size, 0, Option.none⟩)] (fun vs w' => NumAt w' w.heap.size (vs.length : Int))
      (fun vs w1 w2 hj _ hk => (hk _ (Nat.le_refl _) (Nat.lt_succ_self _)).trans hj) hN (fun vs h l v1 v2 v3 v4 u w1 hj _ _ _ _ _ hl => (cntS_is h v1 v2 v3 v4 u w1 _ vs.length hj (by omega)).mono (by
        rintro e w2 ⟨rfl, h1, h2⟩
        refine ⟨rfl, ?_, h2⟩
        show NumAt w2 w.heap.size ((vs ++ [(h, l)]).length : Int)
        rw [List.length_append]; exact h1)))
  go_enter Tryz.func174, Tryz.ntmps174
  go_wp2_with fail
  refine (Hv.out _ N.out.1 N.out.2 (by simp)).mono ?_
  rintro e w1 ⟨rfl, ⟨vs, hj, hp⟩, hg⟩
  have hl : (vs.length : Int) = (snodes F : Int) := by rw [hp.length_eq, sall_len]
  have hcell := cell_of_one hj
  have hB := Lib.hid (gap_own N.out.2 (hg.wider (Nat.le_refl _) (by simp)))
  clear hj hp hg N Hv
  rw [hl] at hcell
  go_wp2
  go_ret
  exact ⟨rfl, hB.out⟩
theorem impl_Size (F : SF) (hF : snodes F ≤ 10000000) (w : World) (v : Value) (hv : SV w 0 F v) :
    Calls Tryz.prog 126 #[v] w fun e w' => e = .returned (.int .i64 (snodes F : Int)) ∧ Below w.heap.size w w' := by
  go_enter Tryz.func126, Tryz.ntmps126
  go_wp2_with (go_at_call 174; refine (countAllS_is F hF w v hv).mono ?_; rintro e w1 ⟨rfl, hb1⟩)
  go_ret
  exact ⟨rfl, hb1⟩
end Go.Proofs.YtkhccpjkajhnpaaGreatDoor
/-
  The contract of the landed code's sameAll over expressions, and of its SameExp.
-/
namespace Go.Proofs.YtkhccpjkajhnpaaGreatDoor
open Go.RowKit Go.Lib
set_option linter.unusedSimpArgs false
set_option linter.unusedVariables false

/-- What is left to do: two rows of expressions each, in their slices. -/
abbrev TdE := List ((EF × EF) × (Value × Value))
def flatE (td : TdE) : List Value := td.flatMap (fun p => [p.2.1, p.2.2])
def sumE : TdE → Nat
  | [] => 0
  | p :: r => enodes p.1.1 + sumE r
def allE (td : TdE) : Bool := td.all (fun p => esame p.1.1 p.1.2)
theorem flatE_length (td : TdE) : (flatE td).length = td.length * 2 := by
  induction td with
  | nil => rfl
  | cons p r ih => simp only [flatE, List.flatMap_cons, List.length_append, List.length_cons, List.length_nil] at ih ⊢; omega
theorem flatE_app (a b : TdE) : flatE (a ++ b) = flatE a ++ flatE b := by simp [flatE]
theorem sumE_app (a b : TdE) : sumE (a ++ b) = sumE a + sumE b := by
  induction a with
  | nil => simp [sumE]
  | cons p a ih => simp only [List.cons_append, sumE, ih]; omega
theorem allE_app (a b : TdE) : allE (a ++ b) = (allE a && allE b) := by simp [allE]
/-- The state between two rounds. -/
structure SamS (w : World) (A : Bool) (td : TdE) (m B : Nat) : Prop where
  all : ∀ p ∈ td, EV w 0 p.1.1 p.2.1 ∧ EV w 0 p.1.2 p.2.2
  ans : A = allE td
  len : td.length + sumE td = m
  big : m ≤ B
/-- Within a round. -/
structure SamR (w : World) (A : Bool) (td : TdE) (m B : Nat) (R S G : EF) (k b1 o1 b2 o2 : Nat) : Prop where
  all : ∀ p ∈ td, EV w 0 p.1.1 p.2.1 ∧ EV w 0 p.1.2 p.2.2
  ans : A = (allE td && esame R S)
  len : td.length + sumE td + enodes R + 1 = m
  big : m ≤ B
  at1 : EIn w 0 R b1 (o1 + k * 4)
  at2 : EIn w 0 S b2 (o2 + k * 4)
  num : k + elen R = elen G
  eqn : elen R = elen S
theorem SamS.pop {w : World} {A : Bool} {td : TdE} {m B b1 o1 b2 o2 : Nat} {p : (EF × EF) × (Value × Value)} (h : SamS w A (td ++ [p]) m B) (hl : elen p.1.1 = elen p.1.2) (i1 : EIn w 0 p.1.1 b1 o1) (i2 : EIn w 0 p.1.2 b2 o2) : SamR w A td m B p.1.1 p.1.2 p.1.1 0 b1 o1 b2 o2 := by
  have h1 := h.ans; have h2 := h.len
  rw [allE_app] at h1
  rw [sumE_app] at h2
  simp only [sumE, List.length_append, List.length_cons, List.length_nil] at h2
  exact ⟨fun q hq => h.all q (List.mem_append_left _ hq), by rw [h1]; simp [allE], by omega, h.big, by simpa using i1, by simpa using i2, by omega, hl⟩
theorem SamS.diff {w : World} {A : Bool} {td : TdE} {m B : Nat} {p : (EF × EF) × (Value × Value)} (h : SamS w A (td ++ [p]) m B) (hl : ¬ elen p.1.1 = elen p.1.2) : A = false := by
  rw [h.ans, allE_app]; simp [allE, esame_diff hl]
theorem SamR.stop {w : World} {A : Bool} {td : TdE} {m B p q p' q' : Nat} {h h' : EH} {l r l' r' G : EF} {k b1 o1 b2 o2 : Nat} (hr : SamR w A td m B (.node p q h l r) (.node p' q' h' l' r') G k b1 o1 b2 o2) (he : hsame h h' = false) : A = false := by
  rw [hr.ans]; simp [esame, he]
theorem SamR.push {w : World} {A : Bool} {td : TdE} {m B p q p' q' : Nat} {h h' : EH} {l r l' r' G : EF} {k b1 o1 b2 o2 : Nat} {u u' : Value} (hr : SamR w A td m B (.node p q h l r) (.node p' q' h' l' r') G k b1 o1 b2 o2) (he : hsame h h' = true) (h1 : EV w 0 l u) (h2 : EV w 0 l' u') : SamR w A (td ++ [((l, l'), (u, u'))]) m B r r' G (k + 1) b1 o1 b2 o2 := by
  have e1 := hr.ans; have e2 := hr.len; have e3 := hr.num; have e4 := hr.eqn
  simp only [enodes, elen] at e2 e3 e4
  refine ⟨fun q hq => ?_, ?_, ?_, hr.big, ?_, ?_, by omega, by omega⟩
  · rcases List.mem_append.1 hq with hq | hq
    · exact hr.all q hq
    · simp only [List.mem_cons, List.not_mem_nil, or_false] at hq; subst hq; exact ⟨h1, h2⟩
  · rw [e1, allE_app]; simp [allE, esame, he, Bool.and_assoc]
  · rw [sumE_app]; simp only [sumE, List.length_append, List.length_cons, List.length_nil]; omega
  · rw [show o1 + (k + 1) * 4 = o1 + k * 4 + 4 by omega]; exact (EIn_node.1 hr.at1).2
  · rw [show o2 + (k + 1) * 4 = o2 + k * 4 + 4 by omega]; exact (EIn_node.1 hr.at2).2
theorem SamR.done {w : World} {A : Bool} {td : TdE} {m B : Nat} {S G : EF} {k b1 o1 b2 o2 : Nat} (hr : SamR w A td m B .nil S G k b1 o1 b2 o2) : SamS w A td (m - 1) B := by
  have e1 := hr.ans; have e2 := hr.len; have e4 := hr.eqn; have e5 := hr.big
  cases S with
  | nil => simp only [enodes] at e2; exact ⟨hr.all, by rw [e1]; simp [esame], by omega, by omega⟩
  | node _ _ _ _ _ => simp only [elen] at e4; omega
/-- The world in which the first two rows lie. -/
def startE (w : World) (A C : Array Value) (t : TypeId) : World := (((w.alloc (.cells A t)).alloc (.cells C t)).alloc (.cells A t)).alloc (.cells C t)
theorem startE_is (w : World) (A C : Array Value) (t : TypeId) : (startE w A C t).rangeAt (w.heap.size + 2) 0 A.toList ∧ (startE w A C t).rangeAt (w.heap.size + 3) 0 C.toList ∧ Below w.heap.size w (startE w A C t) ∧ (startE w A C t).heap.size = w.heap.size + 4 := by
  have e : ∀ (v : World) (o : Obj), (v.alloc o).heap[v.heap.size]? = some o := fun v o => by show (v.heap.push o)[v.heap.size]? = _; simp
  have s2 : ((w.alloc (.cells A t)).alloc (.cells C t)).heap.size = w.heap.size + 2 := by simp
  have s3 : (((w.alloc (.cells A t)).alloc (.cells C t)).alloc (.cells A t)).heap.size = w.heap.size + 3 := by simp
  have q2 : (startE w A C t).heap[w.heap.size + 2]? = some (.cells A t) := by unfold startE; rw [Below.heap_alloc _ _ _ (by rw [s3]; omega), ← s2]; exact e _ _
  have q3 : (startE w A C t).heap[w.heap.size + 3]? = some (.cells C t) := by unfold startE; rw [← s3]; exact e _ _
  refine ⟨blk_range q2, blk_range q3, ?_, by unfold startE; simp⟩
  exact (((alloc_below w _).alloc (by simp) _).alloc (by rw [s2]; omega) _).alloc (by rw [s3]; omega) _
theorem infoB : (Tryz.prog.info? 238).map (fun i => (i.zero, i.size, i.bytes)) = some (some (.agg #[.slice Option.none 0 0, .slice Option.none 0 0]), 2, 48) := by kernel_rfl
theorem new2 (w : World) (u v : Value) (t : TypeId) : ∀ j x, [u, v][j]? = some x → (w.alloc (.cells #[u, v] t)).cell? ((⟨w.heap.size, 0, Option.none⟩ : Addr).add j) = some x := by
  intro j x h
  have e : (w.alloc (.cells #[u, v] t)).heap[w.heap.size]? = some (.cells #[u, v] t (0, 0)) := by show (w.heap.push _)[w.heap.size]? = _; simp
  have e2 : ((⟨w.heap.size, 0, Option.none⟩ : Addr).add j) = ⟨w.heap.size, j, Option.none⟩ := by simp [Addr.add]; omega
  rw [e2]
  simp only [World.cell?, e]
  match j, h with
  | 0, h => simpa using h
  | 1, h => simpa using h
  | j + 2, h => simp at h
/-- What is known of the variable that holds the two rows of a round, while more is laid. -/
structure Nxt (w : World) (t : Value) (n : Nat) (vb : Value) : Prop where
  c : w.cell? ⟨n, 1, Option.none⟩ = some vb
  lt : n < w.heap.size
  ne : ∀ g, t.ownBlock = some g → g ≠ n
theorem Nxt.later {w w' : World} {t : Value} {n : Nat} {vb : Value} (h : Nxt w t n vb) (hb : Below w.heap.size w w') : Nxt w' t n vb := ⟨keeps hb h.c, Nat.lt_of_lt_of_le h.lt hb.size, h.ne⟩
theorem range_grown {w w6 : World} {r : Option Nat} {n o : Nat} {cs : List Value} (h : w.rangeAt n o cs) (hg : w.grownBy w6 r) (hne : r ≠ some n) : w6.rangeAt n o cs := fun j v hv => by
  have hc := h j v hv
  have e := hg.block n (lt_of_cellA hc) (fun e => hne e.symm)
  simp only [World.cell?, e] at hc ⊢
  exact hc
/-- One more to do. -/
theorem snocE {w1 w5 w6 : World} {g cap : Nat} {td : TdE} {t u u' : Value} {l l' : EF} {o : Obj} {e : TypeId} {n : Nat} {vb : Value} (hown : w5.ownsRow w1.heap.size e 2 t td.length (flatE td)) (hb : Below w1.heap.size w1 w5) (hg : (w5.alloc o).grownBy w6 t.ownBlock)
    (hat : t.ownBlock = some g ∨ g = w5.heap.size + 1) (hx : Nxt w5 t n vb)
    (h : w6.ownsRow w1.heap.size e 2 (.slice (some ⟨g, 0, Option.none⟩) (td.length + 1) cap) (td.length + 1) (flatE td ++ [u, u'])) :
    w6.ownsRow w1.heap.size e 2 (.slice (some ⟨g, 0, Option.none⟩) (td.length + 1) cap) (td ++ [((l, l'), (u, u'))]).length (flatE (td ++ [((l, l'), (u, u'))])) ∧ Below w1.heap.size w1 w6 ∧ Nxt w6 (.slice (some ⟨g, 0, Option.none⟩) (td.length + 1) cap) n vb := by
  refine ⟨by rw [List.length_append, flatE_app]; exact h, (hb.alloc hb.size o).grown hg (by have := hb.size; simp; omega) (fun k hk => (hown.lt k hk).1), ⟨?_, ?_, ?_⟩⟩
  · have e1 : w6.heap[n]? = (w5.alloc o).heap[n]? := hg.block n (by have := hx.lt; simp; omega) (fun e => hx.ne n e.symm rfl)
    have e2 : (w5.alloc o).heap[n]? = w5.heap[n]? := Below.heap_alloc _ _ _ hx.lt
    have := hx.c
    simp only [World.cell?, e1, e2] at this ⊢
    exact this
  · have := hg.size; have := hx.lt; simp at *; omega
  · intro g' hg'
    have : g' = g := by simpa [Value.ownBlock] using hg'.symm
    subst this
    rcases hat with h1 | h1
    · exact hx.ne _ h1
    · have := hx.lt; omega
set_option maxHeartbeats 4000000 in
set_option maxRecDepth 100000 in
theorem sameAllE_is (x y : X) (hx : enodes x.l ≤ 10000000) (w : World) (va vb : Value) (ha : EV w 0 x.l va) (hb : EV w 0 y.l vb) :
    Calls Tryz.prog 226 #[.agg (xcells x va).toArray, .agg (xcells y vb).toArray, .func (.func 227) #[] #[], .func (.func 112) #[] #[]] w fun e w' => e = .returned (.bool (xsame x y)) ∧ Below w.heap.size w w' := by
  obtain ⟨i0, hi, hz0, hz1, hz2⟩ := info_parts infoB
  obtain ⟨aa, ca, rfl⟩ := ha.shape
  obtain ⟨ab, cb, rfl⟩ := hb.shape
  obtain ⟨s1, s2, s3, s4⟩ := startE_is w (xcells x (.slice aa (elen x.l) ca)).toArray (xcells y (.slice ab (elen y.l) cb)).toArray 33
  obtain ⟨w1, hw1⟩ : ∃ w1, startE w (xcells x (.slice aa (elen x.l) ca)).toArray (xcells y (.slice ab (elen y.l) cb)).toArray 33 = w1 := ⟨_, rfl⟩
  rw [hw1] at s1 s2 s3 s4
  obtain ⟨A, hA⟩ : ∃ A, xsame x y = A := ⟨_, rfl⟩
  have C0 : Hid (SamS w1 A [((.node 0 0 x.h x.l .nil, .node 0 0 y.h y.l .nil), (.slice (some ⟨w.heap.size + 2, 0, Option.none⟩) 1 1, .slice (some ⟨w.heap.size + 3, 0, Option.none⟩) 1 1))] (enodes x.l + 2) (enodes x.l + 2)) := by
    refine ⟨fun p hp => ?_, ?_, ?_, Nat.le_refl _⟩
    · simp only [List.mem_cons, List.not_mem_nil, or_false] at hp
      subst hp
      exact ⟨EV.laid0 (F := .node 0 0 x.h x.l .nil) (ERow.one (ha.later s3)) s1 1, EV.laid0 (F := .node 0 0 y.h y.l .nil) (ERow.one (hb.later s3)) s2 1⟩
    · rw [← hA]; simp [allE, esame, xsame]
    · simp only [sumE, enodes, List.length_cons, List.length_nil]; omega
  have HW := Lib.hid hw1
  have HS := Lib.hid (And.intro s3 s4)
  have HA := Lib.hid hA
  clear s1 s2 s3 s4 ha hb hw1 hA
  show Calls Tryz.prog 226 #[.agg #[.int .i64 x.h.k, .int .i64 x.h.n, .string x.h.s, .slice aa (elen x.l) ca], .agg #[.int .i64 y.h.k, .int .i64 y.h.n, .string y.h.s, .slice ab (elen y.l) cb], .func (.func 227) #[] #[], .func (.func 112) #[] #[]] w _
  go_enter Tryz.func226, Tryz.ntmps226
  go_wp2
  go_loopg [9] (enodes x.l + 2) (fun m t wr => ∃ (td : TdE), Hid (SamS w1 A td m (enodes x.l + 2)) ∧ wr.ownsRow w1.heap.size 238 2 t td.length (flatE td) ∧ Below w1.heap.size w1 wr)
  case atStart =>
    have e0 := HW.out
    have e4 := HS.out.2
    refine ⟨_, C0.out, ⟨rfl, .inr ⟨w.heap.size + 4, 1, #[.slice (some ⟨w.heap.size + 2, 0, Option.none⟩) 1 1, .slice (some ⟨w.heap.size + 3, 0, Option.none⟩) 1 1], rfl, by omega, ?_, Nat.le_refl _, (by unfold maxLen; omega), rfl, rfl⟩⟩, ?_⟩
    · have : (w1.alloc (.cells #[.slice (some ⟨w.heap.size + 2, 0, Option.none⟩) 1 1, .slice (some ⟨w.heap.size + 3, 0, Option.none⟩) 1 1] 238)).heap[w1.heap.size]? = some (.cells #[.slice (some ⟨w.heap.size + 2, 0, Option.none⟩) 1 1, .slice (some ⟨w.heap.size + 3, 0, Option.none⟩) 1 1] 238 (0, 0)) := by
        show (w1.heap.push _)[w1.heap.size]? = _; simp
      rw [e4, ← e0] at this
      exact this
    · have := alloc_below w1 (.cells #[.slice (some ⟨w.heap.size + 2, 0, Option.none⟩) 1 1, .slice (some ⟨w.heap.size + 3, 0, Option.none⟩) 1 1] 238)
      rw [← e0] at this ⊢
      exact this
  case round =>
    obtain ⟨td, hC, hown, hbw⟩ := hrel
    clear C0
    rcases List.eq_nil_or_concat td with rfl | ⟨ti, p, htd⟩
    · obtain ⟨a, cap, rfl⟩ := own_none hown
      have hs : Hid (A = true) := hC.out.ans
      go_wp2
      go_ret
      exact retB (HA.out.trans hs.out) (HS.out.1.trans (hbw.mono HS.out.1.size))
    · rw [List.concat_eq_append] at htd
      subst htd
      rw [List.length_append, flatE_app] at hown
      obtain ⟨g, cap, rfl, hc1, hc2, hBg, hg⟩ := own_some hown
      obtain ⟨pv1, pv2⟩ := hC.out.all p (by simp)
      obtain ⟨b1, o1, pa1, pc1, hpv1, hpa1, _, hpin1⟩ := pv1
      obtain ⟨b2, o2, pa2, pc2, hpv2, hpa2, _, hpin2⟩ := pv2
      have hfl : flatE [p] = [p.2.1, p.2.2] := rfl
      have hcell1 := own_cell hown (j := ti.length * 2) (u := p.2.1) (by rw [List.getElem?_append_right (by rw [flatE_length]; omega), flatE_length, Nat.sub_self, hfl]; rfl)
      have hcell2 := own_cell hown (j := ti.length * 2 + 1) (u := p.2.2) (by rw [List.getElem?_append_right (by rw [flatE_length]; omega), flatE_length, show ti.length * 2 + 1 - ti.length * 2 = 1 by omega, hfl]; rfl)
      have hpop := own_pop hown (by rw [flatE_length])
      rw [hpv1] at hcell1
      rw [hpv2] at hcell2
      have hlen : ti.length ≤ 10000002 := by have h1 := hC.out.len; have h2 := hC.out.big; simp only [List.length_append, List.length_cons, List.length_nil] at h1; omega
      have hcapI : (ti.length : Int) + 1 ≤ (cap : Int) := by omega
      have hlenI : (ti.length : Int) ≤ 10000002 := by omega
      have hmx : (cap : Int) ≤ 9223372036854775807 := by unfold maxLen at hc2; omega
      have hgw : ∀ g', (Value.slice (some ⟨g, 0, Option.none⟩) ti.length cap).ownBlock = some g' → g' ≠ wr.heap.size := by
        intro g' e; have : g = g' := by simpa [Value.ownBlock] using e
        omega
      clear hown hc1 hc2
      by_cases hL : elen p.1.1 = elen p.1.2
      case neg =>
        have hf : Hid (A = false) := hC.out.diff hL
        have h1 : ((elen p.1.1 : Int) == (elen p.1.2 : Int)) = false := int_ne (by omega)
        clear hC hL
        go_wp2
        go_ret
        exact retB (HA.out.trans hf.out) (HS.out.1.trans ((hbw.alloc hbw.size _).mono HS.out.1.size))
      have hR := Lib.hid (hC.out.pop hL hpin1 hpin2)
      have HL := Lib.hid hL
      have h1 : ((elen p.1.1 : Int) == (elen p.1.2 : Int)) = true := by rw [beq_iff_eq]; omega
      have h1n : ((elen p.1.1 : Int) != (elen p.1.2 : Int)) = false := by rw [bne, h1]; rfl
      have hn1 : (elen p.1.1 : Int) ≤ 20000000 := by have h1 := hR.out.len; have h2 := hR.out.big; have := elen_le p.1.1; omega
      have HP : Hid ((pa1 = some ⟨b1, o1, Option.none⟩ ∨ p.1.1 = .nil) ∧ (pa2 = some ⟨b2, o2, Option.none⟩ ∨ p.1.2 = .nil)) := ⟨hpa1, hpa2⟩
      have hpop2 := hpop.alloc (.cells #[.slice pa1 (elen p.1.1) pc1, .slice pa2 (elen p.1.2) pc2] 238)
      have hbw2 := hbw.alloc hbw.size (.cells #[.slice pa1 (elen p.1.1) pc1, .slice pa2 (elen p.1.2) pc2] 238)
      have N0 : Hid (Nxt (wr.alloc (.cells #[.slice pa1 (elen p.1.1) pc1, .slice pa2 (elen p.1.2) pc2] 238)) (.slice (some ⟨g, 0, Option.none⟩) ti.length cap) wr.heap.size (.slice pa2 (elen p.1.2) pc2)) := by
        refine ⟨?_, by simp, hgw⟩
        have := new2 wr (.slice pa1 (elen p.1.1) pc1) (.slice pa2 (elen p.1.2) pc2) 238 1 _ rfl
        have e2 : ((⟨wr.heap.size, 0, Option.none⟩ : Addr).add 1) = ⟨wr.heap.size, 1, Option.none⟩ := by simp [Addr.add]
        rwa [e2] at this
      have HO := Lib.hid (And.intro hpop2 hbw2)
      clear hC hL hpin1 hpin2 hpa1 hpa2 hgw hpop2 hbw2 hpop hbw
      go_wp2
      go_loopw [9, 44] (fun t i wr2 => ∃ (td : TdE) (R S : EF) (k : Nat), i = .int .i64 (k : Int) ∧ Hid (SamR w1 A td gk (enodes x.l + 2) R S p.1.1 k b1 o1 b2 o2) ∧ wr2.ownsRow w1.heap.size 238 2 t td.length (flatE td) ∧ Hid (Nxt wr2 t wr.heap.size (.slice pa2 (elen p.1.2) pc2)) ∧ Below w1.heap.size w1 wr2) (fun _ i _ => elen p.1.1 - (RowKit.intOf i).toNat)
      case atStart => exact ⟨ti, p.1.1, p.1.2, 0, rfl, hR.out, HO.out.1, N0, HO.out.2⟩
      case round =>
        obtain ⟨td, R, S, k, rfl, hR, hown, hN, hbr⟩ := hrel
        clear hcell1 hcell2 N0 HO
        cases R with
        | nil =>
          have hk : ¬ (k : Int) < (elen p.1.1 : Int) := by have := hR.out.num; simp only [elen] at this; omega
          go_wp2
          go_roundg (gk - 1)
          case measure => have := hR.out.len; omega
          case rel => exact ⟨td, hR.out.done, hown, hbr⟩
        | node p0 q0 h l r =>
          cases S with
          | nil => have := hR.out.eqn; simp only [elen] at this; omega
          | node p0' q0' h' l' r' =>
          have hlt : (k : Int) < (elen p.1.1 : Int) := by have := hR.out.num; simp only [elen] at this; omega
          have hlt2 : (k : Int) < (elen p.1.2 : Int) := by have := HL.out; omega
          have hne1 : ¬ p.1.1 = .nil := by intro e; rw [e] at hlt; simp only [elen] at hlt; omega
          have hne2 : ¬ p.1.2 = .nil := by intro e; rw [e] at hlt2; simp only [elen] at hlt2; omega
          obtain rfl : pa1 = some ⟨b1, o1, Option.none⟩ := HP.out.1.resolve_right hne1
          obtain rfl : pa2 = some ⟨b2, o2, Option.none⟩ := HP.out.2.resolve_right hne2
          obtain ⟨⟨a0, a1, a2, u1, a3, hu1⟩, _⟩ := EIn_node.1 hR.out.at1
          obtain ⟨⟨d0, d1, d2, u2, d3, hu2⟩, _⟩ := EIn_node.1 hR.out.at2
          have Hra := Lib.hid (rangeAt_later (x_range (x := ⟨h, l⟩) a0 a1 a2 a3) hbr)
          have Hrc := Lib.hid (rangeAt_later (x_range (x := ⟨h', l'⟩) d0 d1 d2 d3) hbr)
          have i1 := hu1.isOne
          have i2 := hu2.isOne
          obtain ⟨ua1, uc1, rfl⟩ := hu1.shape
          obtain ⟨ua2, uc2, rfl⟩ := hu2.shape
          have HU := Lib.hid (And.intro hu1 hu2)
          have hn1 : td.length ≤ 10000002 := by have := hR.out.len; have := hR.out.big; omega
          have Hn1 := Lib.hid hn1
          have HOB := Lib.hid (And.intro hown hbr)
          obtain ⟨tv, htv⟩ : ∃ tv, hsame h h' = tv := ⟨_, rfl⟩
          have Htv := Lib.hid htv
          have Hq : Hid (∀ w, Calls Tryz.prog 227 #[.agg (xcells ⟨h, l⟩ (.slice ua1 (elen l) uc1)).toArray, .agg (xcells ⟨h', l'⟩ (.slice ua2 (elen l') uc2)).toArray] w fun e w' => e = .returned (.bool tv) ∧ Below w.heap.size w w') := fun w => by rw [← htv]; exact sameTop_is ⟨h, l⟩ ⟨h', l'⟩ _ _ w
          clear htv
          clear hne1 hne2 a0 a1 a2 a3 d0 d1 d2 d3 hu1 hu2 hn1 hown hbr
          go_wp2_with (first | (refine wpList_load_mid rfl 33 _ rfl b1 (o1 + k * 4) rfl _ _ Hra.out Tryz.underlying33 rfl sizeIE2 ?_) | (refine store_abs rfl 33 _ _ rfl _ _ _ rfl rfl ?ht sizeIE2 ?ho ?_; exact (newthere4 wr _); exact (oneX ⟨h, l⟩ (.slice ua1 (elen l) uc1) i1); intro W1 hW; have HW1 := Lib.hid (newblk4 ⟨h, l⟩ (.slice ua1 (elen l) uc1) hW); have hN1 := hN.out.later HW1.out.2; have q10 := hN1.c; have Hrc1 := Lib.hid (rangeAt_later Hrc.out HW1.out.2); clear hW) | (refine wpList_load_mid rfl 33 _ rfl b2 (o2 + k * 4) rfl _ _ Hrc1.out Tryz.underlying33 rfl sizeIE2 ?_) | (refine store_abs rfl 33 _ _ rfl _ _ _ rfl rfl ?ht2 sizeIE2 ?ho2 ?_; exact (newthere4 W1 _); exact (oneX ⟨h', l'⟩ (.slice ua2 (elen l') uc2) i2); intro W2 hW; have HW2 := Lib.hid (newblk4 ⟨h', l'⟩ (.slice ua2 (elen l') uc2) hW); have Hr1 := Lib.hid (rangeAt_later HW1.out.1 HW2.out.2); clear hW) | (refine wpList_load_mid rfl 33 _ rfl wr.heap.size 0 rfl _ _ Hr1.out Tryz.underlying33 rfl sizeIE2 ?_) | (refine wpList_load_mid rfl 33 _ rfl W1.heap.size 0 rfl _ _ HW2.out.1 Tryz.underlying33 rfl sizeIE2 ?_))
          refine (Hq.out _).mono ?_
          rintro e w3 ⟨rfl, hb3⟩
          have B1 := HW1.out.2
          have B2 := HW2.out.2
          have B3 := B1.trans ((B2.trans (hb3.mono B2.size)).mono B1.size)
          have o3 := ownB HOB.out.1 B3
          have b3 := HOB.out.2.trans (B3.mono HOB.out.2.size)
          have n3 := hN.out.later B3
          have r12 := rangeAt_later Hr1.out hb3
          have r13 := rangeAt_later HW2.out.1 hb3
          have hs3 := b3.size
          have HG : Hid (∀ g, u9.ownBlock = some g → g < wr.heap.size ∧ g < W1.heap.size) := fun g hg => ⟨(HOB.out.1.lt g hg).2, Nat.lt_of_lt_of_le (HOB.out.1.lt g hg).2 B1.size⟩
          have HO3 := Lib.hid (And.intro o3 (And.intro b3 n3))
          have HR3 := Lib.hid (And.intro r12 r13)
          obtain ⟨ta, tc, hta⟩ : ∃ ta tc, u9 = .slice ta td.length tc := by
            rcases o3.2 with ⟨h1, h0⟩ | ⟨g, cap, cur, h1, _⟩
            · exact ⟨_, _, by rw [h0]; exact h1⟩
            · exact ⟨_, _, h1⟩
          subst hta
          obtain ⟨n12, hn12⟩ : ∃ n, wr.heap.size = n := ⟨_, rfl⟩
          obtain ⟨n13, hn13⟩ : ∃ n, W1.heap.size = n := ⟨_, rfl⟩
          rw [hn12] at HR3 HG ⊢
          rw [hn13] at HR3 HG ⊢
          clear B1 B2 B3 hb3 o3 b3 n3 r12 r13 HW1 HW2 Hr1 Hra Hrc Hrc1 hN1 q10 HOB hN i1 i2 hn12 hn13
          cases tv with
          | false =>
            have hf : Hid (A = false) := hR.out.stop Htv.out
            go_wp2
            go_ret
            exact retB (HA.out.trans hf.out) (HS.out.1.trans (HO3.out.2.1.mono HS.out.1.size))
          | true =>
            have hR2 := Lib.hid (hR.out.push Htv.out HU.out.1 HU.out.2)
            clear hR
            go_wp2_with fail
            obtain ⟨A1, HA1⟩ : ∃ A1, Hid (A1 = xcells ⟨h, l⟩ (.slice ua1 (elen l) uc1)) := ⟨_, rfl⟩
            obtain ⟨C1, HC1⟩ : ∃ C1, Hid (C1 = xcells ⟨h', l'⟩ (.slice ua2 (elen l') uc2)) := ⟨_, rfl⟩
            have hiA : (Tryz.prog.info? 33).map (·.size) = some A1.length := by rw [HA1.out]; exact sizeIE2
            have hiC : (Tryz.prog.info? 33).map (·.size) = some C1.length := by rw [HC1.out]; exact sizeIE2
            have hq1 : Hid (∀ w, Calls Tryz.prog 112 #[.agg A1.toArray] w fun e w' => e = .returned (.slice ua1 (elen l) uc1) ∧ Below w.heap.size w w') := fun w => by rw [HA1.out]; exact partsOf_is _ _ w
            have hq2 : Hid (∀ w, Calls Tryz.prog 112 #[.agg C1.toArray] w fun e w' => e = .returned (.slice ua2 (elen l') uc2) ∧ Below w.heap.size w w') := fun w => by rw [HC1.out]; exact partsOf_is _ _ w
            have bd : Below w3.heap.size w3 w3.drew := (Below.refl _ w3).drew
            refine wp_region_held_drew (S := fun w' => w'.rangeAt n12 0 A1 ∧ w'.rangeAt n13 0 C1) (by kernel_rfl) ⟨(World.rangeAt_drew _ _ _ _).2 (by rw [HA1.out]; exact HR3.out.1), (World.rangeAt_drew _ _ _ _).2 (by rw [HC1.out]; exact HR3.out.2)⟩ (fun hHeld => ?_)
            refine wpAnyH_take (i := 0) (v := .slice ta td.length tc) rfl (by kernel_rfl) (by kernel_rfl) (by kernel_rfl) (fun _ _ _ h => h) (Or.inl ⟨by rfl, ?y0⟩) hHeld ?_
            case y0 => intro w hSw; go_simp
            simp only [Act.put, List.getElem_toArray, List.getElem_cons_succ, List.getElem_cons_zero, List.setIfInBounds_toArray, List.set_cons_zero, List.set_cons_succ]
            refine wpAnyH_take (i := 1) (v := .func (.func 112) #[] #[]) rfl (by kernel_rfl) (by kernel_rfl) (by kernel_rfl) (fun _ _ _ h => h) (Or.inl ⟨by rfl, ?y1⟩) hHeld ?_
            case y1 => intro w hSw; go_simp
            simp only [Act.put, List.getElem_toArray, List.getElem_cons_succ, List.getElem_cons_zero, List.setIfInBounds_toArray, List.set_cons_zero, List.set_cons_succ]
            refine wpAnyH_take (i := 2) (v := .agg A1.toArray) rfl (by kernel_rfl) (by kernel_rfl) (by kernel_rfl) (fun _ _ _ h => h) (yieldsIf_load_mid (by rfl) 33 _ rfl n12 (0) rfl A1 _ (fun w h => h.1) Tryz.underlying33 rfl hiA) hHeld ?_
            simp only [Act.put, List.getElem_toArray, List.getElem_cons_succ, List.getElem_cons_zero, List.setIfInBounds_toArray, List.set_cons_zero, List.set_cons_succ]
            refine wpAnyH_take (i := 4) (v := .func (.func 112) #[] #[]) rfl (by kernel_rfl) (by kernel_rfl) (by kernel_rfl) (fun _ _ _ h => h) (Or.inl ⟨by rfl, ?y4⟩) hHeld ?_
            case y4 => intro w hSw; go_simp
            simp only [Act.put, List.getElem_toArray, List.getElem_cons_succ, List.getElem_cons_zero, List.setIfInBounds_toArray, List.set_cons_zero, List.set_cons_succ]
            refine wpAnyH_take (i := 5) (v := .agg C1.toArray) rfl (by kernel_rfl) (by kernel_rfl) (by kernel_rfl) (fun _ _ _ h => h) (yieldsIf_load_mid (by rfl) 33 _ rfl n13 (0) rfl C1 _ (fun w h => h.2) Tryz.underlying33 rfl hiC) hHeld ?_
            simp only [Act.put, List.getElem_toArray, List.getElem_cons_succ, List.getElem_cons_zero, List.setIfInBounds_toArray, List.set_cons_zero, List.set_cons_succ]
            refine wpAnyH_ready (rs := [3]) (by kernel_rfl) (by simp) ?_
            refine AllReadyH.cons rfl (fun K hK => ?_) AllReadyH.nil
            rw [if_pos (by rfl)]
            simp only [List.getElem_toArray, List.getElem_cons_succ, List.getElem_cons_zero]
            go_wp2_with fail
            refine (hq1.out _).mono ?_
            rintro e w4 ⟨rfl, hb4⟩
            go_wp2_with fail
            refine hK.out _ _ ⟨rangeAt_later hHeld.1 hb4, rangeAt_later hHeld.2 hb4⟩ (fun hHeld => ?_)
            refine wpAnyH_ready (rs := [6]) (by kernel_rfl) (by simp) ?_
            refine AllReadyH.cons rfl (fun K hK => ?_) AllReadyH.nil
            rw [if_pos (by rfl)]
            simp only [List.getElem_toArray, List.getElem_cons_succ, List.getElem_cons_zero]
            go_wp2_with fail
            refine (hq2.out _).mono ?_
            rintro e w5 ⟨rfl, hb5⟩
            go_wp2_with fail
            refine hK.out _ _ ⟨rangeAt_later hHeld.1 hb5, rangeAt_later hHeld.2 hb5⟩ (fun hHeld => ?_)
            refine wpAnyH_take (i := 7) (v := .agg #[.slice ua1 (elen l) uc1, .slice ua2 (elen l') uc2]) rfl (by kernel_rfl) (by kernel_rfl) (by kernel_rfl) (fun _ _ _ h => h) (Or.inl ⟨by rfl, ?y7⟩) hHeld ?_
            case y7 => intro w hSw; go_simp
            simp only [Act.put, List.getElem_toArray, List.getElem_cons_succ, List.getElem_cons_zero, List.setIfInBounds_toArray, List.set_cons_zero, List.set_cons_succ]
            have B5 := bd.trans ((hb4.trans (hb5.mono hb4.size)).mono bd.size)
            have o5 := ownB HO3.out.1 B5
            have b5 := HO3.out.2.1.trans (B5.mono HO3.out.2.1.size)
            have n5 := HO3.out.2.2.later B5
            have HO5 := Lib.hid (And.intro o5 (And.intro b5 n5))
            have hs5 := b5.size
            clear hb4 hb5 bd B5 n5
            refine wpAnyH_ready (rs := [8]) (by kernel_rfl) (by simp) ?_
            refine AllReadyH.cons rfl (fun K hK => ?_) AllReadyH.nil
            rw [if_pos (by rfl)]
            simp only [List.getElem_toArray, List.getElem_cons_succ, List.getElem_cons_zero]
            go_wp2_with fail
            refine hK.out _ _ ⟨World.rangeAt_alloc hHeld.1 _, World.rangeAt_alloc hHeld.2 _⟩ (fun hHeld => ?_)
            refine wpAnyH_ready (rs := [9]) (by kernel_rfl) (by simp) ?_
            refine AllReadyH.cons rfl (fun K hK => ?_) AllReadyH.nil
            rw [if_pos (by rfl)]
            simp only [List.getElem_toArray, List.getElem_cons_succ, List.getElem_cons_zero]
            refine wp_append_lies _ _ _ 239 (by rfl) w1.heap.size 238 i0 _ 2 48 Tryz.underlying239 hi hz0 hz1 hz2 rfl (by decide) _ _ _ (by rfl) (o5.alloc _) ⟨w5.heap.size, 0, Option.none⟩ 1 1 [.slice ua1 (elen l) uc1, .slice ua2 (elen l') uc2] (by rfl) (by rfl) ?c1 ?c2 (by decide) ?c3 ?c4 ?c5 (w5.heap.size + 1) (by simp) ?_
            case c1 => exact new2 _ _ _ _
            case c2 => intro x hx; simp only [List.mem_cons, List.not_mem_nil, or_false] at hx; rcases hx with rfl | rfl <;> rfl
            case c3 => have := Hn1.out; unfold maxLen; omega
            case c4 => have := Hn1.out; omega
            case c5 => simp; omega
            intro g6 cap6 w6 hown6 hgrow6 hat6 hlt6
            obtain ⟨z1, z2, z3⟩ := snocE (l := l) (l' := l') HO5.out.1 HO5.out.2.1 hgrow6 hat6 HO5.out.2.2 hown6
            have Z := Lib.hid (And.intro z1 (And.intro z2 z3))
            clear z1 z2 z3
            refine hK.out _ _ ⟨range_grown hHeld.1 hgrow6 (fun e => by have := (HG.out n12 e).1; omega), range_grown hHeld.2 hgrow6 (fun e => by have := (HG.out n13 e).2; omega)⟩ (fun hHeld => ?_)
            clear hown6 hgrow6 hat6 o5 b5
            simp only [Act.put, List.getElem_toArray, List.getElem_cons_succ, List.getElem_cons_zero, List.setIfInBounds_toArray, List.set_cons_zero, List.set_cons_succ]
            refine wpAnyH_take (i := 10) (v := .slice (some ⟨g6, 0, Option.none⟩) (td.length + 1) cap6) rfl (by kernel_rfl) (by kernel_rfl) (by kernel_rfl) (fun _ _ _ h => h) (Or.inl ⟨by rfl, ?y10⟩) hHeld ?_
            case y10 => intro w hSw; go_simp
            simp only [Act.put, List.getElem_toArray, List.getElem_cons_succ, List.getElem_cons_zero, List.setIfInBounds_toArray, List.set_cons_zero, List.set_cons_succ]
            refine wpAnyH_done (by kernel_rfl) ?_ _
            clear hHeld hiA hiC hq1 hq2
            go_wp2
            go_roundw
            case rel => exact ⟨td ++ [((l, l'), (.slice ua1 (elen l) uc1, .slice ua2 (elen l') uc2))], r, r', k + 1, by go_num, hR2, Z.out.1, Z.out.2.2, Z.out.2.1⟩
            case measure => simp [RowKit.intOf]; omega
theorem impl_SameExp (x y : X) (hx : enodes x.l ≤ 10000000) (w : World) (va vb : Value) (ha : EV w 0 x.l va) (hb : EV w 0 y.l vb) :
    Calls Tryz.prog 202 #[.agg (xcells x va).toArray, .agg (xcells y vb).toArray] w fun e w' => e = .returned (.bool (xsame x y)) ∧ Below w.heap.size w w' := by
  have hq : Hid (∀ w, EV w 0 x.l va → EV w 0 y.l vb → Calls Tryz.prog 226 #[.agg #[.int .i64 x.h.k, .int .i64 x.h.n, .string x.h.s, va], .agg #[.int .i64 y.h.k, .int .i64 y.h.n, .string y.h.s, vb], .func (.func 227) #[] #[], .func (.func 112) #[] #[]] w fun e w' => e = .returned (.bool (xsame x y)) ∧ Below w.heap.size w w') := fun w h1 h2 => sameAllE_is x y hx w va vb h1 h2
  show Calls Tryz.prog 202 #[.agg #[.int .i64 x.h.k, .int .i64 x.h.n, .string x.h.s, va], .agg #[.int .i64 y.h.k, .int .i64 y.h.n, .string y.h.s, vb]] w _
  have hB : Hid (∀ a b, Below w.heap.size w ((w.alloc a).alloc b)) := fun a b => (alloc_below w a).alloc (by simp) b
  have HV := Lib.hid (And.intro ha hb)
  clear ha hb
  go_enter Tryz.func202, Tryz.ntmps202
  go_wp2_with fail
  refine (hq.out _ (HV.out.1.later (hB.out _ _)) (HV.out.2.later (hB.out _ _))).mono ?_
  rintro e w1 ⟨rfl, hb1⟩
  have h3 := (hB.out _ _).trans (hb1.mono (hB.out _ _).size)
  clear hb1
  go_wp2
  go_ret
  exact ⟨rfl, h3⟩
end Go.Proofs.YtkhccpjkajhnpaaGreatDoor
