/-
  The contract of the landed code's ExpOk.
-/
import Derived.Test.YtkilmefpaojkfaaGreatAstCountE
namespace Go.Proofs.YtkilmefpaojkfaaGreat
open Go.RowKit Go.Lib
set_option linter.unusedSimpArgs false
set_option linter.unusedVariables false

theorem new_range (w : World) (arr : Array Value) (t : TypeId) : (w.alloc (.cells arr t)).rangeAt w.heap.size 0 arr.toList := blk_range (t := t) (fr := (0, 0)) (by show (w.heap.push _)[w.heap.size]? = _; simp)
def expOk (x : X) : Bool := toldX 8 x && decide (enodes x.l + 1 ≤ 60)
set_option maxHeartbeats 1000000 in
set_option maxRecDepth 100000 in
theorem impl_ExpOk (x : X) (hx : enodes x.l ≤ 9000000) (w : World) (v : Value) (hv : EV w 0 x.l v) :
    Calls Tryz.prog 129 #[.agg (xcells x v).toArray] w fun e w' => e = .returned (.bool (expOk x)) ∧ Below w.heap.size w w' := by
  show Calls Tryz.prog 129 #[.agg #[.int .i64 x.h.k, .int .i64 x.h.n, .string x.h.s, v]] w _
  have Hv := Lib.hid hv
  obtain ⟨va, vc, rfl⟩ := hv.shape
  obtain ⟨tv, htv⟩ : ∃ t, toldX 8 x = t := ⟨_, rfl⟩
  have Htv := Lib.hid htv
  have Hq : Hid (∀ w, EV w 0 x.l (.slice va (elen x.l) vc) → Calls Tryz.prog 139 #[.agg #[.int .i64 x.h.k, .int .i64 x.h.n, .string x.h.s, .slice va (elen x.l) vc], .int .i64 8] w fun e w' => e = .returned (.bool tv) ∧ Below w.heap.size w w') := fun w h => by rw [← htv]; exact expAsTold_all 8 (by omega) x w _ h
  have hb0 : Below w.heap.size w (w.alloc (.cells #[.int .i64 x.h.k, .int .i64 x.h.n, .string x.h.s, .slice va (elen x.l) vc] 55)) := alloc_below _ _
  clear hv htv
  go_enter Tryz.func129, Tryz.ntmps129
  go_wp2_with fail
  refine (Hq.out _ (Hv.out.later hb0)).mono ?_
  rintro e w1 ⟨rfl, hb1⟩
  have B1 := hb0.trans (hb1.mono hb0.size)
  cases tv with
  | false =>
    clear hb0 hb1
    go_wp2
    go_ret
    exact retB (by rw [expOk, Htv.out]; rfl) B1
  | true =>
    have c0 := box_cell (i := 0) hb1 rfl
    have c1 := box_cell (i := 1) hb1 rfl
    have c2 := box_cell (i := 2) hb1 rfl
    have c3 := box_cell (i := 3) hb1 rfl
    have V1 := Lib.hid (Hv.out.later B1)
    clear hb0 hb1
    go_wp2_with fail
    have V2 : EV (w1.alloc (.cells (xcells x (.slice va (elen x.l) vc)).toArray 55)) 0 (.node 0 0 x.h x.l .nil) (.slice (some ⟨w1.heap.size, 0, Option.none⟩) 1 1) :=
      EV.laid0 (F := .node 0 0 x.h x.l .nil) (ERow.one (V1.out.later (alloc_below _ _))) (new_range w1 (xcells x (.slice va (elen x.l) vc)).toArray 55) 1
    refine (countAllE_is (.node 0 0 x.h x.l .nil) (by simp only [enodes]; omega) _ _ V2).mono ?_
    rintro e w2 ⟨rfl, hb2⟩
    have B2 := B1.trans ((below_alloc hb2).mono B1.size)
    have hen : (enodes (.node 0 0 x.h x.l .nil : EF) : Int) = (enodes x.l : Int) + 1 := by simp only [enodes]; omega
    rw [hen]
    clear hb2 V2 c0 c1 c2 c3 hen
    by_cases h6 : (enodes x.l : Int) + 1 ≤ 60
    · go_wp2
      go_ret
      exact retB (by rw [expOk, Htv.out, decide_eq_true (by omega)]; rfl) B2
    · go_wp2
      go_ret
      exact retB (by rw [expOk, Htv.out]; simp; omega) B2
end Go.Proofs.YtkilmefpaojkfaaGreat
