/-
  The contract of the landed code's countAll over expressions.
-/
import Derived.Test.YtkilmefpaojkfaaGreatAstTold
import Derived.Test.YtkilmefpaojkfaaGreatAstVisE
namespace Go.Proofs.YtkilmefpaojkfaaGreat
open Go.RowKit Go.Lib
set_option linter.unusedSimpArgs false
set_option linter.unusedVariables false

set_option maxHeartbeats 1000000 in
set_option maxRecDepth 100000 in
theorem cntE_is (x : X) (v : Value) (w : World) (cb : Nat) (c : Nat) (hc : NumAt w cb (c : Int)) (hs : c < 10000000) :
    Calls Tryz.prog 148 #[.agg (xcells x v).toArray, .pointer (some ⟨cb, 0, Option.none⟩)] w fun e w' => e = .returned (.tuple #[]) ∧ NumAt w' cb (c + 1 : Nat) ∧ Gap cb (cb + 1) w w' := by
  show Calls Tryz.prog 148 #[.agg #[.int .i64 x.h.k, .int .i64 x.h.n, .string x.h.s, v], .pointer (some ⟨cb, 0, Option.none⟩)] w _
  have H := Lib.hid (fun (o : Obj) (d : Int) => below_boxset (o := o) (d := d) hc)
  have hlt := lt_of_block hc
  have c1 : ∀ o, (w.alloc o).cell? ⟨cb, 0, Option.none⟩ = some (.int .i64 (c : Int)) := fun o => cell_of_one ((Below.heap_alloc _ _ cb hlt).trans hc)
  have c2 : ∀ o, (w.alloc o).frozen? ⟨cb, 0, Option.none⟩ = false := fun o => free_of_one ((Below.heap_alloc _ _ cb hlt).trans hc)
  have hsI : (c : Int) + 1 ≤ 10000000 := by omega
  clear hc
  go_enter Tryz.func148, Tryz.ntmps148
  go_wp2
  go_end0
  exact ⟨rfl, H.out _ _⟩
set_option maxHeartbeats 1000000 in
set_option maxRecDepth 100000 in
theorem countAllE_is (F : EF) (hF : enodes F ≤ 10000000) (w : World) (v : Value) (hv : EV w 0 F v) :
    Calls Tryz.prog 140 #[v, .func (.func 33) #[] #[]] w fun e w' => e = .returned (.int .i64 (enodes F : Int)) ∧ Below w.heap.size w w' := by
  have hmf : ∀ (fn : Fn) (first cap : Array Value) (w : World), (Instr.makeFunc fn first cap).run Tryz.prog w = .ok (.func fn first cap) w := fun _ _ _ _ => rfl
  have N := Lib.hid (new_num w 0)
  have Hv := Lib.hid (fun (W : World) (hN : NumAt W w.heap.size 0) (hb : Below w.heap.size w W) (hW : W.heap.size = w.heap.size + 1) =>
    visitAllE_is F hF w W hb w.heap.size (w.heap.size + 1) (Nat.le_refl _) (by omega) v hv 148 (fun _ _ => rfl) #[.pointer (some ⟨w.heap.size, 0, Option.none⟩)] (fun vs w' => NumAt w' w.heap.size (vs.length : Int))
      (fun vs w1 w2 hj _ hk => (hk _ (Nat.le_refl _) (Nat.lt_succ_self _)).trans hj) hN (fun vs h l u w1 hj _ _ _ _ hl => (cntE_is ⟨h, l⟩ u w1 _ vs.length hj (by omega)).mono (by
        rintro e w2 ⟨rfl, h1, h2⟩
        refine ⟨rfl, ?_, h2⟩
        show NumAt w2 w.heap.size ((vs ++ [(h, l)]).length : Int)
        rw [List.length_append]; exact h1)))
  go_enter Tryz.func140, Tryz.ntmps140
  go_wp2_with fail
  refine (Hv.out _ N.out.1 N.out.2 (by simp)).mono ?_
  rintro e w1 ⟨rfl, ⟨vs, hj, hp⟩, hg⟩
  have hl : (vs.length : Int) = (enodes F : Int) := by rw [hp.length_eq, enall_len]
  have hcell := cell_of_one hj
  have hB := Lib.hid (gap_own N.out.2 (hg.wider (Nat.le_refl _) (by simp)))
  clear hj hp hg N Hv
  rw [hl] at hcell
  go_wp2
  go_ret
  exact ⟨rfl, hB.out⟩
end Go.Proofs.YtkilmefpaojkfaaGreat
