/-
  The contract of the landed code's countAll over statements, and of its Size.
-/
import Derived.Test.YtkilmefpaojkfaaGreatAstVis
import Derived.Test.YtkilmefpaojkfaaGreatAstSize
import Derived.OneCell
namespace Go.Proofs.YtkilmefpaojkfaaGreat
open Go.RowKit Go.Lib
set_option linter.unusedSimpArgs false
set_option linter.unusedVariables false

/-- A variable of its own that holds a number. -/
abbrev NumAt (w : World) (b : Nat) (c : Int) : Prop := w.heap[b]? = some (.cells #[.int .i64 c] 3 (0, 0))
theorem below_boxset {w : World} {cb : Nat} {o : Obj} {c d : Int} (hc : NumAt w cb c) : NumAt ((w.setCell ⟨cb, 0, Option.none⟩ (.int .i64 d)).alloc o) cb d ∧ Gap cb (cb + 1) w ((w.setCell ⟨cb, 0, Option.none⟩ (.int .i64 d)).alloc o) := by
  have hlt := lt_of_block hc
  refine ⟨(Below.heap_alloc _ _ cb (by simpa using hlt)).trans (one_setCell hc), rfl, rfl, rfl, by simp, fun k hk hk2 => ?_⟩
  rw [Below.heap_alloc _ _ _ (by simpa using hk), Below.heap_setCell _ _ _ _ (show k ≠ cb by omega)]
set_option maxHeartbeats 1000000 in
set_option maxRecDepth 100000 in
theorem cntS_is (h : SH) (v1 v2 v3 v4 v : Value) (w : World) (cb : Nat) (c : Nat) (hc : NumAt w cb (c : Int)) (hs : c < 10000000) :
    Calls Tryz.prog 109 #[sagg h v1 v2 v3 v4 v, .pointer (some ⟨cb, 0, Option.none⟩)] w fun e w' => e = .returned (.tuple #[]) ∧ NumAt w' cb (c + 1 : Nat) ∧ Gap cb (cb + 1) w w' := by
  have H := Lib.hid (fun (o : Obj) (d : Int) => below_boxset (o := o) (d := d) hc)
  have hlt := lt_of_block hc
  have c1 : ∀ o, (w.alloc o).cell? ⟨cb, 0, Option.none⟩ = some (.int .i64 (c : Int)) := fun o => cell_of_one ((Below.heap_alloc _ _ cb hlt).trans hc)
  have c2 : ∀ o, (w.alloc o).frozen? ⟨cb, 0, Option.none⟩ = false := fun o => free_of_one ((Below.heap_alloc _ _ cb hlt).trans hc)
  have hsI : (c : Int) + 1 ≤ 10000000 := by omega
  clear hc
  go_enter Tryz.func109, Tryz.ntmps109
  go_wp2
  go_end0
  exact ⟨rfl, H.out _ _⟩
theorem new_num (w : World) (c : Int) : NumAt (w.alloc (.cells #[.int .i64 c] 3)) w.heap.size c ∧ Below w.heap.size w (w.alloc (.cells #[.int .i64 c] 3)) := ⟨by show (w.heap.push _)[w.heap.size]? = _; simp, alloc_below _ _⟩
theorem gap_own {w W w' : World} (hb : Below w.heap.size w W) (hg : Gap w.heap.size W.heap.size W w') : Below w.heap.size w w' := hb.trans (hg.below (Nat.le_refl _) hb.size)
set_option maxHeartbeats 1000000 in
set_option maxRecDepth 100000 in
theorem countAllS_is (F : SF) (hF : snodes F ≤ 10000000) (w : World) (v : Value) (hv : SV w 0 F v) :
    Calls Tryz.prog 89 #[v, .func (.func 29) #[] #[]] w fun e w' => e = .returned (.int .i64 (snodes F : Int)) ∧ Below w.heap.size w w' := by
  have hmf : ∀ (fn : Fn) (first cap : Array Value) (w : World), (Instr.makeFunc fn first cap).run Tryz.prog w = .ok (.func fn first cap) w := fun _ _ _ _ => rfl
  have N := Lib.hid (new_num w 0)
  have Hv := Lib.hid (fun (W : World) (hN : NumAt W w.heap.size 0) (hb : Below w.heap.size w W) (hW : W.heap.size = w.heap.size + 1) =>
    visitAllS_is F hF w W hb w.heap.size (w.heap.size + 1) (Nat.le_refl _) (by omega) v hv 109 (fun _ _ => rfl) #[.pointer (some ⟨w.heap.size, 0, Option.none⟩)] (fun vs w' => NumAt w' w.heap.size (vs.length : Int))
      (fun vs w1 w2 hj _ hk => (hk _ (Nat.le_refl _) (Nat.lt_succ_self _)).trans hj) hN (fun vs h l v1 v2 v3 v4 u w1 hj _ _ _ _ _ hl => (cntS_is h v1 v2 v3 v4 u w1 _ vs.length hj (by omega)).mono (by
        rintro e w2 ⟨rfl, h1, h2⟩
        refine ⟨rfl, ?_, h2⟩
        show NumAt w2 w.heap.size ((vs ++ [(h, l)]).length : Int)
        rw [List.length_append]; exact h1)))
  go_enter Tryz.func89, Tryz.ntmps89
  go_wp2_with fail
  refine (Hv.out _ N.out.1 N.out.2 (by simp)).mono ?_
  rintro e w1 ⟨rfl, ⟨vs, hj, hp⟩, hg⟩
  have hl : (vs.length : Int) = (snodes F : Int) := by rw [hp.length_eq, sall_len]
  have hcell := cell_of_one hj
  have hB := Lib.hid (gap_own N.out.2 (hg.wider (Nat.le_refl _) (by simp)))
  clear hj hp hg N Hv
  rw [hl] at hcell
  go_wp2
  go_ret
  exact ⟨rfl, hB.out⟩
theorem impl_Size (F : SF) (hF : snodes F ≤ 10000000) (w : World) (v : Value) (hv : SV w 0 F v) :
    Calls Tryz.prog 62 #[v] w fun e w' => e = .returned (.int .i64 (snodes F : Int)) ∧ Below w.heap.size w w' := by
  go_enter Tryz.func62, Tryz.ntmps62
  go_wp2_with (go_at_call 89; refine (countAllS_is F hF w v hv).mono ?_; rintro e w1 ⟨rfl, hb1⟩)
  go_ret
  exact ⟨rfl, hb1⟩
end Go.Proofs.YtkilmefpaojkfaaGreat
