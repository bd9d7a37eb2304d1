/-
  The contract of termOf.
-/
import Derived.Test.YtfacenfiocdbgaaCloneShelf
import Derived.Test.YtfacenfiocdbgaaAffPlain
import Derived.Test.YtfacenfiocdbgaaAstProg
namespace Go.Proofs.Ytfacenfiocdbgaa
open Go.RowKit Go.Lib
set_option linter.unusedSimpArgs false
set_option linter.unusedVariables false

set_option maxRecDepth 100000 in
theorem clone8 (s : ByteArray) (w : World) (hlim : s.size ≤ 281474976710656) :
    Calls Try.prog 66 #[.string s] w fun e w' => e = .returned (.string s) ∧ Below w.heap.size w w' := by
  have C := Lib.hid (Try.clone8 s w (by omega))
  go_enter Try.func66, Try.ntmps66
  go_wp2_with fail
  refine C.out.mono ?_
  rintro e w1 ⟨rfl, hb1⟩
  go_wp2
  go_ret
  exact ⟨rfl, hb1⟩
set_option maxHeartbeats 1000000 in
theorem termOf_is (s : ByteArray) (hlim : s.size ≤ 281474976710656) (n : Int) (w : World) :
    Calls Try.prog 52 #[.string s, .int .i64 n] w fun e w' => e = .returned (.agg #[.string s, .int .i64 n]) ∧ Below w.heap.size w w' := by
  have hl := heap_last w (.cells #[.string ⟨#[]⟩, .int .i64 0] 59)
  have B := Lib.hid (alloc_below w (.cells #[.string ⟨#[]⟩, .int .i64 0] 59))
  go_enter Try.func52, Try.ntmps52
  go_wp2_with fail
  refine (clone8 s _ hlim).mono ?_
  rintro e w1 ⟨rfl, hb1⟩
  have q := (hb1.block _ (by simp)).trans hl
  obtain ⟨⟨q0, q1⟩, f0, f1⟩ := blk2 q
  have Q := Lib.hid q
  have B1 := Lib.hid (B.out.trans (hb1.mono B.out.size))
  clear hb1 q hl
  go_wp2
  have e0 := Go.heap_setCell_same _ _ 0 _ _ (.string s) Q.out
  have e1 := Go.heap_setCell_same _ _ 1 _ _ (.int .i64 n) e0
  obtain ⟨⟨z0, z1⟩, _⟩ := blk2 e1
  refine bodyPost_ret (v := .agg #[.string s, .int .i64 n]) (by simp [results, Try.results52, go_sem, z0, z1]) rfl ⟨rfl, (B1.out.setCell (p := ⟨w.heap.size, 0, Option.none⟩) (Nat.le_refl _) _).setCell (p := ⟨w.heap.size, 1, Option.none⟩) (Nat.le_refl _) _⟩
end Go.Proofs.Ytfacenfiocdbgaa
