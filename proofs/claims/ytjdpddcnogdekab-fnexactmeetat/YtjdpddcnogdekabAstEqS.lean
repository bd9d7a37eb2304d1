/-
  The contracts of eqStmt, eqStmtS where both are the same.
-/
import Derived.Test.YtjdpddcnogdekabAstEq
import Derived.Deep.RegionHeld
namespace Go.Proofs.Ytjdpddcnogdekab
open Go.RowKit Go.Lib
set_option linter.unusedSimpArgs false
set_option linter.unusedVariables false

section
variable {w : World} {b : Nat} {h : SH} {v1 v2 v3 v4 v : Value}
theorem part1 (r : w.rangeAt b 0 (scells h v1 v2 v3 v4 v)) : w.rangeAt b 2 (xcells h.x1 v1) := by
  have := rangeAt_part (ds := [.int .i64 h.k, .string h.s]) (es := xcells h.x1 v1) r rfl; rwa [Nat.zero_add] at this
theorem part2 (r : w.rangeAt b 0 (scells h v1 v2 v3 v4 v)) : w.rangeAt b 6 (xcells h.x2 v2) := by
  have := rangeAt_part (ds := [.int .i64 h.k, .string h.s] ++ xcells h.x1 v1) (es := xcells h.x2 v2) r rfl; rwa [Nat.zero_add] at this
theorem part3 (r : w.rangeAt b 0 (scells h v1 v2 v3 v4 v)) : w.rangeAt b 10 (xcells h.x3 v3) := by
  have := rangeAt_part (ds := [.int .i64 h.k, .string h.s] ++ xcells h.x1 v1 ++ xcells h.x2 v2) (es := xcells h.x3 v3) r rfl; rwa [Nat.zero_add] at this
theorem part4 (r : w.rangeAt b 0 (scells h v1 v2 v3 v4 v)) : w.rangeAt b 14 (xcells h.x4 v4) := by
  have := rangeAt_part (ds := [.int .i64 h.k, .string h.s] ++ xcells h.x1 v1 ++ xcells h.x2 v2 ++ xcells h.x3 v3) (es := xcells h.x4 v4) r rfl; rwa [Nat.zero_add] at this
theorem part5 (r : w.rangeAt b 0 (scells h v1 v2 v3 v4 v)) : w.cell? ⟨b, 18, Option.none⟩ = some v := by
  have := r 18 v rfl; rwa [Nat.zero_add] at this
end
/-- Two statements that came in, each in a block of its own. -/
structure Two (w0 w : World) (N : Nat) (g h : SH) (a1 a2 a3 a4 a b1 b2 b3 b4 b : Value) : Prop where
  r1 : w.rangeAt N 0 (scells g a1 a2 a3 a4 a)
  r2 : w.rangeAt (N + 1) 0 (scells h b1 b2 b3 b4 b)
  low : Below w0.heap.size w0 w
theorem Two.later {w0 w w' : World} {N : Nat} {g h : SH} {a1 a2 a3 a4 a b1 b2 b3 b4 b : Value} (t : Two w0 w N g h a1 a2 a3 a4 a b1 b2 b3 b4 b) (hb : Below w.heap.size w w') : Two w0 w' N g h a1 a2 a3 a4 a b1 b2 b3 b4 b :=
  ⟨rangeAt_later t.r1 hb, rangeAt_later t.r2 hb, t.low.trans (hb.mono t.low.size)⟩
theorem Two.start (w : World) (g h : SH) (a1 a2 a3 a4 a b1 b2 b3 b4 b : Value) (s t : TypeId) : Two w ((w.alloc (.cells (sarr g a1 a2 a3 a4 a) s)).alloc (.cells (sarr h b1 b2 b3 b4 b) t)) w.heap.size g h a1 a2 a3 a4 a b1 b2 b3 b4 b := by
  have e : ∀ (v : World) (o : Obj), (v.alloc o).heap = v.heap.push o := fun _ _ => rfl
  have q0 : ((w.alloc (.cells (sarr g a1 a2 a3 a4 a) s)).alloc (.cells (sarr h b1 b2 b3 b4 b) t)).heap[w.heap.size]? = some (.cells (sarr g a1 a2 a3 a4 a) s) := by rw [Below.heap_alloc _ _ _ (by simp), e]; simp
  have q1 : ((w.alloc (.cells (sarr g a1 a2 a3 a4 a) s)).alloc (.cells (sarr h b1 b2 b3 b4 b) t)).heap[(w.alloc (.cells (sarr g a1 a2 a3 a4 a) s)).heap.size]? = some (.cells (sarr h b1 b2 b3 b4 b) t) := (fun (v : World) (o : Obj) => (by rw [e]; simp : (v.alloc o).heap[v.heap.size]? = some o)) _ _
  have q2 : (w.alloc (.cells (sarr g a1 a2 a3 a4 a) s)).heap.size = w.heap.size + 1 := by simp
  rw [q2] at q1
  exact ⟨blk_range q0, blk_range q1, (alloc_below w _).alloc (by simp) _⟩
theorem HV.drew {w : World} {lo : Nat} {h : SH} {v1 v2 v3 v4 : Value} (hv : HV w lo h v1 v2 v3 v4) : HV w.drew lo h v1 v2 v3 v4 := ⟨hv.e1.drew, hv.e2.drew, hv.e3.drew, hv.e4.drew⟩
end Go.Proofs.Ytjdpddcnogdekab
