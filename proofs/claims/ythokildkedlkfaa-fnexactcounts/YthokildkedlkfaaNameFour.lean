/-
  The contract of expsOf: the four expressions of a statement, in a row.
-/
import Derived.Test.YthokildkedlkfaaNameAskS
import Derived.Test.YthokildkedlkfaaAstVisK
namespace Go.Proofs.Ythokildkedlkfaa
open Go.RowKit Go.Lib
set_option linter.unusedSimpArgs false
set_option linter.unusedVariables false

/-- The four expressions of a statement, in a row. -/
def four (h : SH) : EF := .node 0 0 h.x1.h h.x1.l (.node 0 0 h.x2.h h.x2.l (.node 0 0 h.x3.h h.x3.l (.node 0 0 h.x4.h h.x4.l .nil)))
theorem four_all (h : SH) : enall (four h) = hall h := by simp [four, enall, hall, xall]
theorem four_nodes (h : SH) : enodes (four h) = (hall h).length := by rw [← four_all, enall_len]
def fcells (h : SH) (v1 v2 v3 v4 : Value) : List Value := xcells h.x1 v1 ++ (xcells h.x2 v2 ++ (xcells h.x3 v3 ++ xcells h.x4 v4))
theorem EV.laidN {w : World} {g : Nat} {F : EF} {xs : List Value} (h : ERow w 0 F xs) (hr : w.rangeAt g 0 xs) (c : Nat) : EV w 0 F (.slice (some ⟨g, 0, Option.none⟩) (elen F) c) :=
  ⟨g, 0, _, c, rfl, .inl rfl, Nat.zero_le _, ERow.laid 0 h (by simpa [World.rangeAt] using hr)⟩
theorem laid_four {w : World} {h : SH} {v1 v2 v3 v4 : Value} {g : Nat} (hv : HV w 0 h v1 v2 v3 v4) (hr : w.rangeAt g 0 (fcells h v1 v2 v3 v4)) : EV w 0 (four h) (.slice (some ⟨g, 0, Option.none⟩) 4 4) :=
  EV.laidN (F := four h) ((ERow.one hv.e1).app (P := .node 0 0 h.x1.h h.x1.l .nil) ((ERow.one hv.e2).app (P := .node 0 0 h.x2.h h.x2.l .nil) ((ERow.one hv.e3).app (P := .node 0 0 h.x3.h h.x3.l .nil) (ERow.one hv.e4)))) hr 4
set_option maxHeartbeats 2000000 in
set_option maxRecDepth 100000 in
theorem expsOf_is (h : SH) (v1 v2 v3 v4 v : Value) (w : World) (o1 : ∃ a n c, v1 = .slice a n c) (o2 : ∃ a n c, v2 = .slice a n c) (o3 : ∃ a n c, v3 = .slice a n c) (o4 : ∃ a n c, v4 = .slice a n c) :
    Calls Try.prog 40 #[sagg h v1 v2 v3 v4 v] w fun e w' => ∃ g, e = .returned (.slice (some ⟨g, 0, Option.none⟩) 4 4) ∧ w'.rangeAt g 0 (fcells h v1 v2 v3 v4) ∧ w.heap.size ≤ g ∧ Below w.heap.size w w' := by
  have B := Lib.hid (alloc_below w (.cells (sarr h v1 v2 v3 v4 v) 29))
  have L : Hid (((w.alloc (.cells (sarr h v1 v2 v3 v4 v) 29)).alloc (.cells (fcells h v1 v2 v3 v4).toArray 26)).rangeAt (w.heap.size + 1) 0 (fcells h v1 v2 v3 v4)) := by
    have := blk_range (w := (w.alloc (.cells (sarr h v1 v2 v3 v4 v) 29)).alloc (.cells (fcells h v1 v2 v3 v4).toArray 26)) (b := w.heap.size + 1) (arr := (fcells h v1 v2 v3 v4).toArray) (t := 26) (fr := (0, 0)) (by
      exact (congrArg (fun n => ((w.alloc (.cells (sarr h v1 v2 v3 v4 v) 29)).alloc (.cells (fcells h v1 v2 v3 v4).toArray 26)).heap[n]?) (show w.heap.size + 1 = (w.alloc (.cells (sarr h v1 v2 v3 v4 v) 29)).heap.size by simp)).trans (by show ((w.alloc _).heap.push _)[(w.alloc _).heap.size]? = _; rw [Array.getElem?_push_size]))
    exact Lib.hid (by simpa using this)
  obtain ⟨a1, n1, c1, rfl⟩ := o1
  obtain ⟨a2, n2, c2, rfl⟩ := o2
  obtain ⟨a3, n3, c3, rfl⟩ := o3
  obtain ⟨a4, n4, c4, rfl⟩ := o4
  go_enter Try.func40, Try.ntmps40
  go_wp2
  go_ret
  exact ⟨w.heap.size + 1, rfl, L.out, Nat.le_succ _, B.out.alloc B.out.size _⟩
/-- The world without two of its blocks. -/
def cleared (w : World) (N : Nat) : World := { w with heap := (w.heap.setIfInBounds N (.map #[] 0)).setIfInBounds (N + 1) (.map #[] 0) }
theorem cleared_heap (w : World) (N k : Nat) (h1 : k ≠ N) (h2 : k ≠ N + 1) : (cleared w N).heap[k]? = w.heap[k]? := by
  show ((w.heap.setIfInBounds N (.map #[] 0)).setIfInBounds (N + 1) (.map #[] 0))[k]? = _
  rw [Array.getElem?_setIfInBounds_ne (fun e => h2 e.symm), Array.getElem?_setIfInBounds_ne (fun e => h1 e.symm)]
theorem cleared_in {w : World} {N : Nat} {a : Addr} {v : Value} (h1 : a.block ≠ N) (h2 : a.block ≠ N + 1) (h : w.cell? a = some v) : (cleared w N).cell? a = some v := by
  unfold World.cell? at h ⊢; rw [cleared_heap w N _ h1 h2]; exact h
theorem cleared_out {w : World} {N : Nat} (hN : N + 2 ≤ w.heap.size) {a : Addr} {v : Value} (h : (cleared w N).cell? a = some v) : a.block ≠ N ∧ a.block ≠ N + 1 ∧ w.cell? a = some v := by
  have e1 : (cleared w N).heap[N + 1]? = some (.map #[] 0) := by
    show ((w.heap.setIfInBounds N (.map #[] 0)).setIfInBounds (N + 1) (.map #[] 0))[N + 1]? = _
    rw [Array.getElem?_setIfInBounds_self_of_lt (by simp; omega)]
  have e0 : (cleared w N).heap[N]? = some (.map #[] 0) := by
    show ((w.heap.setIfInBounds N (.map #[] 0)).setIfInBounds (N + 1) (.map #[] 0))[N]? = _
    rw [Array.getElem?_setIfInBounds_ne (by omega), Array.getElem?_setIfInBounds_self_of_lt (by omega)]
  have n0 : a.block ≠ N := fun e => by unfold World.cell? at h; rw [e, e0] at h; cases h
  have n1 : a.block ≠ N + 1 := fun e => by unfold World.cell? at h; rw [e, e1] at h; cases h
  refine ⟨n0, n1, ?_⟩
  unfold World.cell? at h ⊢; rw [cleared_heap w N _ n0 n1] at h; exact h
end Go.Proofs.Ythokildkedlkfaa
