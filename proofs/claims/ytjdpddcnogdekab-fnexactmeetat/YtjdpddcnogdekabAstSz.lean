/-
  The contracts of szExp, szExpS, szStmt, szStmtS: how much an argument holds, or -1 where it is more than is left.
-/
import Derived.Test.YtjdpddcnogdekabAstPlain
namespace Go.Proofs.Ytjdpddcnogdekab
open Go.RowKit Go.Lib
set_option linter.unusedSimpArgs false
set_option linter.unusedVariables false

/-- Every slice and string of what came in has a length that an int holds. -/
def eok : EF → Prop
  | .nil => True
  | .node _ _ h l r => h.s.size ≤ 9223372036854775807 ∧ elen l ≤ 9223372036854775807 ∧ eok l ∧ eok r
def xok (x : X) : Prop := x.h.s.size ≤ 9223372036854775807 ∧ elen x.l ≤ 9223372036854775807 ∧ eok x.l
def sok : SF → Prop
  | .nil => True
  | .node _ _ h l r => h.s.size ≤ 9223372036854775807 ∧ xok h.x1 ∧ xok h.x2 ∧ xok h.x3 ∧ xok h.x4 ∧ slen l ≤ 9223372036854775807 ∧ sok l ∧ sok r
theorem val_intA {a b : Int} (h : a = b) : (Value.int .i64 a) = .int .i64 b := by rw [h]
/-- What is answered where n is to be taken from what is left. -/
def Sz (n : Nat) (left : Int) (w : World) (e : Ending) (w' : World) : Prop := e = .returned (.int .i64 (if left < (n : Int) then -1 else left - n)) ∧ Below w.heap.size w w'
theorem Sz.less {n : Nat} {left : Int} {w w' : World} (h : left < (n : Int)) (hb : Below w.heap.size w w') : Sz n left w (.returned (.int .i64 (-1))) w' := ⟨by rw [if_pos h], hb⟩
theorem Sz.more {n : Nat} {left r : Int} {w w' : World} (h : ¬ left < (n : Int)) (hr : r = left - n) (hb : Below w.heap.size w w') : Sz n left w (.returned (.int .i64 r)) w' := ⟨by rw [if_neg h, hr], hb⟩
/-- A cell of a block that was just laid, behind a call that turned nothing of it. -/
theorem box_cell {w w1 : World} {arr : Array Value} {t : TypeId} {i : Nat} {v : Value} (hb : Below (w.alloc (.cells arr t)).heap.size (w.alloc (.cells arr t)) w1) (hi : arr[i]? = some v) : w1.cell? ⟨w.heap.size, i, Option.none⟩ = some v := by
  have e : (w.alloc (.cells arr t)).heap = w.heap.push (.cells arr t (0, 0)) := rfl
  have e2 : w1.heap[w.heap.size]? = some (.cells arr t (0, 0)) := by rw [hb.block w.heap.size (by rw [e]; simp), e]; simp
  simp only [World.cell?, e2]; exact hi
theorem below_alloc {w w1 : World} {o : Obj} (hb : Below (w.alloc o).heap.size (w.alloc o) w1) : Below w.heap.size w w1 :=
  ((Below.refl _ w).alloc (Nat.le_refl _) o).trans (hb.mono (by simp))
theorem alloc_below (w : World) (o : Obj) : Below w.heap.size w (w.alloc o) := (Below.refl _ w).alloc (Nat.le_refl _) o
end Go.Proofs.Ytjdpddcnogdekab
