/-
  Texts in one: B9Draws, B9DrawX.
-/
import Derived.Test.YtjdpddcnogdekaaGreatP37ofMx
/-
  What the laws of chapter 9 draw.
-/
namespace Go.Proofs.YtjdpddcnogdekaaGreat
open Go.RowKit Go.Lib
set_option linter.unusedSimpArgs false
set_option linter.unusedVariables false

theorem Wr.lowto {b n : Nat} {A B : World} (h : Wr b A B) (hB : n ≤ b) (hs : n ≤ A.heap.size) : Below n A B := ⟨h.os, h.tape, h.output, h.size, fun k hk => h.block k (by omega) (by omega)⟩
/-- A sum that lies there, its row at lo or above. -/
def SumAt (p : Int → List AR → Prop) (w : World) (lo : Nat) (c : Int) (ts : List AR) (v : Value) : Prop := p c ts ∧ w.ownsRow lo 70 2 v ts.length (acells ts)
theorem two_set (A : World) (p : Nat) (u v : Value) : A.grownBy ((A.setCell ⟨p, 0, Option.none⟩ u).setCell ⟨p, 1, Option.none⟩ v) (some p) := grown_set8 (grown_set8 (World.grownBy.refl _ _) _ _) _ _
theorem two_at {A : World} {p : Nat} {x y u v : Value} {t : TypeId} (h : A.heap[p]? = some (.cells #[x, y] t)) : ((A.setCell ⟨p, 0, Option.none⟩ u).setCell ⟨p, 1, Option.none⟩ v).heap[p]? = some (.cells #[u, v] t) :=
  Go.heap_setCell_same _ _ 1 _ _ v (Go.heap_setCell_same _ _ 0 _ _ u h)
theorem RV.g8 {A C : World} {lo p : Nat} {v : Value} {rs : List RG} (h : RV A lo v rs) (hg : A.grownBy C (some p)) (hp : p < lo) : RV C lo v rs :=
  h.same (Nat.le_refl _) (fun a u hl hc => (World.cell?_of_block (hg.block a.block (lt_of_cellA hc) (fun e => by injection e with e; omega))).trans hc) hg.size
def DrawnB9 (w : World) (e : Ending) (w' : World) : Prop := ∃ (rs : List RG) (v : Value), e = .returned v ∧ AnyR9 rs ∧ RV w' 0 v rs ∧ Below w.heap.size w w'
def DrawnL9 (p : Int → List AR → Prop) (q : List RG → Prop) (w : World) (e : Ending) (w' : World) : Prop := ∃ (c : Int) (ts : List AR) (rs : List RG) (v u : Value), e = .returned (.tuple #[.agg #[.int .i64 c, v], u]) ∧ p c ts ∧ q rs ∧ w'.ownsRow w.heap.size 70 2 v ts.length (acells ts) ∧ RV w' 0 u rs ∧ Below w.heap.size w w'
def DrawnI9 (w : World) (e : Ending) (w' : World) : Prop := ∃ (c : Int) (ts : List AR) (rs : List RG) (v u : Value) (sz : Int), e = .returned (.tuple #[.agg #[.int .i64 c, v], u, .int .i64 sz]) ∧ Any8 c ts ∧ AnyR9 rs ∧ w'.ownsRow w.heap.size 70 2 v ts.length (acells ts) ∧ RV w' 0 u rs ∧ Below w.heap.size w w'
end Go.Proofs.YtjdpddcnogdekaaGreat
/-
  What FnBoxes draws.
-/
namespace Go.Proofs.YtjdpddcnogdekaaGreat
open Go.RowKit Go.Lib
set_option linter.unusedSimpArgs false
set_option linter.unusedVariables false

def DrawnX9 (w : World) (e : Ending) (w' : World) : Prop := ∃ (c : Int) (ts : List AR) (rs : List RG) (v u : Value), e = .returned (.tuple #[.agg #[.int .i64 c, v], u]) ∧ Small8 c ts ∧ Bx9 3 rs ∧ w'.ownsRow w.heap.size 70 2 v ts.length (acells ts) ∧ w'.ownsRow w.heap.size 32 3 u rs.length (rcells8 rs) ∧ Below w.heap.size w w'
end Go.Proofs.YtjdpddcnogdekaaGreat
