/-
  What endsOf hands back: it goes through a box and tells each range's ends.
-/
import Derived.Test.YtjdpddcnogdekabEndS
import Derived.Test.YtjdpddcnogdekabAffCoef
import Derived.RangeFuncNested
import Derived.RangeFuncBound
import Derived.RangeFuncCalls
import Derived.RangeFuncLeaves
import Derived.Shelf.Abstract
import Derived.Shelf.RegionOpen
import Derived.OwnWalkIn
import Derived.TacticsInMore
import Derived.LoopNIn
import Derived.LoopIn
import Derived.RangeFuncBox
namespace Go.Proofs.Ytjdpddcnogdekab
open Go.RowKit Go.Lib Go.Shelf
set_option linter.unusedSimpArgs false
set_option linter.unusedVariables false

attribute [local go_sem] Oper.semAt_some

/-- What a range's ends come to. -/
def en9 (ts : List AR) (r : RG) : Int × Int := (coefA ts r.s * r.lo, coefA ts r.s * r.hi)
abbrev encs9 (x : Int × Int) : Array Value := #[.int .i64 x.1, .int .i64 x.2]
theorem coefA_bd (s : ByteArray) : ∀ (ts : List AR), (∀ t ∈ ts, -100000 ≤ t.n ∧ t.n ≤ 100000) → -100000 ≤ coefA ts s ∧ coefA ts s ≤ 100000
  | [], _ => by simp [coefA]
  | t :: ts, h => by
    rw [coefA]
    split
    · exact h t (by simp)
    · exact coefA_bd s ts (fun u hu => h u (by simp [hu]))
/-- Below n nothing has turned but one block. -/
structure K9 (n S : Nat) (A B : World) : Prop where
  os : B.os = A.os
  tape : B.tape = A.tape
  output : B.output = A.output
  size : A.heap.size ≤ B.heap.size
  block : ∀ k, k < n → k ≠ S → B.heap[k]? = A.heap[k]?
theorem K9.refl (n S : Nat) (A : World) : K9 n S A A := ⟨rfl, rfl, rfl, Nat.le_refl _, fun _ _ _ => rfl⟩
theorem K9.trans {n S : Nat} {A B C : World} (h : K9 n S A B) (k : K9 n S B C) : K9 n S A C := ⟨k.os.trans h.os, k.tape.trans h.tape, k.output.trans h.output, Nat.le_trans h.size k.size, fun j h1 h2 => (k.block j h1 h2).trans (h.block j h1 h2)⟩
theorem K9.of {n S : Nat} {A B : World} (h : Below n A B) : K9 n S A B := ⟨h.os, h.tape, h.output, h.size, fun k hk _ => h.block k hk⟩
theorem K9.cell {n S : Nat} {A B : World} (h : K9 n S A B) {p : Addr} (hp : p.block < n ∧ p.block ≠ S) : B.cell? p = A.cell? p := by simp only [World.cell?, h.block _ hp.1 hp.2]
theorem grown_none {w w' : World} (h : Below w.heap.size w w') : w.grownBy w' none := ⟨h.os, h.tape, h.output, h.size, fun k hk _ => h.block k hk⟩
end Go.Proofs.Ytjdpddcnogdekab
