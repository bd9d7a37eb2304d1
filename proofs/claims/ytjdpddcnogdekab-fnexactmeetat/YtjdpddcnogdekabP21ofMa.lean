/-
  Texts in one: EndS, EndsI.
-/
import Derived.Test.YtjdpddcnogdekabP18ofMa
import Derived.Test.YtjdpddcnogdekabAffOkS
import Derived.Test.YtjdpddcnogdekabP08ofMa
import Derived.RangeFuncNested
import Derived.RangeFuncBound
import Derived.RangeFuncCalls
import Derived.RangeFuncLeaves
import Derived.Shelf.Abstract
import Derived.Shelf.RegionOpen
import Derived.OwnWalkIn
import Derived.TacticsInMore
import Derived.LoopNIn
import Derived.LoopIn
import Derived.RangeFuncBox
/-
  l9End, Least and Most of the specification; namesWithin of the landed code.
-/
namespace Go.Proofs.Ytjdpddcnogdekab
open Go.RowKit Go.Lib
set_option linter.unusedSimpArgs false
set_option linter.unusedVariables false

theorem at9_find (s : ByteArray) : ∀ (rs : List RG) (k : Nat), hasR9 rs s = true → ∃ j, rs[j]? = some (rg9 rs s) ∧ at9 rs k s = ((k + j : Nat) : Int)
  | [], k, h => by simp [hasR9] at h
  | r :: rs, k, h => by
    by_cases e : r.s = s
    · exact ⟨0, by simp [rg9, List.find?_cons, e], by rw [at9, if_pos e]; rfl⟩
    · obtain ⟨j, h1, h2⟩ := at9_find s rs (k + 1) (by simpa [hasR9, e] using h)
      refine ⟨j + 1, ?_, ?_⟩
      · have : rg9 (r :: rs) s = rg9 rs s := by simp [rg9, List.find?_cons, e]
        rw [this]; simpa using h1
      · rw [at9, if_neg e, h2]; omega
theorem at9_no (s : ByteArray) : ∀ (rs : List RG) (k : Nat), hasR9 rs s = false → at9 rs k s = -1
  | [], k, _ => rfl
  | r :: rs, k, h => by
    have : ¬ r.s = s ∧ hasR9 rs s = false := by simpa [hasR9] using h
    rw [at9, if_neg this.1, at9_no s rs (k + 1) this.2]
theorem okFrom8_mem : ∀ (p : Option ByteArray) (ts : List AR), okFrom8 p ts = true → ∀ t ∈ ts, -100000 ≤ t.n ∧ t.n ≤ 100000
  | _, [], _, t, h => by simp at h
  | p, u :: ts, h, t, ht => by
    rw [okFrom8, Bool.and_eq_true] at h
    rcases List.mem_cons.1 ht with rfl | ht
    · have := h.1; simp [termOk8, inMax8] at this; omega
    · exact okFrom8_mem _ ts h.2 t ht
theorem prod9 {n x : Int} (h1 : -100000 ≤ n) (h2 : n ≤ 100000) (h3 : -10000 ≤ x) (h4 : x ≤ 10000) : -1000000000 ≤ n * x ∧ n * x ≤ 1000000000 := by
  have hn : n.natAbs ≤ 100000 := by omega
  have hx : x.natAbs ≤ 10000 := by omega
  have h : (n * x).natAbs ≤ 1000000000 := by rw [Int.natAbs_mul]; exact Nat.mul_le_mul hn hx
  omega
theorem val9 {a b : Int} (h : a = b) : Value.int .i64 a = .int .i64 b := by rw [h]
end Go.Proofs.Ytjdpddcnogdekab
/-
  What endsOf hands back: it goes through a box and tells each range's ends.
-/
namespace Go.Proofs.Ytjdpddcnogdekab
open Go.RowKit Go.Lib Go.Shelf
set_option linter.unusedSimpArgs false
set_option linter.unusedVariables false

attribute [local go_sem] Oper.semAt_some

/-- What a range's ends come to. -/
def en9 (ts : List AR) (r : RG) : Int × Int := (coefA ts r.s * r.lo, coefA ts r.s * r.hi)
abbrev encs9 (x : Int × Int) : Array Value := #[.int .i64 x.1, .int .i64 x.2]
theorem coefA_bd (s : ByteArray) : ∀ (ts : List AR), (∀ t ∈ ts, -100000 ≤ t.n ∧ t.n ≤ 100000) → -100000 ≤ coefA ts s ∧ coefA ts s ≤ 100000
  | [], _ => by simp [coefA]
  | t :: ts, h => by
    rw [coefA]
    split
    · exact h t (by simp)
    · exact coefA_bd s ts (fun u hu => h u (by simp [hu]))
/-- Below n nothing has turned but one block. -/
structure K9 (n S : Nat) (A B : World) : Prop where
  os : B.os = A.os
  tape : B.tape = A.tape
  output : B.output = A.output
  size : A.heap.size ≤ B.heap.size
  block : ∀ k, k < n → k ≠ S → B.heap[k]? = A.heap[k]?
theorem K9.refl (n S : Nat) (A : World) : K9 n S A A := ⟨rfl, rfl, rfl, Nat.le_refl _, fun _ _ _ => rfl⟩
theorem K9.trans {n S : Nat} {A B C : World} (h : K9 n S A B) (k : K9 n S B C) : K9 n S A C := ⟨k.os.trans h.os, k.tape.trans h.tape, k.output.trans h.output, Nat.le_trans h.size k.size, fun j h1 h2 => (k.block j h1 h2).trans (h.block j h1 h2)⟩
theorem K9.of {n S : Nat} {A B : World} (h : Below n A B) : K9 n S A B := ⟨h.os, h.tape, h.output, h.size, fun k hk _ => h.block k hk⟩
theorem K9.cell {n S : Nat} {A B : World} (h : K9 n S A B) {p : Addr} (hp : p.block < n ∧ p.block ≠ S) : B.cell? p = A.cell? p := by simp only [World.cell?, h.block _ hp.1 hp.2]
theorem grown_none {w w' : World} (h : Below w.heap.size w w') : w.grownBy w' none := ⟨h.os, h.tape, h.output, h.size, fun k hk _ => h.block k hk⟩
end Go.Proofs.Ytjdpddcnogdekab
