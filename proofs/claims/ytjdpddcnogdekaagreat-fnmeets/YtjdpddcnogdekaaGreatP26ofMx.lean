/-
  Texts in one: AffSubI, AffSubA.
-/
import Derived.Test.YtjdpddcnogdekaaGreatP25ofMx
import Derived.Test.YtjdpddcnogdekaaGreatAffOk
import Derived.Test.YtjdpddcnogdekaaGreatP18ofMx
import Derived.Deep.RegionHeld
/-
  ifAffOk, SubA of the landed code.
-/
namespace Go.Proofs.YtjdpddcnogdekaaGreat
open Go.RowKit Go.Lib
set_option linter.unusedSimpArgs false
set_option linter.unusedVariables false

theorem AV.ofOwn8 {w : World} {B n c : Nat} {a : Option Addr} {ts : List AR} (h : w.ownsRow B 70 2 (.slice a n c) ts.length (acells ts)) : AV w 0 (.slice a n c) ts := by
  rcases h.2 with ⟨h0, h1⟩ | ⟨g, cap, cur, h1, h2, h3, h4⟩
  · have : ts = [] := List.length_eq_zero_iff.1 h1
    subst this
    exact ⟨_, _, h0, .inl rfl⟩
  · have hc := h.cells (g := g) (by rw [h1]; rfl)
    refine ⟨_, cap, h1, .inr ⟨g, 0, rfl, Nat.zero_le _, (Array.getElem?_eq_some_iff.1 h3).1, fun i t hi => ?_⟩⟩
    have hg := acells_get ts i t hi
    have e : ∀ j, (⟨g, 0, Option.none⟩ : Addr).add j = ⟨g, j, Option.none⟩ := fun j => by simp [Addr.add]; omega
    have a := hc _ _ hg.1; have b := hc _ _ hg.2
    rw [e] at a b
    exact ⟨by rw [Nat.zero_add]; exact a, by rw [Nat.zero_add]; exact b⟩
/-- A sum and whether it is one. -/
def pairR8 (ok : Bool) (c : Int) (va : Value) : Value := .tuple #[.agg (if ok = true then #[.int .i64 c, va] else #[.int .i64 0, .slice Option.none 0 0]), .bool ok]
end Go.Proofs.YtjdpddcnogdekaaGreat
/-
  SubA of the landed code.
-/
namespace Go.Proofs.YtjdpddcnogdekaaGreat
open Go.RowKit Go.Lib
set_option linter.unusedSimpArgs false
set_option linter.unusedVariables false

/-- Below n nothing has turned but one block. -/
structure K8 (n S : Nat) (A B : World) : Prop where
  os : B.os = A.os
  tape : B.tape = A.tape
  output : B.output = A.output
  size : A.heap.size ≤ B.heap.size
  block : ∀ k, k < n → k ≠ S → B.heap[k]? = A.heap[k]?
theorem K8.of {n S : Nat} {A B : World} (h : Below n A B) : K8 n S A B := ⟨h.os, h.tape, h.output, h.size, fun k hk _ => h.block k hk⟩
theorem K8.trans {n S : Nat} {A B C : World} (h : K8 n S A B) (k : K8 n S B C) : K8 n S A C := ⟨k.os.trans h.os, k.tape.trans h.tape, k.output.trans h.output, Nat.le_trans h.size k.size, fun j h1 h2 => (k.block j h1 h2).trans (h.block j h1 h2)⟩
theorem K8.set {n S : Nat} (A : World) (i : Nat) (v : Value) : K8 n S A (A.setCell ⟨S, i, Option.none⟩ v) := ⟨rfl, rfl, rfl, by simp, fun k _ hk => Below.heap_setCell _ _ _ _ hk⟩
theorem K8.heap {n S k : Nat} {A B : World} {o : Obj} (h : K8 n S A B) (hk : k < n) (hs : k ≠ S) (ho : A.heap[k]? = some o) : B.heap[k]? = some o := (h.block k hk hs).trans ho
theorem heap3t (w : World) (a b c : Obj) : (((w.alloc a).alloc b).alloc c).heap[w.heap.size]? = some a ∧ (((w.alloc a).alloc b).alloc c).heap[w.heap.size + 1]? = some b ∧ (((w.alloc a).alloc b).alloc c).heap[w.heap.size + 1 + 1]? = some c := heap3 w a b c
theorem ownMono8 {w : World} {B B' sz n : Nat} {e : TypeId} {v : Value} {xs : List Value} (hB : B' ≤ B) (h : w.ownsRow B e sz v n xs) : w.ownsRow B' e sz v n xs := by
  refine ⟨h.1, ?_⟩
  rcases h.2 with h0 | ⟨g, cap, cur, h1, h2, h3⟩
  · exact .inl h0
  · exact .inr ⟨g, cap, cur, h1, Nat.le_trans hB h2, h3⟩
/-- Whether what is taken away is a sum, and which. -/
def subOk8 (ca cb : Int) (la lb : List AR) : Bool := affOk8 ca la && affOk8 cb lb && affOk8 (IntKind.i64.wrap (ca - cb)) (less8 (la.length + lb.length) la lb)
def OutSub8 (w : World) (ok : Bool) (c : Int) (ts : List AR) (e : Ending) (w' : World) : Prop :=
  ∃ v', e = .returned (pairR8 ok c v') ∧ (ok = true → w'.ownsRow w.heap.size 70 2 v' ts.length (acells ts)) ∧ Below w.heap.size w w'
end Go.Proofs.YtjdpddcnogdekaaGreat
