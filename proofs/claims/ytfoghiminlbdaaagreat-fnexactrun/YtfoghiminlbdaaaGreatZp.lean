/-
  Six laws of lists in one word, for the walks.
-/
import Derived.Test.YtfoghiminlbdaaaGreatRows
namespace Go.Proofs.YtfoghiminlbdaaaGreat
theorem zp : (∀ {α : Type} {xs : List α} {i : Nat} (h : i < xs.toArray.size), getElem xs.toArray i h = getElem xs i (by simpa using h)) ∧ (∀ {α : Type} {a : α} {l : List α} {i : Nat} (h : i + 1 < (a :: l).length), getElem (a :: l) (i + 1) h = getElem l i (Nat.lt_of_succ_lt_succ h)) ∧ (∀ {α : Type} {a : α} {l : List α} (h : 0 < (a :: l).length), getElem (a :: l) 0 h = a) ∧ (∀ {α : Type} {l : List α} {i : Nat} {a : α}, l.toArray.setIfInBounds i a = (l.set i a).toArray) ∧ (∀ {α : Type} {a b : α} {l : List α}, (a :: l).set 0 b = b :: l) ∧ (∀ {α : Type} {a b : α} {l : List α} {n : Nat}, (a :: l).set (n + 1) b = a :: l.set n b) :=
  ⟨fun _ => List.getElem_toArray _, fun _ => List.getElem_cons_succ .., fun _ => List.getElem_cons_zero .., List.setIfInBounds_toArray .., List.set_cons_zero, List.set_cons_succ⟩
theorem zq : (∀ {α : Type} {xs : List α} {i : Nat} (h : i < xs.toArray.size), getElem xs.toArray i h = getElem xs i (by simpa using h)) ∧ (∀ {α : Type} {a : α} {l : List α} {i : Nat} (h : i + 1 < (a :: l).length), getElem (a :: l) (i + 1) h = getElem l i (Nat.lt_of_succ_lt_succ h)) ∧ (∀ {α : Type} {a : α} {l : List α} (h : 0 < (a :: l).length), getElem (a :: l) 0 h = a) :=
  ⟨fun _ => List.getElem_toArray _, fun _ => List.getElem_cons_succ .., fun _ => List.getElem_cons_zero ..⟩
end Go.Proofs.YtfoghiminlbdaaaGreat
