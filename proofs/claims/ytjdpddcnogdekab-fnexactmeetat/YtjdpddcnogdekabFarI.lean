/-
  farthest of the landed code, by the lesser and by the greater end; Least, Most, InArr.
-/
import Derived.Test.YtjdpddcnogdekabEndsI
import Derived.RegionIn
import Derived.Test.YtjdpddcnogdekabLookWith
namespace Go.Proofs.Ytjdpddcnogdekab
open Go.RowKit Go.Lib Go.Shelf
set_option linter.unusedSimpArgs false
set_option linter.unusedVariables false

attribute [local go_sem] Oper.semAt_some

theorem rnd9 {W w : World} {S n B N1 : Nat} {u v z : Int} {fv : Value} {T ti : TypeId} (e0 : W.heap[S]? = some (.cells #[.int .i64 u] ti (0, 0))) (e1 : W.heap[N1]? = some (.cells #[fv] T (0, 0))) (hne : N1 ≠ S) (hB : Below w.heap.size w W) (hS : w.heap.size ≤ S) (hv : v = z) :
    KeepsFrom B W (W.drew.setCell ⟨S, 0, Option.none⟩ (.int .i64 v)) ∧ K9 n S W (W.drew.setCell ⟨S, 0, Option.none⟩ (.int .i64 v)) ∧ ((W.drew.setCell ⟨S, 0, Option.none⟩ (.int .i64 v)).heap[S]? = some (.cells #[.int .i64 z] ti (0, 0)) ∧ ((W.drew.setCell ⟨S, 0, Option.none⟩ (.int .i64 v)).heap[N1]? = some (.cells #[fv] T (0, 0)) ∧ Below w.heap.size w (W.drew.setCell ⟨S, 0, Option.none⟩ (.int .i64 v)))) := by
  subst hv
  refine ⟨((KeepsOthers.drew W).trans (KeepsOthers.setCell _ _ _)).from _, ⟨rfl, rfl, rfl, by simp, fun k _ hk => Below.heap_setCell _ _ _ _ hk⟩, ?_, (Below.heap_setCell _ _ _ _ hne).trans e1, (belowD9 hB 1).setCell (p := ⟨S, 0, Option.none⟩) hS _⟩
  exact Go.heap_setCell_same W.drew S 0 _ _ (.int .i64 v) e0
def sumP9 (most : Bool) : List (Int × Int) → Int
  | [] => 0
  | x :: l => pick9 most x.1 x.2 + sumP9 most l
theorem sumP9_snoc (most : Bool) (x : Int × Int) : ∀ l, sumP9 most (l ++ [x]) = sumP9 most l + pick9 most x.1 x.2
  | [] => by simp [sumP9]
  | y :: l => by rw [List.cons_append, sumP9, sumP9_snoc most x l, sumP9]; omega
theorem sumP9_ends (most : Bool) (ts : List AR) : ∀ (rs : List RG), Fit9 rs → sumP9 most (rs.map (en9 ts)) = sumR9 most ts rs
  | [], _ => rfl
  | r :: rs, h => by
    rw [List.map_cons, sumP9, sumR9, sumP9_ends most ts rs (fun t ht => h t (by simp [ht]))]
    congr 1
    exact pick9_end most _ r (by have := (h r (by simp)).1; omega)
theorem heap2q (w : World) (a b : Obj) : ((w.alloc a).alloc b).heap[w.heap.size]? = some a ∧ ((w.alloc a).alloc b).heap[w.heap.size + 1]? = some b := by
  have h := heap_last (w.alloc a) b
  rw [World.size_alloc] at h
  exact ⟨by rw [Below.heap_alloc _ _ _ (by simp)]; exact heap_last _ _, h⟩

end Go.Proofs.Ytjdpddcnogdekab
