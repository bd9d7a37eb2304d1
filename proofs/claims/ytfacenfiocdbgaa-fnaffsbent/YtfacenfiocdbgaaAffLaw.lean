/-
  Steps of a law over sums: what stands in blocks is carried on, over calls and over marks.
-/
import Derived.Test.YtfacenfiocdbgaaTermMark
import Derived.Test.YtfacenfiocdbgaaAffSame
namespace Go.Proofs.Ytfacenfiocdbgaa
open Go.RowKit Go.Lib
set_option linter.unusedSimpArgs false
set_option linter.unusedVariables false

theorem heap_b8 {A B : World} {b : Nat} {x : Obj} (h : A.heap[b]? = some x) (hb : Below A.heap.size A B) : B.heap[b]? = some x := (hb.block b (lt_of_heap h)).trans h
theorem heap_g8 {A B : World} {r : Option Nat} {b : Nat} {x : Obj} (h : A.heap[b]? = some x) (hg : A.grownBy B r) (hne : r ≠ some b) : B.heap[b]? = some x := (hg.block b (lt_of_heap h) (fun e => hne e.symm)).trans h
theorem own_g8 {A B : World} {r : Option Nat} {D sz n : Nat} {e : TypeId} {v : Value} {xs : List Value} (h : A.ownsRow D e sz v n xs) (hg : A.grownBy B r) (hne : ∀ k, v.ownBlock = some k → r ≠ some k) : B.ownsRow D e sz v n xs := by
  refine ⟨h.1, ?_⟩
  rcases h.2 with h0 | ⟨g, cap, cur, h1, h2, h3, h4⟩
  · exact .inl h0
  · exact .inr ⟨g, cap, cur, h1, h2, heap_g8 h3 hg (hne g (by rw [h1]; rfl)), h4⟩
theorem low_g8 {w A B : World} {n : Nat} {r : Option Nat} (h : Below n w A) (hg : A.grownBy B r) (hn : n ≤ w.heap.size) (hr : ∀ k, r = some k → n ≤ k) : Below n w B :=
  ⟨hg.os.trans h.os, hg.tape.trans h.tape, hg.output.trans h.output, Nat.le_trans h.size hg.size, fun k hk => (hg.block k (Nat.lt_of_lt_of_le hk (Nat.le_trans hn h.size)) (fun e => absurd (hr k e.symm) (Nat.not_le.2 hk))).trans (h.block k hk)⟩
theorem ne_types8 {w : World} {g p : Nat} {c : Array Value} {x : Array Value} (hh : w.heap[g]? = some (.cells c 59 (0, 0))) (hp : w.heap[p]? = some (.cells x 26 (0, 0))) : g ≠ p := by
  intro e
  subst e
  have h2 := Option.some.inj (hp.symm.trans hh)
  injection h2 with _ h3 _
  exact absurd h3 (by decide)
theorem markAff_r (c : Int) (ts : List AR) (m : Nat) (x : Int) (hx : x = (m : Int)) (hm1 : 1 ≤ m) (hm : m + 2 * ts.length ≤ 10000000) (B : Nat) (v : Value) (w : World) (hown : w.ownsRow B 59 2 v ts.length (acells ts)) :
    Calls Try.prog 27 #[.agg #[.int .i64 c, v], .int .i64 x] w fun e w' => ∃ r : Int, e = .returned (.int .i64 r) ∧ Hid (r = (m : Int) + 2 * (ts.length : Int)) ∧ w'.ownsRow B 59 2 v ts.length (acells (marks8 m ts.length)) ∧ w.grownBy w' v.ownBlock :=
  (markAff_is c ts m x hx hm1 hm B v w hown).mono fun e w' ⟨h1, h2, h3⟩ => ⟨_, h1, rfl, h2, h3⟩
theorem heldAff_r (c : Int) (n m : Nat) (r x : Int) (hr : r = (m : Int) + 2 * (n : Int)) (hx : x = (m : Int)) (hm1 : 1 ≤ m) (hm : m + 2 * n ≤ 10000000) (v : Value) (w : World) (h : AV w 0 v (marks8 m n)) :
    Calls Try.prog 28 #[.agg #[.int .i64 c, v], .int .i64 x] w fun e w' => e = .returned (.int .i64 r) ∧ Below w.heap.size w w' := by
  rw [hr]; exact heldAff_is c n m x hx hm1 hm v w h
theorem slack8 {w : World} {B n : Nat} {ts : List AR} {a : Option Addr} {c : Nat} (h : w.ownsRow B 59 2 (.slice a n c) n (acells ts)) (hn : n = ts.length) : AV w 0 (.slice a n c) ts := by subst hn; exact AV.ofOwn8 h
end Go.Proofs.Ytfacenfiocdbgaa
