/-
  What names stand for: slices.Backward, lookup.with and what it hands back.
-/
import Derived.Test.YtjdpddcnogdekabAstProg
import Derived.RangeFuncNested
import Derived.RangeFuncBound
import Derived.RangeFuncCalls
import Derived.RangeFuncLeaves
import Derived.Shelf.Abstract
import Derived.Shelf.RegionOpen
import Derived.OwnWalkIn
import Derived.TacticsInMore
import Derived.LoopNIn
import Derived.LoopIn
import Derived.RangeFuncBox
namespace Go.Proofs.Ytjdpddcnogdekab
open Go.RowKit Go.Lib Go.Shelf
set_option linter.unusedSimpArgs false
set_option linter.unusedVariables false

attribute [local go_sem] Oper.semAt_some

/-- What a name stands for: the last of its binds, else what is around. -/
def bindOf : List AR → ByteArray → Option Int
  | [], _ => none
  | b :: bs, s => if b.s = s then some b.n else bindOf bs s
def withN (bs : List AR) (nm : ByteArray → Int) (s : ByteArray) : Int := (bindOf bs.reverse s).getD (nm s)
/-- A function value that says what each name stands for, in every world that is as J says. -/
structure Lk (fv : Value) (J : World → Prop) (nm : ByteArray → Int) : Prop where
  is : ∃ (kf : Nat) (caps : Array Value), fv = .func (.func kf) #[] caps ∧ (∀ (args : Array Value) (w : World), (callFunc kf args).run Try.prog w = .ok (.enter kf args) w) ∧
    ∀ w, J w → ∀ s, Calls Try.prog kf (#[.string s] ++ caps) w fun e w' => e = .returned (.int .i64 (nm s)) ∧ Below w.heap.size w w'
  on : ∀ w w', J w → Below w.heap.size w w' → J w'
/-- What comes of binds from behind, and where each stood. -/
def bw (bs : List AR) (k : Nat) : List (Nat × AR) := (List.range k).map fun j => (bs.length - 1 - j, bs[bs.length - 1 - j]?.getD ⟨⟨#[]⟩, 0⟩)
theorem bw_succ (bs : List AR) (k : Nat) : bw bs (k + 1) = bw bs k ++ [(bs.length - 1 - k, bs[bs.length - 1 - k]?.getD ⟨⟨#[]⟩, 0⟩)] := by simp [bw, List.range_succ]
theorem bw_len (bs : List AR) (k : Nat) : (bw bs k).length = k := by simp [bw]
abbrev bencs (x : Nat × AR) : Array Value := #[.int .i64 (x.1 : Int), .agg #[.string x.2.s, .int .i64 x.2.n]]
/-- None of these is bound to the name. -/
def noneOf (s : ByteArray) (pre : List (Nat × AR)) : Prop := ∀ x ∈ pre, ¬ x.2.s = s
theorem bind_none (bs : List AR) (s : ByteArray) : ∀ k, k ≤ bs.length → noneOf s (bw bs k) → bindOf bs.reverse s = bindOf (bs.reverse.drop k) s
  | 0, _, _ => by simp
  | k + 1, hk, h => by
    rw [bw_succ] at h
    have ih := bind_none bs s k (by omega) (fun x hx => h x (List.mem_append_left _ hx))
    rw [ih]
    have hkr : k < bs.reverse.length := by simp; omega
    rw [List.drop_eq_getElem_cons hkr, bindOf]
    have h1 := h (bs.length - 1 - k, bs[bs.length - 1 - k]?.getD ⟨⟨#[]⟩, 0⟩) (List.mem_append_right _ (by simp))
    rw [List.getElem?_eq_getElem (l := bs) (i := bs.length - 1 - k) (by omega)] at h1
    have e : bs.reverse[k] = bs[bs.length - 1 - k] := by simp [List.getElem_reverse]
    rw [e]
    exact if_neg h1
theorem bind_all {bs : List AR} {s : ByteArray} (h : noneOf s (bw bs bs.length)) : bindOf bs.reverse s = none := by
  rw [bind_none bs s _ (Nat.le_refl _) h, List.drop_of_length_le (by simp)]; rfl
theorem bind_hit {bs : List AR} {s : ByteArray} {pre : List (Nat × AR)} {x : Nat × AR} {k : Nat} (hk : k ≤ bs.length) (e : pre ++ [x] = bw bs k) (h : noneOf s pre) (hx : x.2.s = s) : bindOf bs.reverse s = some x.2.n := by
  cases k with
  | zero => simp [bw] at e
  | succ k =>
    rw [bw_succ] at e
    obtain ⟨e1, e2⟩ := List.append_inj' e rfl
    subst e1
    rw [bind_none bs s k (by omega) h]
    have hkr : k < bs.reverse.length := by simp; omega
    rw [List.drop_eq_getElem_cons hkr, bindOf]
    have e3 : bs.reverse[k] = bs[bs.length - 1 - k] := by simp [List.getElem_reverse]
    simp only [List.cons.injEq, and_true] at e2
    rw [List.getElem?_eq_getElem (l := bs) (i := bs.length - 1 - k) (by omega)] at e2
    rw [e3, if_pos (by rw [e2] at hx; exact hx), e2]; rfl
theorem ownC {β : Type} {B N : Nat} {ar : Array Value} {t : TypeId} : OwnFrom B (fun (_ : β) W => W.heap[N]? = some (.cells ar t (0, 0))) := fun s W W' row hs hg hr =>
  (hg.block N (Array.getElem?_eq_some_iff.1 hs).1 (fun e => by obtain ⟨_, o, ho, hc⟩ := hr N e.symm; rw [hs] at ho; cases ho; simp [Obj.isCells] at hc)).trans hs
theorem newB2 (W : World) (x0 x1 y0 y1 : Value) (t : TypeId) : (((W.alloc (.cells #[x0, x1] t)).setCell ⟨W.heap.size, 0, Option.none⟩ y0).setCell ⟨W.heap.size, 1, Option.none⟩ y1).heap[W.heap.size]? = some (.cells #[y0, y1] t (0, 0)) := by
  have h0 : (W.alloc (.cells #[x0, x1] t)).heap[W.heap.size]? = some (.cells #[x0, x1] t (0, 0)) := by show (W.heap.push _)[W.heap.size]? = _; simp
  have h1 := Go.heap_setCell_same _ _ 0 _ _ y0 h0
  have h2 := Go.heap_setCell_same _ _ 1 _ _ y1 h1
  exact h2
theorem blkAlloc {W : World} {N : Nat} {o o' : Obj} (h : W.heap[N]? = some o) : (W.alloc o').heap[N]? = some o := (Below.heap_alloc W o' N (Array.getElem?_eq_some_iff.1 h).1).trans h
theorem blkSet {W : World} {N : Nat} {o : Obj} (p : Addr) (u : Value) (h : W.heap[N]? = some o) (hne : N ≠ p.block) : (W.setCell p u).heap[N]? = some o := (Below.heap_setCell W p u N hne).trans h
theorem cell1 {W : World} {N : Nat} {v : Value} {t : TypeId} (h : W.heap[N]? = some (.cells #[v] t (0, 0))) : W.cell? ⟨N, 0, Option.none⟩ = some v := by simp [World.cell?, h]
end Go.Proofs.Ytjdpddcnogdekab
