/-
  Texts in one: AstCount, AstAll.
-/
import Derived.Test.YtjdpddcnogdekaaGreatP24ofMx
import Derived.Test.YtjdpddcnogdekaaGreatP06ofMx
import Derived.OneCell
import Derived.Test.YtjdpddcnogdekaaGreatP31ofMx
import Derived.Deep.AppendLies
/-
  The contract of the landed code's countAll over statements, and of its Size.
-/
namespace Go.Proofs.YtjdpddcnogdekaaGreat
open Go.RowKit Go.Lib
set_option linter.unusedSimpArgs false
set_option linter.unusedVariables false

/-- A variable of its own that holds a number. -/
abbrev NumAt (w : World) (b : Nat) (c : Int) : Prop := w.heap[b]? = some (.cells #[.int .i64 c] 3 (0, 0))
theorem below_boxset {w : World} {cb : Nat} {o : Obj} {c d : Int} (hc : NumAt w cb c) : NumAt ((w.setCell ⟨cb, 0, Option.none⟩ (.int .i64 d)).alloc o) cb d ∧ Gap cb (cb + 1) w ((w.setCell ⟨cb, 0, Option.none⟩ (.int .i64 d)).alloc o) := by
  have hlt := lt_of_block hc
  refine ⟨(Below.heap_alloc _ _ cb (by simpa using hlt)).trans (one_setCell hc), rfl, rfl, rfl, by simp, fun k hk hk2 => ?_⟩
  rw [Below.heap_alloc _ _ _ (by simpa using hk), Below.heap_setCell _ _ _ _ (show k ≠ cb by omega)]
theorem new_num (w : World) (c : Int) : NumAt (w.alloc (.cells #[.int .i64 c] 3)) w.heap.size c ∧ Below w.heap.size w (w.alloc (.cells #[.int .i64 c] 3)) := ⟨by show (w.heap.push _)[w.heap.size]? = _; simp, alloc_below _ _⟩
theorem gap_own {w W w' : World} (hb : Below w.heap.size w W) (hg : Gap w.heap.size W.heap.size W w') : Below w.heap.size w w' := hb.trans (hg.below (Nat.le_refl _) hb.size)
end Go.Proofs.YtjdpddcnogdekaaGreat
/-
  The contract of the landed code's sameAll over expressions, and of its SameExp.
-/
namespace Go.Proofs.YtjdpddcnogdekaaGreat
open Go.RowKit Go.Lib
set_option linter.unusedSimpArgs false
set_option linter.unusedVariables false

/-- What is left to do: two rows of expressions each, in their slices. -/
abbrev TdE := List ((EF × EF) × (Value × Value))
def flatE (td : TdE) : List Value := td.flatMap (fun p => [p.2.1, p.2.2])
def sumE : TdE → Nat
  | [] => 0
  | p :: r => enodes p.1.1 + sumE r
def allE (td : TdE) : Bool := td.all (fun p => esame p.1.1 p.1.2)
theorem flatE_length (td : TdE) : (flatE td).length = td.length * 2 := by
  induction td with
  | nil => rfl
  | cons p r ih => simp only [flatE, List.flatMap_cons, List.length_append, List.length_cons, List.length_nil] at ih ⊢; omega
theorem flatE_app (a b : TdE) : flatE (a ++ b) = flatE a ++ flatE b := by simp [flatE]
theorem sumE_app (a b : TdE) : sumE (a ++ b) = sumE a + sumE b := by
  induction a with
  | nil => simp [sumE]
  | cons p a ih => simp only [List.cons_append, sumE, ih]; omega
theorem allE_app (a b : TdE) : allE (a ++ b) = (allE a && allE b) := by simp [allE]
/-- The state between two rounds. -/
structure SamS (w : World) (A : Bool) (td : TdE) (m B : Nat) : Prop where
  all : ∀ p ∈ td, EV w 0 p.1.1 p.2.1 ∧ EV w 0 p.1.2 p.2.2
  ans : A = allE td
  len : td.length + sumE td = m
  big : m ≤ B
/-- Within a round. -/
structure SamR (w : World) (A : Bool) (td : TdE) (m B : Nat) (R S G : EF) (k b1 o1 b2 o2 : Nat) : Prop where
  all : ∀ p ∈ td, EV w 0 p.1.1 p.2.1 ∧ EV w 0 p.1.2 p.2.2
  ans : A = (allE td && esame R S)
  len : td.length + sumE td + enodes R + 1 = m
  big : m ≤ B
  at1 : EIn w 0 R b1 (o1 + k * 4)
  at2 : EIn w 0 S b2 (o2 + k * 4)
  num : k + elen R = elen G
  eqn : elen R = elen S
theorem SamS.pop {w : World} {A : Bool} {td : TdE} {m B b1 o1 b2 o2 : Nat} {p : (EF × EF) × (Value × Value)} (h : SamS w A (td ++ [p]) m B) (hl : elen p.1.1 = elen p.1.2) (i1 : EIn w 0 p.1.1 b1 o1) (i2 : EIn w 0 p.1.2 b2 o2) : SamR w A td m B p.1.1 p.1.2 p.1.1 0 b1 o1 b2 o2 := by
  have h1 := h.ans; have h2 := h.len
  rw [allE_app] at h1
  rw [sumE_app] at h2
  simp only [sumE, List.length_append, List.length_cons, List.length_nil] at h2
  exact ⟨fun q hq => h.all q (List.mem_append_left _ hq), by rw [h1]; simp [allE], by omega, h.big, by simpa using i1, by simpa using i2, by omega, hl⟩
theorem SamS.diff {w : World} {A : Bool} {td : TdE} {m B : Nat} {p : (EF × EF) × (Value × Value)} (h : SamS w A (td ++ [p]) m B) (hl : ¬ elen p.1.1 = elen p.1.2) : A = false := by
  rw [h.ans, allE_app]; simp [allE, esame_diff hl]
theorem SamR.stop {w : World} {A : Bool} {td : TdE} {m B p q p' q' : Nat} {h h' : EH} {l r l' r' G : EF} {k b1 o1 b2 o2 : Nat} (hr : SamR w A td m B (.node p q h l r) (.node p' q' h' l' r') G k b1 o1 b2 o2) (he : hsame h h' = false) : A = false := by
  rw [hr.ans]; simp [esame, he]
theorem SamR.push {w : World} {A : Bool} {td : TdE} {m B p q p' q' : Nat} {h h' : EH} {l r l' r' G : EF} {k b1 o1 b2 o2 : Nat} {u u' : Value} (hr : SamR w A td m B (.node p q h l r) (.node p' q' h' l' r') G k b1 o1 b2 o2) (he : hsame h h' = true) (h1 : EV w 0 l u) (h2 : EV w 0 l' u') : SamR w A (td ++ [((l, l'), (u, u'))]) m B r r' G (k + 1) b1 o1 b2 o2 := by
  have e1 := hr.ans; have e2 := hr.len; have e3 := hr.num; have e4 := hr.eqn
  simp only [enodes, elen] at e2 e3 e4
  refine ⟨fun q hq => ?_, ?_, ?_, hr.big, ?_, ?_, by omega, by omega⟩
  · rcases List.mem_append.1 hq with hq | hq
    · exact hr.all q hq
    · simp only [List.mem_cons, List.not_mem_nil, or_false] at hq; subst hq; exact ⟨h1, h2⟩
  · rw [e1, allE_app]; simp [allE, esame, he, Bool.and_assoc]
  · rw [sumE_app]; simp only [sumE, List.length_append, List.length_cons, List.length_nil]; omega
  · rw [show o1 + (k + 1) * 4 = o1 + k * 4 + 4 by omega]; exact (EIn_node.1 hr.at1).2
  · rw [show o2 + (k + 1) * 4 = o2 + k * 4 + 4 by omega]; exact (EIn_node.1 hr.at2).2
theorem SamR.done {w : World} {A : Bool} {td : TdE} {m B : Nat} {S G : EF} {k b1 o1 b2 o2 : Nat} (hr : SamR w A td m B .nil S G k b1 o1 b2 o2) : SamS w A td (m - 1) B := by
  have e1 := hr.ans; have e2 := hr.len; have e4 := hr.eqn; have e5 := hr.big
  cases S with
  | nil => simp only [enodes] at e2; exact ⟨hr.all, by rw [e1]; simp [esame], by omega, by omega⟩
  | node _ _ _ _ _ => simp only [elen] at e4; omega
/-- The world in which the first two rows lie. -/
def startE (w : World) (A C : Array Value) (t : TypeId) : World := (((w.alloc (.cells A t)).alloc (.cells C t)).alloc (.cells A t)).alloc (.cells C t)
theorem startE_is (w : World) (A C : Array Value) (t : TypeId) : (startE w A C t).rangeAt (w.heap.size + 2) 0 A.toList ∧ (startE w A C t).rangeAt (w.heap.size + 3) 0 C.toList ∧ Below w.heap.size w (startE w A C t) ∧ (startE w A C t).heap.size = w.heap.size + 4 := by
  have e : ∀ (v : World) (o : Obj), (v.alloc o).heap[v.heap.size]? = some o := fun v o => by show (v.heap.push o)[v.heap.size]? = _; simp
  have s2 : ((w.alloc (.cells A t)).alloc (.cells C t)).heap.size = w.heap.size + 2 := by simp
  have s3 : (((w.alloc (.cells A t)).alloc (.cells C t)).alloc (.cells A t)).heap.size = w.heap.size + 3 := by simp
  have q2 : (startE w A C t).heap[w.heap.size + 2]? = some (.cells A t) := by unfold startE; rw [Below.heap_alloc _ _ _ (by rw [s3]; omega), ← s2]; exact e _ _
  have q3 : (startE w A C t).heap[w.heap.size + 3]? = some (.cells C t) := by unfold startE; rw [← s3]; exact e _ _
  refine ⟨blk_range q2, blk_range q3, ?_, by unfold startE; simp⟩
  exact (((alloc_below w _).alloc (by simp) _).alloc (by rw [s2]; omega) _).alloc (by rw [s3]; omega) _
theorem new2 (w : World) (u v : Value) (t : TypeId) : ∀ j x, [u, v][j]? = some x → (w.alloc (.cells #[u, v] t)).cell? ((⟨w.heap.size, 0, Option.none⟩ : Addr).add j) = some x := by
  intro j x h
  have e : (w.alloc (.cells #[u, v] t)).heap[w.heap.size]? = some (.cells #[u, v] t (0, 0)) := by show (w.heap.push _)[w.heap.size]? = _; simp
  have e2 : ((⟨w.heap.size, 0, Option.none⟩ : Addr).add j) = ⟨w.heap.size, j, Option.none⟩ := by simp [Addr.add]; omega
  rw [e2]
  simp only [World.cell?, e]
  match j, h with
  | 0, h => simpa using h
  | 1, h => simpa using h
  | j + 2, h => simp at h
/-- What is known of the variable that holds the two rows of a round, while more is laid. -/
structure Nxt (w : World) (t : Value) (n : Nat) (vb : Value) : Prop where
  c : w.cell? ⟨n, 1, Option.none⟩ = some vb
  lt : n < w.heap.size
  ne : ∀ g, t.ownBlock = some g → g ≠ n
theorem Nxt.later {w w' : World} {t : Value} {n : Nat} {vb : Value} (h : Nxt w t n vb) (hb : Below w.heap.size w w') : Nxt w' t n vb := ⟨keeps hb h.c, Nat.lt_of_lt_of_le h.lt hb.size, h.ne⟩
theorem range_grown {w w6 : World} {r : Option Nat} {n o : Nat} {cs : List Value} (h : w.rangeAt n o cs) (hg : w.grownBy w6 r) (hne : r ≠ some n) : w6.rangeAt n o cs := fun j v hv => by
  have hc := h j v hv
  have e := hg.block n (lt_of_cellA hc) (fun e => hne e.symm)
  simp only [World.cell?, e] at hc ⊢
  exact hc
/-- One more to do. -/
theorem snocE {w1 w5 w6 : World} {g cap : Nat} {td : TdE} {t u u' : Value} {l l' : EF} {o : Obj} {e : TypeId} {n : Nat} {vb : Value} (hown : w5.ownsRow w1.heap.size e 2 t td.length (flatE td)) (hb : Below w1.heap.size w1 w5) (hg : (w5.alloc o).grownBy w6 t.ownBlock)
    (hat : t.ownBlock = some g ∨ g = w5.heap.size + 1) (hx : Nxt w5 t n vb)
    (h : w6.ownsRow w1.heap.size e 2 (.slice (some ⟨g, 0, Option.none⟩) (td.length + 1) cap) (td.length + 1) (flatE td ++ [u, u'])) :
    w6.ownsRow w1.heap.size e 2 (.slice (some ⟨g, 0, Option.none⟩) (td.length + 1) cap) (td ++ [((l, l'), (u, u'))]).length (flatE (td ++ [((l, l'), (u, u'))])) ∧ Below w1.heap.size w1 w6 ∧ Nxt w6 (.slice (some ⟨g, 0, Option.none⟩) (td.length + 1) cap) n vb := by
  refine ⟨by rw [List.length_append, flatE_app]; exact h, (hb.alloc hb.size o).grown hg (by have := hb.size; simp; omega) (fun k hk => (hown.lt k hk).1), ⟨?_, ?_, ?_⟩⟩
  · have e1 : w6.heap[n]? = (w5.alloc o).heap[n]? := hg.block n (by have := hx.lt; simp; omega) (fun e => hx.ne n e.symm rfl)
    have e2 : (w5.alloc o).heap[n]? = w5.heap[n]? := Below.heap_alloc _ _ _ hx.lt
    have := hx.c
    simp only [World.cell?, e1, e2] at this ⊢
    exact this
  · have := hg.size; have := hx.lt; simp at *; omega
  · intro g' hg'
    have : g' = g := by simpa [Value.ownBlock] using hg'.symm
    subst this
    rcases hat with h1 | h1
    · exact hx.ne _ h1
    · have := hx.lt; omega
end Go.Proofs.YtjdpddcnogdekaaGreat
