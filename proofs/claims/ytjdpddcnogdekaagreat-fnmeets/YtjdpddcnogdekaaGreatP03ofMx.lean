/-
  Texts in one: AstArr, AstOpen.
-/
import Derived.Test.YtjdpddcnogdekaaGreatP02ofMx
import Derived.Deep.RegionWith
import Derived.Deep.Cut
import Derived.Deep.CutRange
import Derived.Test.YtjdpddcnogdekaaGreatP01ofMx
import Derived.ProofKit
import Derived.OpenShut
import Derived.ShutString
import Derived.ChangeOld
import Derived.Deep.Slices
/-
  Rows of arrays (a name and a size each): how they lie in memory; the contracts of szArrS, toArrS, eqArrS.
-/
namespace Go.Proofs.YtjdpddcnogdekaaGreat
open Go.RowKit Go.Lib
set_option linter.unusedSimpArgs false
set_option linter.unusedVariables false

/-- An array: its name and its size. -/
structure AR where
  s : ByteArray
  n : Int
/-- A slice that holds these arrays, at lo or above. -/
def AV (w : World) (lo : Nat) (v : Value) (ts : List AR) : Prop :=
  ∃ ao cap, v = .slice ao ts.length cap ∧ (ts = [] ∨ ∃ g off, ao = some ⟨g, off, Option.none⟩ ∧ lo ≤ g ∧ g < w.heap.size ∧ ∀ i t, ts[i]? = some t →
    w.cell? ⟨g, off + i * 2, Option.none⟩ = some (.string t.s) ∧ w.cell? ⟨g, off + i * 2 + 1, Option.none⟩ = some (.int .i64 t.n))
theorem AV.same {w w' : World} {lo lo' : Nat} {v : Value} {ts : List AR} (hlo : lo' ≤ lo) (h : AV w lo v ts) (hk : Keeps lo w w') (hz : w.heap.size ≤ w'.heap.size) : AV w' lo' v ts := by
  obtain ⟨ao, cap, hv, h⟩ := h
  refine ⟨ao, cap, hv, ?_⟩
  rcases h with h | ⟨g, off, h1, h0, h2, h3⟩
  · exact .inl h
  · refine .inr ⟨g, off, h1, Nat.le_trans hlo h0, Nat.lt_of_lt_of_le h2 hz, fun i t hi => ?_⟩
    obtain ⟨a, b⟩ := h3 i t hi
    exact ⟨hk _ _ h0 a, hk _ _ h0 b⟩
theorem AV.later {w w' : World} {lo : Nat} {v : Value} {ts : List AR} (h : AV w lo v ts) (hb : Below w.heap.size w w') : AV w' lo v ts := h.same (Nat.le_refl _) (Keeps.later hb) hb.size
theorem AV.low {w : World} {lo : Nat} {v : Value} {ts : List AR} (h : AV w lo v ts) : AV w 0 v ts := h.same (Nat.zero_le _) (Keeps.refl _ _) (Nat.le_refl _)
theorem AV.shape {w : World} {lo : Nat} {v : Value} {ts : List AR} (h : AV w lo v ts) : ∃ a c, v = .slice a ts.length c := by obtain ⟨a, c, h1, _⟩ := h; exact ⟨a, c, h1⟩
/-- How many bytes their names have together. -/
def abytes : List AR → Nat
  | [] => 0
  | t :: ts => t.s.size + abytes ts
def asize (ts : List AR) : Nat := ts.length + abytes ts
theorem abytes_snoc (ts : List AR) (t : AR) : abytes (ts ++ [t]) = abytes ts + t.s.size := by
  induction ts with
  | nil => simp [abytes]
  | cons u us ih => simp only [List.cons_append, abytes, ih]; omega
theorem abytes_take (ts : List AR) (k : Nat) : abytes (ts.take k) ≤ abytes ts := by
  induction ts generalizing k with
  | nil => simp [abytes]
  | cons u us ih => cases k with
    | zero => simp [abytes]
    | succ k => have := ih k; simp only [List.take_succ_cons, abytes]; omega
theorem take_snocA {ts : List AR} {k : Nat} {t : AR} (h : ts[k]? = some t) : ts.take (k + 1) = ts.take k ++ [t] := by
  rw [List.take_add_one, h]; rfl
/-- The cells of a row of arrays. -/
def acells : List AR → List Value
  | [] => []
  | t :: ts => .string t.s :: .int .i64 t.n :: acells ts
theorem acells_len (ts : List AR) : (acells ts).length = ts.length * 2 := by
  induction ts with
  | nil => rfl
  | cons t ts ih => simp only [acells, List.length_cons, ih]; omega
theorem acells_snoc (ts : List AR) (t : AR) : acells (ts ++ [t]) = acells ts ++ [.string t.s, .int .i64 t.n] := by
  induction ts with
  | nil => rfl
  | cons u us ih => simp only [List.cons_append, acells, ih]
theorem acells_get (ts : List AR) : ∀ i t, ts[i]? = some t → (acells ts)[i * 2]? = some (.string t.s) ∧ (acells ts)[i * 2 + 1]? = some (.int .i64 t.n) := by
  induction ts with
  | nil => intro i t h; simp at h
  | cons u us ih =>
    intro i t h
    cases i with
    | zero => simp at h; subst h; exact ⟨rfl, rfl⟩
    | succ i =>
      have := ih i t (by simpa using h)
      rw [show (i + 1) * 2 = i * 2 + 2 by omega]
      simpa [acells] using this
theorem AV.laid {w : World} {g c : Nat} {ts : List AR} (hg : g < w.heap.size) (hr : w.rangeAt g 0 (acells ts)) : AV w g (.slice (some ⟨g, 0, Option.none⟩) ts.length c) ts :=
  ⟨_, c, rfl, .inr ⟨g, 0, rfl, Nat.le_refl _, hg, fun i t hi => ⟨hr _ _ (acells_get ts i t hi).1, by have := hr _ _ (acells_get ts i t hi).2; rwa [← Nat.add_assoc] at this⟩⟩⟩
theorem all2 (t : ByteArray) (k : Int) : (#[.string t, .int .i64 k] : Array Value).all (·.oneCell') = true :=
  all_oneCell_toArray (cs := [.string t, .int .i64 k]) (fun v hv => by
    simp only [List.mem_cons, List.not_mem_nil, or_false] at hv
    rcases hv with rfl | rfl <;> rfl)
end Go.Proofs.YtjdpddcnogdekaaGreat
/-
  Expressions and statements that came in, opened into trees.
-/
namespace Go.Proofs.YtjdpddcnogdekaaGreat
open Go.ChangeShapes Go.WideShapes Go.ChangeAt Go.RowKit
set_option linter.unusedSimpArgs false
set_option linter.unusedVariables false

theorem cI : Tryz.prog.cellsOf 3 = 1 := by kernel_rfl
theorem cT : Tryz.prog.cellsOf 9 = 1 := by kernel_rfl
theorem part_get {cs xs : List Value} {o n : Nat} (h : (cs.drop o).take n = xs) : ∀ j u, xs[j]? = some u → cs[o + j]? = some u := by
  intro j u hj
  rw [← h, List.getElem?_take] at hj
  split at hj
  · rw [List.getElem?_drop] at hj; exact hj
  · cases hj
theorem build_exps {W : World} {b o len : Nat} (each : ∀ i, i < len → ∃ x : X, xok x ∧ XC W 0 x b (o + i * 4)) : ∀ d, d ≤ len → ∃ R : EF, elen R = d ∧ eok R ∧ EIn W 0 R b (o + (len - d) * 4)
  | 0, _ => ⟨.nil, rfl, trivial, trivial⟩
  | d + 1, hd => by
    obtain ⟨R, h1, h2, h3⟩ := build_exps each d (by omega)
    obtain ⟨x, k, hx⟩ := each (len - (d + 1)) (by omega)
    refine ⟨.node 0 0 x.h x.l R, by simp only [elen]; omega, ⟨k.1, k.2.1, k.2.2, h2⟩, EIn_node.2 ⟨hx, ?_⟩⟩
    rw [show o + (len - (d + 1)) * 4 + 4 = o + (len - d) * 4 by omega]; exact h3
theorem build_stmts {W : World} {b o len : Nat} (each : ∀ i, i < len → ∃ (h : SH) (l : SF), (h.s.size ≤ 9223372036854775807 ∧ xok h.x1 ∧ xok h.x2 ∧ xok h.x3 ∧ xok h.x4 ∧ slen l ≤ 9223372036854775807 ∧ sok l) ∧ SC W 0 h l b (o + i * 19)) : ∀ d, d ≤ len → ∃ R : SF, slen R = d ∧ sok R ∧ SIn W 0 R b (o + (len - d) * 19)
  | 0, _ => ⟨.nil, rfl, trivial, trivial⟩
  | d + 1, hd => by
    obtain ⟨R, h1, h2, h3⟩ := build_stmts each d (by omega)
    obtain ⟨h, l, ⟨k1, k2, k3, k4, k5, k6, k7⟩, hx⟩ := each (len - (d + 1)) (by omega)
    refine ⟨.node 0 0 h l R, by simp only [slen]; omega, ⟨k1, k2, k3, k4, k5, k6, k7, h2⟩, SIn_node.2 ⟨hx, ?_⟩⟩
    rw [show o + (len - (d + 1)) * 19 + 19 = o + (len - d) * 19 by omega]; exact h3
section
variable {H : Type} {enc : TypeId × Value → H} {W : World} {sp : Nat → Bool} {held : Bool}
end
end Go.Proofs.YtjdpddcnogdekaaGreat
