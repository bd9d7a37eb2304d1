/-
  Programs that came in, opened; a program in two cells.
-/
import Derived.Test.YtjdpddcnogdekabAstOpen
import Derived.Test.YtjdpddcnogdekabAstProg
namespace Go.Proofs.Ytjdpddcnogdekab
open Go.ChangeShapes Go.WideShapes Go.ChangeAt Go.RowKit
set_option linter.unusedSimpArgs false
set_option linter.unusedVariables false

section
variable {H : Type} {enc : TypeId × Value → H} {W : World} {sp : Nat → Bool} {held : Bool}
theorem build_arrs {b o len : Nat} (each : ∀ i, i < len → ∃ t : AR, t.s.size ≤ 9223372036854775807 ∧ W.cell? ⟨b, o + i * 2, Option.none⟩ = some (.string t.s) ∧ W.cell? ⟨b, o + i * 2 + 1, Option.none⟩ = some (.int .i64 t.n)) :
    ∀ d, d ≤ len → ∃ R : List AR, R.length = d ∧ (∀ t ∈ R, t.s.size ≤ 9223372036854775807) ∧ ∀ i t, R[i]? = some t → W.cell? ⟨b, o + i * 2, Option.none⟩ = some (.string t.s) ∧ W.cell? ⟨b, o + i * 2 + 1, Option.none⟩ = some (.int .i64 t.n)
  | 0, _ => ⟨[], rfl, fun _ h => by simp at h, fun i t h => by simp at h⟩
  | d + 1, hd => by
    obtain ⟨R, h1, h2, h3⟩ := build_arrs each d (by omega)
    obtain ⟨t, k, c0, c1⟩ := each d (by omega)
    refine ⟨R ++ [t], by simp [h1], fun u hu => ?_, fun i u hu => ?_⟩
    · rcases List.mem_append.1 hu with hu | hu
      · exact h2 u hu
      · simp only [List.mem_cons, List.not_mem_nil, or_false] at hu; subst hu; exact k
    · rcases Nat.lt_or_ge i R.length with hi | hi
      · rw [List.getElem?_append_left hi] at hu; exact h3 i u hu
      · rw [List.getElem?_append_right hi] at hu
        have hi2 : i = d := by have := (List.getElem?_eq_some_iff.1 hu).1; simp at this; omega
        subst hi2
        rw [h1, Nat.sub_self] at hu
        simp at hu; subst hu; exact ⟨c0, c1⟩
end
/-- A program in two cells of a block. -/
structure Pt (w0 w : World) (n : Nat) (va vb : Value) (ts : List AR) (F : SF) : Prop where
  rg : w.rangeAt n 0 [va, vb]
  av : AV w 0 va ts
  sv : SV w 0 F vb
  low : Below w0.heap.size w0 w
theorem Pt.later {w0 w w' : World} {n : Nat} {va vb : Value} {ts : List AR} {F : SF} (h : Pt w0 w n va vb ts F) (hb : Below w.heap.size w w') : Pt w0 w' n va vb ts F :=
  ⟨rangeAt_later h.rg hb, h.av.later hb, h.sv.later hb, h.low.trans (hb.mono h.low.size)⟩
theorem Pt.start {w : World} (t : TypeId) {va vb : Value} {ts : List AR} {F : SF} (ha : AV w 0 va ts) (hb : SV w 0 F vb) : Pt w (w.alloc (.cells #[va, vb] t)) w.heap.size va vb ts F :=
  ⟨blk_range (arr := #[va, vb]) (heap_last _ _), ha.later (alloc_below _ _), hb.later (alloc_below _ _), alloc_below _ _⟩
theorem newblk2 {w W : World} {t : TypeId} {x y : Value} (a b : Value) (hW : (w.alloc (.cells #[x, y] t)).setCells w.heap.size 0 [a, b] = W) : W.rangeAt w.heap.size 0 [a, b] ∧ Below w.heap.size w W := by
  subst hW
  exact ⟨World.rangeAt_setCells_same _ _ _ _ (blk_there (arr := #[x, y]) (t := t) (heap_last _ _) (Nat.le_refl 2)), below_sets _ _ (alloc_below _ _) (Nat.le_refl _)⟩
theorem oneP {a b : Value} (ha : a.oneCell' = true) (hb : b.oneCell' = true) : (#[a, b] : Array Value).all (·.oneCell') = true :=
  all_oneCell_toArray (cs := [a, b]) (fun v hv => by
    simp only [List.mem_cons, List.not_mem_nil, or_false] at hv
    rcases hv with rfl | rfl <;> assumption)
theorem AV.isOne {w : World} {lo : Nat} {v : Value} {ts : List AR} (h : AV w lo v ts) : v.oneCell' = true := by obtain ⟨a, c, rfl⟩ := h.shape; rfl
end Go.Proofs.Ytjdpddcnogdekab
