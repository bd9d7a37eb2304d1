/-
  Texts in one: AstProg, AstPOpen.
-/
import Derived.Test.YtjdpddcnogdekaaGreatP03ofMx
import Derived.Test.YtjdpddcnogdekaaGreatP04ofMx
import Derived.Test.YtjdpddcnogdekaaGreatP05ofMx
import Derived.Test.YtjdpddcnogdekaaGreatP06ofMx
/-
  Programs: the contracts of szProg, toProg, eqProg, and of ArrAt, the specification's and the landed code's.
-/
namespace Go.Proofs.YtjdpddcnogdekaaGreat
open Go.RowKit Go.Lib
set_option linter.unusedSimpArgs false
set_option linter.unusedVariables false

theorem heap_last (v : World) (o : Obj) : (v.alloc o).heap[v.heap.size]? = some o := by show (v.heap.push o)[v.heap.size]? = _; simp
theorem blk2 {w : World} {b : Nat} {x y : Value} {t : TypeId} (h : w.heap[b]? = some (.cells #[x, y] t (0, 0))) :
    (w.cell? ⟨b, 0, Option.none⟩ = some x ∧ w.cell? ⟨b, 1, Option.none⟩ = some y) ∧ w.frozen? ⟨b, 0, Option.none⟩ = false ∧ w.frozen? ⟨b, 1, Option.none⟩ = false := by
  simp [World.cell?, World.frozen?, h]
theorem there_keep {w : World} {b c : Nat} {o : Obj} (hne : b ≠ c) (h : w.heap[b]? = some o) (i : Nat) (v : Value) : (w.setCell ⟨c, i, Option.none⟩ v).heap[b]? = some o := by rw [Below.heap_setCell _ _ _ _ hne]; exact h
theorem blk2_set {w : World} {b : Nat} {x y : Value} {t : TypeId} (v : Value) (h : w.heap[b]? = some (.cells #[x, y] t (0, 0))) : (w.setCell ⟨b, 0, Option.none⟩ v).heap[b]? = some (.cells #[v, y] t (0, 0)) := by
  have hlt := (Array.getElem?_eq_some_iff.1 h).1
  have h' : w.heap[b] = .cells #[x, y] t (0, 0) := by simpa [Array.getElem?_eq_getElem hlt] using h
  show (w.heap.modify b _)[b]? = _
  rw [Array.getElem?_eq_getElem (by simpa using hlt), Array.getElem_modify_self, h']
  rfl
theorem set3 {w w1 : World} {N : Nat} (hb : Below w.heap.size w w1) (hN : w.heap.size = N) (p x y : Value) : Below w.heap.size w (((w1.setCell ⟨N + 2, 1, Option.none⟩ p).setCell ⟨N + 1, 0, Option.none⟩ x).setCell ⟨N + 1, 1, Option.none⟩ y) ∧
    Keeps (w.heap.size + 3) w1 (((w1.setCell ⟨N + 2, 1, Option.none⟩ p).setCell ⟨N + 1, 0, Option.none⟩ x).setCell ⟨N + 1, 1, Option.none⟩ y) ∧ w1.heap.size ≤ (((w1.setCell ⟨N + 2, 1, Option.none⟩ p).setCell ⟨N + 1, 0, Option.none⟩ x).setCell ⟨N + 1, 1, Option.none⟩ y).heap.size := by
  subst hN
  exact ⟨((hb.setCell (p := ⟨w.heap.size + 2, 1, Option.none⟩) (by simp) _).setCell (p := ⟨w.heap.size + 1, 0, Option.none⟩) (by simp) _).setCell (p := ⟨w.heap.size + 1, 1, Option.none⟩) (by simp) _,
    ((Keeps.set _ _ (by simp) _).trans (Keeps.set _ _ (by simp) _)).trans (Keeps.set _ _ (by simp) _), by simp⟩
theorem arrAt_cells {w : World} {v : Value} {ts : List AR} (h : AV w 0 v ts) (hne : ts ≠ []) : ∃ g off cap, v = .slice (some ⟨g, off, Option.none⟩) ts.length cap ∧ ∀ i t, ts[i]? = some t → w.cell? ⟨g, off + i * 2, Option.none⟩ = some (.string t.s) ∧ w.cell? ⟨g, off + i * 2 + 1, Option.none⟩ = some (.int .i64 t.n) := by
  obtain ⟨ao, cap, rfl, h⟩ := h
  rcases h with h | ⟨g, off, rfl, _, _, h3⟩
  · exact absurd h hne
  · exact ⟨g, off, cap, rfl, h3⟩
/-- Where the first of that name stands; -1. -/
def arrAt (ts : List AR) (s : ByteArray) : Int := match ts.findIdx? (fun t => t.s == s) with | some i => i | Option.none => -1
def arrGo : List AR → Nat → ByteArray → Int
  | [], _, _ => -1
  | t :: ts, k, s => if t.s = s then k else arrGo ts (k + 1) s
theorem newthere2 (w : World) (x y : Value) (t : TypeId) : (w.alloc (.cells #[x, y] t)).there w.heap.size 0 2 := blk_there (arr := #[x, y]) (t := t) (by show (w.heap.push _)[w.heap.size]? = _; simp) (Nat.le_refl 2)
end Go.Proofs.YtjdpddcnogdekaaGreat
/-
  Programs that came in, opened; a program in two cells.
-/
namespace Go.Proofs.YtjdpddcnogdekaaGreat
open Go.ChangeShapes Go.WideShapes Go.ChangeAt Go.RowKit
set_option linter.unusedSimpArgs false
set_option linter.unusedVariables false

section
variable {H : Type} {enc : TypeId × Value → H} {W : World} {sp : Nat → Bool} {held : Bool}
theorem build_arrs {b o len : Nat} (each : ∀ i, i < len → ∃ t : AR, t.s.size ≤ 9223372036854775807 ∧ W.cell? ⟨b, o + i * 2, Option.none⟩ = some (.string t.s) ∧ W.cell? ⟨b, o + i * 2 + 1, Option.none⟩ = some (.int .i64 t.n)) :
    ∀ d, d ≤ len → ∃ R : List AR, R.length = d ∧ (∀ t ∈ R, t.s.size ≤ 9223372036854775807) ∧ ∀ i t, R[i]? = some t → W.cell? ⟨b, o + i * 2, Option.none⟩ = some (.string t.s) ∧ W.cell? ⟨b, o + i * 2 + 1, Option.none⟩ = some (.int .i64 t.n)
  | 0, _ => ⟨[], rfl, fun _ h => by simp at h, fun i t h => by simp at h⟩
  | d + 1, hd => by
    obtain ⟨R, h1, h2, h3⟩ := build_arrs each d (by omega)
    obtain ⟨t, k, c0, c1⟩ := each d (by omega)
    refine ⟨R ++ [t], by simp [h1], fun u hu => ?_, fun i u hu => ?_⟩
    · rcases List.mem_append.1 hu with hu | hu
      · exact h2 u hu
      · simp only [List.mem_cons, List.not_mem_nil, or_false] at hu; subst hu; exact k
    · rcases Nat.lt_or_ge i R.length with hi | hi
      · rw [List.getElem?_append_left hi] at hu; exact h3 i u hu
      · rw [List.getElem?_append_right hi] at hu
        have hi2 : i = d := by have := (List.getElem?_eq_some_iff.1 hu).1; simp at this; omega
        subst hi2
        rw [h1, Nat.sub_self] at hu
        simp at hu; subst hu; exact ⟨c0, c1⟩
end
/-- A program in two cells of a block. -/
structure Pt (w0 w : World) (n : Nat) (va vb : Value) (ts : List AR) (F : SF) : Prop where
  rg : w.rangeAt n 0 [va, vb]
  av : AV w 0 va ts
  sv : SV w 0 F vb
  low : Below w0.heap.size w0 w
theorem Pt.later {w0 w w' : World} {n : Nat} {va vb : Value} {ts : List AR} {F : SF} (h : Pt w0 w n va vb ts F) (hb : Below w.heap.size w w') : Pt w0 w' n va vb ts F :=
  ⟨rangeAt_later h.rg hb, h.av.later hb, h.sv.later hb, h.low.trans (hb.mono h.low.size)⟩
theorem Pt.start {w : World} (t : TypeId) {va vb : Value} {ts : List AR} {F : SF} (ha : AV w 0 va ts) (hb : SV w 0 F vb) : Pt w (w.alloc (.cells #[va, vb] t)) w.heap.size va vb ts F :=
  ⟨blk_range (arr := #[va, vb]) (heap_last _ _), ha.later (alloc_below _ _), hb.later (alloc_below _ _), alloc_below _ _⟩
theorem newblk2 {w W : World} {t : TypeId} {x y : Value} (a b : Value) (hW : (w.alloc (.cells #[x, y] t)).setCells w.heap.size 0 [a, b] = W) : W.rangeAt w.heap.size 0 [a, b] ∧ Below w.heap.size w W := by
  subst hW
  exact ⟨World.rangeAt_setCells_same _ _ _ _ (blk_there (arr := #[x, y]) (t := t) (heap_last _ _) (Nat.le_refl 2)), below_sets _ _ (alloc_below _ _) (Nat.le_refl _)⟩
theorem oneP {a b : Value} (ha : a.oneCell' = true) (hb : b.oneCell' = true) : (#[a, b] : Array Value).all (·.oneCell') = true :=
  all_oneCell_toArray (cs := [a, b]) (fun v hv => by
    simp only [List.mem_cons, List.not_mem_nil, or_false] at hv
    rcases hv with rfl | rfl <;> assumption)
theorem AV.isOne {w : World} {lo : Nat} {v : Value} {ts : List AR} (h : AV w lo v ts) : v.oneCell' = true := by obtain ⟨a, c, rfl⟩ := h.shape; rfl
end Go.Proofs.YtjdpddcnogdekaaGreat
