/-
  Texts in one: TermRow, AffArg.
-/
import Derived.Test.YtjdpddcnogdekaaGreatP03ofMx
import Derived.Test.YtjdpddcnogdekaaGreatP07ofMx
/-
  Rows of terms (a name and a number each): their sizes, copies, and whether they are the same; rows that came in, opened.
-/
namespace Go.Proofs.YtjdpddcnogdekaaGreat
open Go.RowKit Go.Lib
set_option linter.unusedSimpArgs false
set_option linter.unusedVariables false

theorem infoIT8 : (Tryz.prog.info? 70).map (fun i => (i.zero, i.size, i.bytes)) = some (some (.agg #[.string ⟨#[]⟩, .int .i64 0]), 2, 24) := by kernel_rfl
theorem sizeIT8 : (Tryz.prog.info? 70).map (·.size) = some 2 := by kernel_rfl
end Go.Proofs.YtjdpddcnogdekaaGreat
namespace Go.Proofs.YtjdpddcnogdekaaGreat
open Go.ChangeShapes Go.WideShapes Go.ChangeAt Go.RowKit
section
variable {H : Type} {enc : TypeId × Value → H} {W : World} {sp : Nat → Bool} {held : Bool}
end
end Go.Proofs.YtjdpddcnogdekaaGreat
/-
  Straight sums as arguments: their size, their copies, whether they are the same; sums that came in, opened.
-/
namespace Go.Proofs.YtjdpddcnogdekaaGreat
open Go.RowKit Go.Lib
set_option linter.unusedSimpArgs false
set_option linter.unusedVariables false

theorem sizeIA8 : (Tryz.prog.info? 26).map (·.size) = some 2 := by kernel_rfl
theorem abytes_mem8 {ts : List AR} {t : AR} (h : t ∈ ts) : t.s.size ≤ abytes ts := by
  induction ts with
  | nil => simp at h
  | cons u us ih =>
    rcases List.mem_cons.1 h with rfl | h
    · simp only [abytes]; omega
    · have := ih h; simp only [abytes]; omega
/-- A sum in two cells of a block. -/
structure At8 (w0 w : World) (n : Nat) (c : Int) (va : Value) (ts : List AR) : Prop where
  rg : w.rangeAt n 0 [.int .i64 c, va]
  av : AV w 0 va ts
  low : Below w0.heap.size w0 w
theorem At8.later {w0 w w' : World} {n : Nat} {c : Int} {va : Value} {ts : List AR} (h : At8 w0 w n c va ts) (hb : Below w.heap.size w w') : At8 w0 w' n c va ts :=
  ⟨rangeAt_later h.rg hb, h.av.later hb, h.low.trans (hb.mono h.low.size)⟩
theorem At8.start {w : World} (t : TypeId) {c : Int} {va : Value} {ts : List AR} (ha : AV w 0 va ts) : At8 w (w.alloc (.cells #[.int .i64 c, va] t)) w.heap.size c va ts :=
  ⟨blk_range (arr := #[.int .i64 c, va]) (heap_last _ _), ha.later (alloc_below _ _), alloc_below _ _⟩
end Go.Proofs.YtjdpddcnogdekaaGreat
namespace Go.Proofs.YtjdpddcnogdekaaGreat
open Go.ChangeShapes Go.WideShapes Go.ChangeAt Go.RowKit
section
variable {H : Type} {enc : TypeId × Value → H} {W : World} {sp : Nat → Bool} {held : Bool}
end
end Go.Proofs.YtjdpddcnogdekaaGreat
