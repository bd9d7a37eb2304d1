/-
  spanOf, RngMeet of the landed code and of the specification.
-/
import Derived.Test.YtjdpddcnogdekabEndTop
namespace Go.Proofs.Ytjdpddcnogdekab
open Go.RowKit Go.Lib
set_option linter.unusedSimpArgs false
set_option linter.unusedVariables false

def lo11 (c : Int) (ts : List AR) (rs : List RG) : Int := (far9 false c ts rs).getD 0
def hi11 (c : Int) (ts : List AR) (rs : List RG) : Int := (far9 true c ts rs).getD 0
def has11 (c : Int) (ts : List AR) (rs : List RG) : Bool := (far9 false c ts rs).isSome
theorem has11_t (c : Int) (ts : List AR) (rs : List RG) : (far9 true c ts rs).isSome = has11 c ts rs := by
  unfold has11 far9
  cases (affOk8 c ts && waysOk9 rs && ts.all fun t => hasR9 rs t.s) <;> rfl
def rngMeet11 (c : Int) (ts : List AR) (d : Int) (us : List AR) (rs : List RG) : Bool :=
  has11 c ts rs && has11 d us rs && decide (lo11 c ts rs ≤ hi11 d us rs) && decide (lo11 d us rs ≤ hi11 c ts rs)
/-- Two boxes of sums and the row of ranges. -/
structure Two11 (w0 w : World) (n m : Nat) (c d : Int) (va vb vr : Value) (ts us : List AR) (rs : List RG) : Prop where
  r1 : w.rangeAt n 0 [.int .i64 c, va]
  r2 : w.rangeAt m 0 [.int .i64 d, vb]
  a1 : AV w 0 va ts
  a2 : AV w 0 vb us
  rr : RV w 0 vr rs
  low : Below w0.heap.size w0 w
theorem Two11.later {w0 w w' : World} {n m : Nat} {c d : Int} {va vb vr : Value} {ts us : List AR} {rs : List RG} (h : Two11 w0 w n m c d va vb vr ts us rs) (hb : Below w.heap.size w w') : Two11 w0 w' n m c d va vb vr ts us rs :=
  ⟨rangeAt_later h.r1 hb, rangeAt_later h.r2 hb, h.a1.later hb, h.a2.later hb, h.rr.later hb, h.low.trans (hb.mono h.low.size)⟩
theorem Two11.start (w : World) (c d : Int) {va vb vr : Value} {ts us : List AR} {rs : List RG} (t : TypeId) (ha : AV w 0 va ts) (hb : AV w 0 vb us) (hr : RV w 0 vr rs) :
    Two11 w ((w.alloc (.cells #[.int .i64 c, va] t)).alloc (.cells #[.int .i64 d, vb] t)) w.heap.size (w.heap.size + 1) c d va vb vr ts us rs := by
  obtain ⟨q0, q1⟩ := heap2q w (.cells #[.int .i64 c, va] t) (.cells #[.int .i64 d, vb] t)
  have hb2 : Below w.heap.size w ((w.alloc (.cells #[.int .i64 c, va] t)).alloc (.cells #[.int .i64 d, vb] t)) := (alloc_below w _).alloc (by simp) _
  exact ⟨blk_range (arr := #[.int .i64 c, va]) q0, blk_range (arr := #[.int .i64 d, vb]) q1, ha.later hb2, hb.later hb2, hr.later hb2, hb2⟩
theorem RV.nil11 (w : World) : RV w 0 (.slice Option.none 0 0) [] := ⟨_, _, rfl, Nat.le_refl _, .inl rfl⟩
theorem cellC11 {w : World} {n : Nat} {a b : Value} (h : w.rangeAt n 0 [a, b]) : w.cell? ⟨n, 0, Option.none⟩ = some a := h 0 _ rfl
theorem cellT11 {w : World} {n : Nat} {a b : Value} (h : w.rangeAt n 0 [a, b]) : w.cell? ⟨n, 1, Option.none⟩ = some b := h 1 _ rfl
end Go.Proofs.Ytjdpddcnogdekab
