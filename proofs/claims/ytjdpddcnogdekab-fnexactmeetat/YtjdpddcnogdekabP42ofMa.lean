/-
  Texts in one: MtRng, Words.
-/
import Derived.Test.YtjdpddcnogdekabEndTop
import Derived.Test.YtjdpddcnogdekabRows
import Derived.WalkKit
import Derived.WalkLawsBesides
import Derived.Laws.BitsLemmas
/-
  spanOf, RngMeet of the landed code and of the specification.
-/
namespace Go.Proofs.Ytjdpddcnogdekab
open Go.RowKit Go.Lib
set_option linter.unusedSimpArgs false
set_option linter.unusedVariables false

def lo11 (c : Int) (ts : List AR) (rs : List RG) : Int := (far9 false c ts rs).getD 0
def hi11 (c : Int) (ts : List AR) (rs : List RG) : Int := (far9 true c ts rs).getD 0
def has11 (c : Int) (ts : List AR) (rs : List RG) : Bool := (far9 false c ts rs).isSome
theorem has11_t (c : Int) (ts : List AR) (rs : List RG) : (far9 true c ts rs).isSome = has11 c ts rs := by
  unfold has11 far9
  cases (affOk8 c ts && waysOk9 rs && ts.all fun t => hasR9 rs t.s) <;> rfl
def rngMeet11 (c : Int) (ts : List AR) (d : Int) (us : List AR) (rs : List RG) : Bool :=
  has11 c ts rs && has11 d us rs && decide (lo11 c ts rs ≤ hi11 d us rs) && decide (lo11 d us rs ≤ hi11 c ts rs)
/-- Two boxes of sums and the row of ranges. -/
structure Two11 (w0 w : World) (n m : Nat) (c d : Int) (va vb vr : Value) (ts us : List AR) (rs : List RG) : Prop where
  r1 : w.rangeAt n 0 [.int .i64 c, va]
  r2 : w.rangeAt m 0 [.int .i64 d, vb]
  a1 : AV w 0 va ts
  a2 : AV w 0 vb us
  rr : RV w 0 vr rs
  low : Below w0.heap.size w0 w
theorem Two11.later {w0 w w' : World} {n m : Nat} {c d : Int} {va vb vr : Value} {ts us : List AR} {rs : List RG} (h : Two11 w0 w n m c d va vb vr ts us rs) (hb : Below w.heap.size w w') : Two11 w0 w' n m c d va vb vr ts us rs :=
  ⟨rangeAt_later h.r1 hb, rangeAt_later h.r2 hb, h.a1.later hb, h.a2.later hb, h.rr.later hb, h.low.trans (hb.mono h.low.size)⟩
theorem Two11.start (w : World) (c d : Int) {va vb vr : Value} {ts us : List AR} {rs : List RG} (t : TypeId) (ha : AV w 0 va ts) (hb : AV w 0 vb us) (hr : RV w 0 vr rs) :
    Two11 w ((w.alloc (.cells #[.int .i64 c, va] t)).alloc (.cells #[.int .i64 d, vb] t)) w.heap.size (w.heap.size + 1) c d va vb vr ts us rs := by
  obtain ⟨q0, q1⟩ := heap2q w (.cells #[.int .i64 c, va] t) (.cells #[.int .i64 d, vb] t)
  have hb2 : Below w.heap.size w ((w.alloc (.cells #[.int .i64 c, va] t)).alloc (.cells #[.int .i64 d, vb] t)) := (alloc_below w _).alloc (by simp) _
  exact ⟨blk_range (arr := #[.int .i64 c, va]) q0, blk_range (arr := #[.int .i64 d, vb]) q1, ha.later hb2, hb.later hb2, hr.later hb2, hb2⟩
theorem RV.nil11 (w : World) : RV w 0 (.slice Option.none 0 0) [] := ⟨_, _, rfl, Nat.le_refl _, .inl rfl⟩
theorem cellC11 {w : World} {n : Nat} {a b : Value} (h : w.rangeAt n 0 [a, b]) : w.cell? ⟨n, 0, Option.none⟩ = some a := h 0 _ rfl
theorem cellT11 {w : World} {n : Nat} {a b : Value} (h : w.rangeAt n 0 [a, b]) : w.cell? ⟨n, 1, Option.none⟩ = some b := h 1 _ rfl
end Go.Proofs.Ytjdpddcnogdekab
/-
  The contracts of the numbers that go round: spec.Wrap and impl.Wrap of any int answer the one word that is as many times 4294967296 away; AddW, SubW, MulW answer it of the sum, the difference, the product of both words.
-/
namespace Go.Proofs.Ytjdpddcnogdekab
open Go.RowKit

theorem i64_and32 (n : Int) : bits .and .i64 n 4294967295 = n % 4294967296 := by
  have h32 : (BitVec.ofInt 64 4294967295).toNat = 2 ^ 32 - 1 := by decide
  have key : (BitVec.ofInt 64 n &&& BitVec.ofInt 64 4294967295).toNat = (n % ((2 ^ 64 : Nat) : Int)).toNat % 2 ^ 32 := by
    rw [BitVec.toNat_and, BitVec.toNat_ofInt, h32, Nat.and_two_pow_sub_one_eq_mod]
  show IntKind.i64.wrap ((BitVec.ofInt 64 n &&& BitVec.ofInt 64 4294967295).toNat : Nat) = n % 4294967296
  rw [key, IntKind.wrap_i64]
  omega
theorem wrap32_bdW (n : Int) : -2147483648 ≤ wrap32 n ∧ wrap32 n ≤ 2147483647 := by unfold wrap32; omega
theorem mul_bdW (a b : Int) (ha0 : -2147483648 ≤ a) (ha : a ≤ 2147483647) (hb0 : -2147483648 ≤ b) (hb : b ≤ 2147483647) : -9223372036854775808 ≤ a * b ∧ a * b ≤ 9223372036854775807 := by
  have h1 : a.natAbs ≤ 2147483648 := by omega
  have h2 : b.natAbs ≤ 2147483648 := by omega
  have h3 : (a * b).natAbs ≤ 2147483648 * 2147483648 := by rw [Int.natAbs_mul]; exact Nat.mul_le_mul h1 h2
  omega
theorem ret_intV {k : IntKind} {a b : Int} (h : a = b) : Ending.returned (.int k a) = .returned (.int k b) := by rw [h]

theorem wrap_mul (a b : Int) : wrap64 (wrap32 a * wrap32 b) = wrap32 a * wrap32 b := by
  have ha := wrap32_bdW a
  have hb := wrap32_bdW b
  have := mul_bdW _ _ ha.1 ha.2 hb.1 hb.2
  unfold wrap64
  omega
end Go.Proofs.Ytjdpddcnogdekab
