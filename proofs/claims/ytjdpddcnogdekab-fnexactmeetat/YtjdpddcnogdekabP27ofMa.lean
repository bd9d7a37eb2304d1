/-
  Texts in one: Words, Gcd.
-/
import Derived.Test.YtjdpddcnogdekabRows
import Derived.WalkKit
import Derived.WalkLawsBesides
import Derived.Laws.BitsLemmas
import Derived.Deep.QuietTactic
import Derived.BigQuiet
/-
  The contracts of the numbers that go round: spec.Wrap and impl.Wrap of any int answer the one word that is as many times 4294967296 away; AddW, SubW, MulW answer it of the sum, the difference, the product of both words.
-/
namespace Go.Proofs.Ytjdpddcnogdekab
open Go.RowKit

theorem i64_and32 (n : Int) : bits .and .i64 n 4294967295 = n % 4294967296 := by
  have h32 : (BitVec.ofInt 64 4294967295).toNat = 2 ^ 32 - 1 := by decide
  have key : (BitVec.ofInt 64 n &&& BitVec.ofInt 64 4294967295).toNat = (n % ((2 ^ 64 : Nat) : Int)).toNat % 2 ^ 32 := by
    rw [BitVec.toNat_and, BitVec.toNat_ofInt, h32, Nat.and_two_pow_sub_one_eq_mod]
  show IntKind.i64.wrap ((BitVec.ofInt 64 n &&& BitVec.ofInt 64 4294967295).toNat : Nat) = n % 4294967296
  rw [key, IntKind.wrap_i64]
  omega
theorem wrap32_bdW (n : Int) : -2147483648 ≤ wrap32 n ∧ wrap32 n ≤ 2147483647 := by unfold wrap32; omega
theorem mul_bdW (a b : Int) (ha0 : -2147483648 ≤ a) (ha : a ≤ 2147483647) (hb0 : -2147483648 ≤ b) (hb : b ≤ 2147483647) : -9223372036854775808 ≤ a * b ∧ a * b ≤ 9223372036854775807 := by
  have h1 : a.natAbs ≤ 2147483648 := by omega
  have h2 : b.natAbs ≤ 2147483648 := by omega
  have h3 : (a * b).natAbs ≤ 2147483648 * 2147483648 := by rw [Int.natAbs_mul]; exact Nat.mul_le_mul h1 h2
  omega
theorem ret_intV {k : IntKind} {a b : Int} (h : a = b) : Ending.returned (.int k a) = .returned (.int k b) := by rw [h]

theorem wrap_mul (a b : Int) : wrap64 (wrap32 a * wrap32 b) = wrap32 a * wrap32 b := by
  have ha := wrap32_bdW a
  have hb := wrap32_bdW b
  have := mul_bdW _ _ ha.1 ha.2 hb.1 hb.2
  unfold wrap64
  omega
end Go.Proofs.Ytjdpddcnogdekab
/-
  The contracts of the greatest that divides both: spec.Gcd and impl.Gcd of any two ints answer it of both words.
-/
namespace Go.Proofs.Ytjdpddcnogdekab
open Go.RowKit

theorem gcd_step (x y : Int) : Int.gcd y (x.tmod y) = Int.gcd x y := by
  rw [Int.gcd_comm x y]
  simp only [Int.gcd, Int.natAbs_tmod]
  rw [Nat.gcd_comm, ← Nat.gcd_rec]
theorem gcd_zero (x : Int) : (Int.gcd x 0 : Int) = if x < 0 then -x else x := by
  simp
  split <;> omega
theorem tmod_lt (x y : Int) (h : y ≠ 0) : (x.tmod y).natAbs < y.natAbs := by
  rw [Int.natAbs_tmod]
  exact Nat.mod_lt _ (by omega)
/-- the greatest that divides both words -/
def gcdW (a b : Int) : Int := (Int.gcd (wrap32 a) (wrap32 b) : Int)

theorem gcd_abs (a b : Int) : ((Int.gcd ((wrap32 a).natAbs : Int) ((wrap32 b).natAbs : Int) : Nat) : Int) = gcdW a b := by
  unfold gcdW
  simp [Int.gcd]
theorem gcd_end {p g : Int} (h : 0 ≤ p) (hg : (Int.gcd p 0 : Int) = g) : p = g := by
  rw [gcd_zero, if_neg (by omega)] at hg
  exact hg
theorem gcd_next {p q g : Int} (hp : 0 ≤ p) (hg : (Int.gcd p q : Int) = g) : (Int.gcd q (p % q) : Int) = g := by
  have := gcd_step p q
  rw [Int.tmod_eq_emod_of_nonneg hp] at this
  rw [this]; exact hg

theorem gcd_swap {p q g : Int} (hg : (Int.gcd p q : Int) = g) : (Int.gcd q (p.tmod q) : Int) = g := by rw [gcd_step]; exact hg
theorem gcd_sign {p r g : Int} (h : p < 0 ∧ r = -p ∨ 0 ≤ p ∧ r = p) (hg : (Int.gcd p 0 : Int) = g) : r = g := by
  rw [gcd_zero] at hg
  split at hg <;> omega

end Go.Proofs.Ytjdpddcnogdekab
