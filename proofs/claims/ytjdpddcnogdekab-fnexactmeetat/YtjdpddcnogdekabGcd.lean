/-
  The contracts of the greatest that divides both: spec.Gcd and impl.Gcd of any two ints answer it of both words.
-/
import Derived.Test.YtjdpddcnogdekabRows
import Derived.Test.YtjdpddcnogdekabWords
import Derived.WalkKit
import Derived.WalkLawsBesides
import Derived.Laws.BitsLemmas
import Derived.Deep.QuietTactic
import Derived.BigQuiet
namespace Go.Proofs.Ytjdpddcnogdekab
open Go.RowKit

theorem gcd_step (x y : Int) : Int.gcd y (x.tmod y) = Int.gcd x y := by
  rw [Int.gcd_comm x y]
  simp only [Int.gcd, Int.natAbs_tmod]
  rw [Nat.gcd_comm, ← Nat.gcd_rec]
theorem gcd_zero (x : Int) : (Int.gcd x 0 : Int) = if x < 0 then -x else x := by
  simp
  split <;> omega
theorem tmod_lt (x y : Int) (h : y ≠ 0) : (x.tmod y).natAbs < y.natAbs := by
  rw [Int.natAbs_tmod]
  exact Nat.mod_lt _ (by omega)
/-- the greatest that divides both words -/
def gcdW (a b : Int) : Int := (Int.gcd (wrap32 a) (wrap32 b) : Int)

theorem gcd_abs (a b : Int) : ((Int.gcd ((wrap32 a).natAbs : Int) ((wrap32 b).natAbs : Int) : Nat) : Int) = gcdW a b := by
  unfold gcdW
  simp [Int.gcd]
theorem gcd_end {p g : Int} (h : 0 ≤ p) (hg : (Int.gcd p 0 : Int) = g) : p = g := by
  rw [gcd_zero, if_neg (by omega)] at hg
  exact hg
theorem gcd_next {p q g : Int} (hp : 0 ≤ p) (hg : (Int.gcd p q : Int) = g) : (Int.gcd q (p % q) : Int) = g := by
  have := gcd_step p q
  rw [Int.tmod_eq_emod_of_nonneg hp] at this
  rw [this]; exact hg

theorem gcd_swap {p q g : Int} (hg : (Int.gcd p q : Int) = g) : (Int.gcd q (p.tmod q) : Int) = g := by rw [gcd_step]; exact hg
theorem gcd_sign {p r g : Int} (h : p < 0 ∧ r = -p ∨ 0 ≤ p ∧ r = p) (hg : (Int.gcd p 0 : Int) = g) : r = g := by
  rw [gcd_zero] at hg
  split at hg <;> omega

end Go.Proofs.Ytjdpddcnogdekab
