/-
  Texts in one: Gcd, MtGcd.
-/
import Derived.Test.YtjdpddcnogdekabRows
import Derived.Test.YtjdpddcnogdekabP42ofMa
import Derived.WalkKit
import Derived.WalkLawsBesides
import Derived.Laws.BitsLemmas
import Derived.Deep.QuietTactic
import Derived.BigQuiet
import Derived.Test.YtjdpddcnogdekabAffOkS
/-
  The contracts of the greatest that divides both: spec.Gcd and impl.Gcd of any two ints answer it of both words.
-/
namespace Go.Proofs.Ytjdpddcnogdekab
open Go.RowKit

theorem gcd_step (x y : Int) : Int.gcd y (x.tmod y) = Int.gcd x y := by
  rw [Int.gcd_comm x y]
  simp only [Int.gcd, Int.natAbs_tmod]
  rw [Nat.gcd_comm, ← Nat.gcd_rec]
theorem gcd_zero (x : Int) : (Int.gcd x 0 : Int) = if x < 0 then -x else x := by
  simp
  split <;> omega
theorem tmod_lt (x y : Int) (h : y ≠ 0) : (x.tmod y).natAbs < y.natAbs := by
  rw [Int.natAbs_tmod]
  exact Nat.mod_lt _ (by omega)
/-- the greatest that divides both words -/
def gcdW (a b : Int) : Int := (Int.gcd (wrap32 a) (wrap32 b) : Int)

theorem gcd_abs (a b : Int) : ((Int.gcd ((wrap32 a).natAbs : Int) ((wrap32 b).natAbs : Int) : Nat) : Int) = gcdW a b := by
  unfold gcdW
  simp [Int.gcd]
theorem gcd_end {p g : Int} (h : 0 ≤ p) (hg : (Int.gcd p 0 : Int) = g) : p = g := by
  rw [gcd_zero, if_neg (by omega)] at hg
  exact hg
theorem gcd_next {p q g : Int} (hp : 0 ≤ p) (hg : (Int.gcd p q : Int) = g) : (Int.gcd q (p % q) : Int) = g := by
  have := gcd_step p q
  rw [Int.tmod_eq_emod_of_nonneg hp] at this
  rw [this]; exact hg

theorem gcd_swap {p q g : Int} (hg : (Int.gcd p q : Int) = g) : (Int.gcd q (p.tmod q) : Int) = g := by rw [gcd_step]; exact hg
theorem gcd_sign {p r g : Int} (h : p < 0 ∧ r = -p ∨ 0 ≤ p ∧ r = p) (hg : (Int.gcd p 0 : Int) = g) : r = g := by
  rw [gcd_zero] at hg
  split at hg <;> omega

end Go.Proofs.Ytjdpddcnogdekab
/-
  The greatest that divides all numbers of two sums; GcdMeet of the specification.
-/
namespace Go.Proofs.Ytjdpddcnogdekab
open Go.RowKit Go.Lib
set_option linter.unusedSimpArgs false
set_option linter.unusedVariables false

def gcdL11 (g : Int) : List AR → Int
  | [] => g
  | t :: ts => gcdL11 (gcdW g t.n) ts
theorem gcdL11_app (g : Int) : ∀ (a b : List AR), gcdL11 g (a ++ b) = gcdL11 (gcdL11 g a) b := by
  intro a
  induction a generalizing g with
  | nil => intro b; rfl
  | cons t ts ih => intro b; exact ih _ b
theorem gcdW_bd (a b : Int) : 0 ≤ gcdW a b ∧ gcdW a b ≤ 2147483648 := by
  unfold gcdW
  have ha := wrap32_bdW a
  have hb := wrap32_bdW b
  refine ⟨by omega, ?_⟩
  by_cases h : wrap32 a = 0
  · rw [h, Int.gcd_zero_left]; omega
  · have := Int.gcd_le_natAbs_left (wrap32 b) h
    omega
theorem gcdL11_bd : ∀ (l : List AR) (g : Int), 0 ≤ g ∧ g ≤ 2147483648 → 0 ≤ gcdL11 g l ∧ gcdL11 g l ≤ 2147483648
  | [], g, h => h
  | t :: ts, g, _ => gcdL11_bd ts _ (gcdW_bd g t.n)
def gcdMeet11 (c : Int) (ts : List AR) (d : Int) (us : List AR) : Bool :=
  affOk8 c ts && affOk8 d us && (if gcdL11 0 (ts ++ us) = 0 then decide (c = d) else decide ((c - d).tmod (gcdL11 0 (ts ++ us)) = 0))
theorem affOk_c {c : Int} {ts : List AR} (h : affOk8 c ts = true) : -100000 ≤ c ∧ c ≤ 100000 := by
  simp only [affOk8, inMax8, Bool.and_eq_true, decide_eq_true_eq] at h
  exact h.1
end Go.Proofs.Ytjdpddcnogdekab
