/-
  The greatest that divides all numbers of two sums; GcdMeet of the specification.
-/
import Derived.Test.YtjdpddcnogdekabMtRng
import Derived.Test.YtjdpddcnogdekabGcd
import Derived.Test.YtjdpddcnogdekabAffOkS
namespace Go.Proofs.Ytjdpddcnogdekab
open Go.RowKit Go.Lib
set_option linter.unusedSimpArgs false
set_option linter.unusedVariables false

def gcdL11 (g : Int) : List AR → Int
  | [] => g
  | t :: ts => gcdL11 (gcdW g t.n) ts
theorem gcdL11_app (g : Int) : ∀ (a b : List AR), gcdL11 g (a ++ b) = gcdL11 (gcdL11 g a) b := by
  intro a
  induction a generalizing g with
  | nil => intro b; rfl
  | cons t ts ih => intro b; exact ih _ b
theorem gcdW_bd (a b : Int) : 0 ≤ gcdW a b ∧ gcdW a b ≤ 2147483648 := by
  unfold gcdW
  have ha := wrap32_bdW a
  have hb := wrap32_bdW b
  refine ⟨by omega, ?_⟩
  by_cases h : wrap32 a = 0
  · rw [h, Int.gcd_zero_left]; omega
  · have := Int.gcd_le_natAbs_left (wrap32 b) h
    omega
theorem gcdL11_bd : ∀ (l : List AR) (g : Int), 0 ≤ g ∧ g ≤ 2147483648 → 0 ≤ gcdL11 g l ∧ gcdL11 g l ≤ 2147483648
  | [], g, h => h
  | t :: ts, g, _ => gcdL11_bd ts _ (gcdW_bd g t.n)
def gcdMeet11 (c : Int) (ts : List AR) (d : Int) (us : List AR) : Bool :=
  affOk8 c ts && affOk8 d us && (if gcdL11 0 (ts ++ us) = 0 then decide (c = d) else decide ((c - d).tmod (gcdL11 0 (ts ++ us)) = 0))
theorem affOk_c {c : Int} {ts : List AR} (h : affOk8 c ts = true) : -100000 ≤ c ∧ c ≤ 100000 := by
  simp only [affOk8, inMax8, Bool.and_eq_true, decide_eq_true_eq] at h
  exact h.1
end Go.Proofs.Ytjdpddcnogdekab
