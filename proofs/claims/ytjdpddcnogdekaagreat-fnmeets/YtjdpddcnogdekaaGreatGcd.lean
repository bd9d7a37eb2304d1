/-
  The contracts of the greatest that divides both: spec.Gcd and impl.Gcd of any two ints answer it of both words.
-/
import Derived.Test.YtjdpddcnogdekaaGreatRows
import Derived.Test.YtjdpddcnogdekaaGreatWords
import Derived.WalkKit
import Derived.WalkLawsBesides
import Derived.Laws.BitsLemmas
import Derived.Deep.QuietTactic
import Derived.BigQuiet
namespace Go.Proofs.YtjdpddcnogdekaaGreat
open Go.RowKit

theorem gcd_step (x y : Int) : Int.gcd y (x.tmod y) = Int.gcd x y := by
  rw [Int.gcd_comm x y]
  simp only [Int.gcd, Int.natAbs_tmod]
  rw [Nat.gcd_comm, ← Nat.gcd_rec]
theorem gcd_zero (x : Int) : (Int.gcd x 0 : Int) = if x < 0 then -x else x := by
  simp
  split <;> omega
theorem tmod_lt (x y : Int) (h : y ≠ 0) : (x.tmod y).natAbs < y.natAbs := by
  rw [Int.natAbs_tmod]
  exact Nat.mod_lt _ (by omega)
/-- the greatest that divides both words -/
def gcdW (a b : Int) : Int := (Int.gcd (wrap32 a) (wrap32 b) : Int)

theorem spec_Abs (n : Int) (w : World) (h0 : -2147483648 ≤ n) (h1 : n ≤ 2147483647) : Calls Tryz.prog 75 #[.int .i64 n] w fun e w' => e = .returned (.int .i64 (n.natAbs : Int)) ∧ w = w' := by
  go_enter Tryz.func75, Tryz.ntmps75
  go_wp2
  all_goals
    go_ret
    exact ⟨ret_intV (by omega), rfl⟩

theorem gcd_abs (a b : Int) : ((Int.gcd ((wrap32 a).natAbs : Int) ((wrap32 b).natAbs : Int) : Nat) : Int) = gcdW a b := by
  unfold gcdW
  simp [Int.gcd]
theorem gcd_end {p g : Int} (h : 0 ≤ p) (hg : (Int.gcd p 0 : Int) = g) : p = g := by
  rw [gcd_zero, if_neg (by omega)] at hg
  exact hg
theorem gcd_next {p q g : Int} (hp : 0 ≤ p) (hg : (Int.gcd p q : Int) = g) : (Int.gcd q (p % q) : Int) = g := by
  have := gcd_step p q
  rw [Int.tmod_eq_emod_of_nonneg hp] at this
  rw [this]; exact hg

set_option maxHeartbeats 400000 in
theorem spec_Gcd (a b : Int) (w : World) : Calls Tryz.prog 54 #[.int .i64 a, .int .i64 b] w fun e w' => e = .returned (.int .i64 (gcdW a b)) ∧ w = w' := by
  have ha := wrap32_bdW a
  have hb := wrap32_bdW b
  go_enter Tryz.func54, Tryz.ntmps54
  go_wp2_with (first | (go_at_call 76; refine (spec_Wrap _ _).mono ?_; rintro e w' ⟨rfl, rfl⟩) | (go_at_call 75; refine (spec_Abs _ _ (by omega) (by omega)).mono ?_; rintro e w' ⟨rfl, rfl⟩))
  go_loop [5, 6, 7] (fun x y _ => ∃ p q : Int, 0 ≤ p ∧ p ≤ 2147483648 ∧ 0 ≤ q ∧ q ≤ 2147483648 ∧ x = .int .i64 p ∧ y = .int .i64 q ∧ Hid ((Int.gcd p q : Int) = gcdW a b)) (fun _ y _ => (intOf y).natAbs)
  case atStart => exact ⟨_, _, by omega, by omega, by omega, by omega, rfl, rfl, gcd_abs a b⟩
  case round =>
    obtain ⟨p, q, hp0, hp1, hq0, hq1, rfl, rfl, hg⟩ := hrel
    by_cases hq : q = 0
    · subst hq
      go_wp2
      go_ret
      exact ⟨ret_intV (gcd_end hp0 hg.out), rfl⟩
    · have hm0 : 0 ≤ p % q := Int.emod_nonneg p hq
      have hm1 : p % q < q := Int.emod_lt_of_pos p (by omega)
      go_wp2
      go_round
      case rel => exact ⟨q, p % q, hq0, hq1, hm0, by omega, rfl, rfl, gcd_next hp0 hg.out⟩
      case measure => simp [intOf]; omega

theorem gcd_swap {p q g : Int} (hg : (Int.gcd p q : Int) = g) : (Int.gcd q (p.tmod q) : Int) = g := by rw [gcd_step]; exact hg
theorem gcd_sign {p r g : Int} (h : p < 0 ∧ r = -p ∨ 0 ≤ p ∧ r = p) (hg : (Int.gcd p 0 : Int) = g) : r = g := by
  rw [gcd_zero] at hg
  split at hg <;> omega

set_option maxHeartbeats 400000 in
theorem impl_Gcd (a b : Int) (w : World) : Calls Tryz.prog 44 #[.int .i64 a, .int .i64 b] w fun e w' => e = .returned (.int .i64 (gcdW a b)) ∧ ∃ n, w' = w.drewN n := by
  have ha := wrap32_bdW a
  have hb := wrap32_bdW b
  go_enter Tryz.func44, Tryz.ntmps44
  go_wp2_with (go_at_call 65; refine (impl_WrapV _ _).mono ?_; rintro e w' ⟨rfl, rfl⟩)
  go_loopw [5, 6] (fun x y wr => (∃ n, wr = w.drewN n) ∧ ∃ p q : Int, -2147483648 ≤ p ∧ p ≤ 2147483647 ∧ -2147483648 ≤ q ∧ q ≤ 2147483647 ∧ x = .int .i64 p ∧ y = .int .i64 q ∧ Hid ((Int.gcd p q : Int) = gcdW a b)) (fun _ y _ => (intOf y).natAbs)
  case atStart => exact ⟨⟨0, rfl⟩, _, _, ha.1, ha.2, hb.1, hb.2, rfl, rfl, rfl⟩
  case round =>
    obtain ⟨⟨n, rfl⟩, p, q, hp0, hp1, hq0, hq1, rfl, rfl, hg⟩ := hrel
    by_cases hq : q = 0
    · subst hq
      go_wp2
      all_goals
        go_ret
        exact ⟨ret_intV (gcd_sign (by omega) hg.out), n, rfl⟩
    · have hm := tmod_lt p q hq
      go_wp2
      go_quiet (fail)
      go_wp2
      go_roundw
      case rel => exact ⟨⟨n + nq, World.drewN_drewN ..⟩, q, p.tmod q, hq0, hq1, by omega, by omega, rfl, rfl, gcd_swap hg.out⟩
      case measure => exact hm
end Go.Proofs.YtjdpddcnogdekaaGreat
