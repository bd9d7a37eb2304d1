/-
  The contracts of the numbers that go round: spec.Wrap and impl.Wrap of any int answer the one word that is as many times 4294967296 away; AddW, SubW, MulW answer it of the sum, the difference, the product of both words.
-/
import Derived.Test.YtmbilbflbnnpeaaRows
import Derived.WalkKit
import Derived.WalkLawsBesides
import Derived.Laws.BitsLemmas
namespace Go.Proofs.Ytmbilbflbnnpeaa
open Go.RowKit

theorem i64_and32 (n : Int) : bits .and .i64 n 4294967295 = n % 4294967296 := by
  have h32 : (BitVec.ofInt 64 4294967295).toNat = 2 ^ 32 - 1 := by decide
  have key : (BitVec.ofInt 64 n &&& BitVec.ofInt 64 4294967295).toNat = (n % ((2 ^ 64 : Nat) : Int)).toNat % 2 ^ 32 := by
    rw [BitVec.toNat_and, BitVec.toNat_ofInt, h32, Nat.and_two_pow_sub_one_eq_mod]
  show IntKind.i64.wrap ((BitVec.ofInt 64 n &&& BitVec.ofInt 64 4294967295).toNat : Nat) = n % 4294967296
  rw [key, IntKind.wrap_i64]
  omega
theorem wrap32_bd (n : Int) : -2147483648 ≤ wrap32 n ∧ wrap32 n ≤ 2147483647 := by unfold wrap32; omega
theorem mul_bd (a b : Int) (ha0 : -2147483648 ≤ a) (ha : a ≤ 2147483647) (hb0 : -2147483648 ≤ b) (hb : b ≤ 2147483647) : -9223372036854775808 ≤ a * b ∧ a * b ≤ 9223372036854775807 := by
  have h1 : a.natAbs ≤ 2147483648 := by omega
  have h2 : b.natAbs ≤ 2147483648 := by omega
  have h3 : (a * b).natAbs ≤ 2147483648 * 2147483648 := by rw [Int.natAbs_mul]; exact Nat.mul_le_mul h1 h2
  omega
theorem ret_int {k : IntKind} {a b : Int} (h : a = b) : Ending.returned (.int k a) = .returned (.int k b) := by rw [h]

theorem spec_Wrap (n : Int) (w : World) : Calls Try.prog 11 #[.int .i64 n] w fun e w' => e = .returned (.int .i64 (wrap32 n)) ∧ w = w' := by
  have ha := i64_and32 n
  go_enter Try.func11, Try.ntmps11
  go_wp2
  all_goals
    go_ret
    exact ⟨ret_int (by unfold wrap32; omega), rfl⟩
theorem impl_Wrap (n : Int) (w : World) : Calls Try.prog 9 #[.int .i64 n] w fun e w' => e = .returned (.int .i64 (wrap32 n)) ∧ w = w' := by
  go_enter Try.func9, Try.ntmps9
  go_wp2
  go_ret
  exact ⟨ret_int (by unfold wrap64 wrap32; omega), rfl⟩

theorem spec_AddW (a b : Int) (w : World) : Calls Try.prog 17 #[.int .i64 a, .int .i64 b] w fun e w' => e = .returned (.int .i64 (wrap32 (wrap32 a + wrap32 b))) ∧ w = w' := by
  have ha := wrap32_bd a
  have hb := wrap32_bd b
  go_enter Try.func17, Try.ntmps17
  go_wp2_with (go_at_call 11; refine (spec_Wrap _ _).mono ?_; rintro e w' ⟨rfl, rfl⟩)
  go_ret
  exact ⟨rfl, rfl⟩
theorem impl_AddW (a b : Int) (w : World) : Calls Try.prog 13 #[.int .i64 a, .int .i64 b] w fun e w' => e = .returned (.int .i64 (wrap32 (wrap32 a + wrap32 b))) ∧ w = w' := by
  have ha := wrap32_bd a
  have hb := wrap32_bd b
  go_enter Try.func13, Try.ntmps13
  go_wp2_with (go_at_call 9; refine (impl_Wrap _ _).mono ?_; rintro e w' ⟨rfl, rfl⟩)
  go_ret
  exact ⟨rfl, rfl⟩
theorem spec_SubW (a b : Int) (w : World) : Calls Try.prog 18 #[.int .i64 a, .int .i64 b] w fun e w' => e = .returned (.int .i64 (wrap32 (wrap32 a - wrap32 b))) ∧ w = w' := by
  have ha := wrap32_bd a
  have hb := wrap32_bd b
  go_enter Try.func18, Try.ntmps18
  go_wp2_with (go_at_call 11; refine (spec_Wrap _ _).mono ?_; rintro e w' ⟨rfl, rfl⟩)
  go_ret
  exact ⟨rfl, rfl⟩
theorem impl_SubW (a b : Int) (w : World) : Calls Try.prog 14 #[.int .i64 a, .int .i64 b] w fun e w' => e = .returned (.int .i64 (wrap32 (wrap32 a - wrap32 b))) ∧ w = w' := by
  have ha := wrap32_bd a
  have hb := wrap32_bd b
  go_enter Try.func14, Try.ntmps14
  go_wp2_with (go_at_call 9; refine (impl_Wrap _ _).mono ?_; rintro e w' ⟨rfl, rfl⟩)
  go_ret
  exact ⟨rfl, rfl⟩
theorem wrap_mul (a b : Int) : wrap64 (wrap32 a * wrap32 b) = wrap32 a * wrap32 b := by
  have ha := wrap32_bd a
  have hb := wrap32_bd b
  have := mul_bd _ _ ha.1 ha.2 hb.1 hb.2
  unfold wrap64
  omega
theorem spec_MulW (a b : Int) (w : World) : Calls Try.prog 16 #[.int .i64 a, .int .i64 b] w fun e w' => e = .returned (.int .i64 (wrap32 (wrap32 a * wrap32 b))) ∧ w = w' := by
  go_enter Try.func16, Try.ntmps16
  go_wp2_with (go_at_call 11; refine (spec_Wrap _ _).mono ?_; rintro e w' ⟨rfl, rfl⟩)
  go_ret
  exact ⟨ret_int (by rw [wrap_mul]), rfl⟩
theorem impl_MulW (a b : Int) (w : World) : Calls Try.prog 15 #[.int .i64 a, .int .i64 b] w fun e w' => e = .returned (.int .i64 (wrap32 (wrap32 a * wrap32 b))) ∧ w = w' := by
  go_enter Try.func15, Try.ntmps15
  go_wp2_with (go_at_call 9; refine (impl_Wrap _ _).mono ?_; rintro e w' ⟨rfl, rfl⟩)
  go_ret
  exact ⟨ret_int (by rw [wrap_mul]), rfl⟩
end Go.Proofs.Ytmbilbflbnnpeaa
