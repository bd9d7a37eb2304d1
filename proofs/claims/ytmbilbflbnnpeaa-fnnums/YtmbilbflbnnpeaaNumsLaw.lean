/-
  The walk of laws.FnNums.
-/
import Derived.Test.YtmbilbflbnnpeaaRows
import Derived.Test.YtmbilbflbnnpeaaWords
import Derived.Test.YtmbilbflbnnpeaaGcd
import Derived.Test.YtmbilbflbnnpeaaCur
import Derived.WalkKit
import Derived.WalkLawsBesides
namespace Go.Proofs.Ytmbilbflbnnpeaa
open Go.RowKit Go.Joins

theorem word_yes (x : Int) (w : World) (h0 : -2147483648 ≤ x) (h1 : x ≤ 2147483647) : Calls Try.prog 10 #[.int .i64 x] w fun e w' => e = .returned (.bool true) ∧ w = w' := by
  go_enter Try.func10, Try.ntmps10
  go_wp2
  go_ret
  exact ⟨rfl, rfl⟩
theorem big_is (a : Option Addr) (len cap : Nat) (w : World) : Calls Try.prog 4 #[.slice a len cap] w fun e w' => e = .returned (.bool (decide ((1048576 : Int) < (len : Int)))) ∧ w = w' := by
  go_enter Try.func4, Try.ntmps4
  go_wp2
  go_ret
  exact ⟨rfl, rfl⟩
theorem CodeIs.mono {B B' : Nat} {W : World} {a : Option Addr} {len : Nat} (h : CodeIs B W a len) (hB : B ≤ B') : CodeIs B' W a len := fun j hj => by
  obtain ⟨cb, off, z, e, hc, hz, z0, z1⟩ := h j hj
  exact ⟨cb, off, z, e, by omega, hz, z0, z1⟩
theorem rest_none (n : Int) : (wrap64 (wrap32 n - n)).tmod 4294967296 = 0 := by
  have h : (4294967296 : Int) ∣ wrap64 (wrap32 n - n) := by unfold wrap64 wrap32; omega
  exact Int.tmod_eq_zero_of_dvd h
theorem wrap_wrap (n : Int) : wrap32 (wrap32 n) = wrap32 n := by unfold wrap32; omega
theorem back_sub (a b : Int) : wrap32 (wrap32 (wrap32 (wrap32 a + wrap32 b)) - wrap32 b) = wrap32 a := by unfold wrap32; omega
theorem back_add (a b : Int) : wrap32 (wrap32 (wrap32 (wrap32 a - wrap32 b)) + wrap32 b) = wrap32 a := by unfold wrap32; omega
theorem gcd_parts (x y : Int) : (wrap32 x).tmod (gcdW x y) = 0 ∧ (wrap32 y).tmod (gcdW x y) = 0 :=
  ⟨Int.tmod_eq_zero_of_dvd (Int.gcd_dvd_left ..), Int.tmod_eq_zero_of_dvd (Int.gcd_dvd_right ..)⟩
theorem gcd_nought {x y : Int} (h : gcdW x y = 0) : wrap32 x = 0 ∧ wrap32 y = 0 := by
  have h' : Int.gcd (wrap32 x) (wrap32 y) = 0 := by unfold gcdW at h; omega
  exact Int.gcd_eq_zero_iff.1 h'

set_option maxRecDepth 100000 in
set_option maxHeartbeats 1000000 in
theorem nums_walk (a : Option Addr) (len cap : Nat) (w : World) (hC : CodeIs w.heap.size w a len) :
    Calls Try.prog 3 #[.slice a len cap] w fun e w' => e = .returned (.bool true) ∧ Below w.heap.size w w' := by
  by_cases hbig : (1048576 : Int) < (len : Int)
  · go_enter Try.func3, Try.ntmps3
    go_wp2_with (go_at_call 4; refine (big_is a len cap _).mono ?_; rw [decide_eq_true hbig]; rintro e w' ⟨rfl, rfl⟩)
    go_ret
    exact ⟨rfl, Below.refl _ _⟩
  have hlen : len ≤ 281474976710656 := by omega
  go_enter Try.func3, Try.ntmps3
  go_wp2_with (go_at_call 4; refine (big_is a len cap _).mono ?_; rw [decide_eq_false hbig]; rintro e w' ⟨rfl, rfl⟩)
  refine (DrawWrap a len cap _ hlen hC).mono ?_
  rintro e w1 ⟨n, rfl, hn, hb1⟩
  go_wp2_with fail
  have hC1 := (hC.later hb1).mono hb1.size
  refine (DrawAddW a len cap _ hlen hC1).mono ?_
  rintro e w2 ⟨p, q, rfl, hp, hq, hb2⟩
  have hB2 := hb1.trans (hb2.mono hb1.size)
  have hC2 := (hC.later hB2).mono hB2.size
  go_wp2_with fail
  refine (DrawGcd a len cap _ hlen hC2).mono ?_
  rintro e w3 ⟨x, y, rfl, hx, hy, hb3⟩
  have hB3 := hB2.trans (hb3.mono hB2.size)
  clear hC hC1 hC2 hb1 hb2 hb3 hB2 hbig
  have r1 := rest_none n
  have r2 := wrap_wrap n
  have r3 := back_sub p q
  have r4 := back_add p q
  have g := gcd_parts x y
  have k1 := wrap32_bd n
  have k2 := wrap32_bd (wrap32 p + wrap32 q)
  have k3 := wrap32_bd (wrap32 p - wrap32 q)
  have k4 := wrap32_bd (wrap32 p * wrap32 q)
  have k5 : wrap32 (wrap32 q * wrap32 p) = wrap32 (wrap32 p * wrap32 q) := by rw [Int.mul_comm]
  by_cases hg : gcdW x y = 0
  · have g0 := gcd_nought hg
    go_wp2_with (first | (go_at_call 8; refine (impl_Gcd _ _ _).mono ?_; rintro e w' ⟨rfl, m, rfl⟩) | (go_at_call 9; refine (impl_Wrap _ _).mono ?_; rintro e w' ⟨rfl, rfl⟩) | (go_at_call 11; refine (spec_Wrap _ _).mono ?_; rintro e w' ⟨rfl, rfl⟩) | (go_at_call 10; refine (word_yes _ _ (by omega) (by omega)).mono ?_; rintro e w' ⟨rfl, rfl⟩) | (go_at_call 12; refine (spec_Gcd _ _ _).mono ?_; rintro e w' ⟨rfl, rfl⟩) | (go_at_call 13; refine (impl_AddW _ _ _).mono ?_; rintro e w' ⟨rfl, rfl⟩) | (go_at_call 14; refine (impl_SubW _ _ _).mono ?_; rintro e w' ⟨rfl, rfl⟩) | (go_at_call 15; refine (impl_MulW _ _ _).mono ?_; rintro e w' ⟨rfl, rfl⟩) | (go_at_call 17; refine (spec_AddW _ _ _).mono ?_; rintro e w' ⟨rfl, rfl⟩) | (go_at_call 18; refine (spec_SubW _ _ _).mono ?_; rintro e w' ⟨rfl, rfl⟩) | (go_at_call 16; refine (spec_MulW _ _ _).mono ?_; rintro e w' ⟨rfl, rfl⟩))
    go_ret
    exact ⟨rfl, hB3.trans (below_draws _ _ _)⟩
  · have hgp : 0 ≤ gcdW x y := Int.natCast_nonneg _
    obtain ⟨G, X, Y, hG, hX, hY, G0, g1, g2⟩ : ∃ G X Y : Int, Hid (gcdW x y = G) ∧ Hid (wrap32 x = X) ∧ Hid (wrap32 y = Y) ∧ 0 < G ∧ X.tmod G = 0 ∧ Y.tmod G = 0 := ⟨_, _, _, rfl, rfl, rfl, by omega, g.1, g.2⟩
    clear g hg hgp
    go_wp2_with (first | (go_at_call 8; refine (impl_Gcd _ _ _).mono ?_; rw [hG.out]; rintro e w' ⟨rfl, m, rfl⟩) | (go_at_call 9; refine (impl_Wrap _ _).mono ?_; (first | rw [hX.out] | rw [hY.out] | skip); rintro e w' ⟨rfl, rfl⟩) | (go_at_call 11; refine (spec_Wrap _ _).mono ?_; rintro e w' ⟨rfl, rfl⟩) | (go_at_call 10; refine (word_yes _ _ (by omega) (by omega)).mono ?_; rintro e w' ⟨rfl, rfl⟩) | (go_at_call 12; refine (spec_Gcd _ _ _).mono ?_; rw [hG.out]; rintro e w' ⟨rfl, rfl⟩) | (go_at_call 13; refine (impl_AddW _ _ _).mono ?_; rintro e w' ⟨rfl, rfl⟩) | (go_at_call 14; refine (impl_SubW _ _ _).mono ?_; rintro e w' ⟨rfl, rfl⟩) | (go_at_call 15; refine (impl_MulW _ _ _).mono ?_; rintro e w' ⟨rfl, rfl⟩) | (go_at_call 17; refine (spec_AddW _ _ _).mono ?_; rintro e w' ⟨rfl, rfl⟩) | (go_at_call 18; refine (spec_SubW _ _ _).mono ?_; rintro e w' ⟨rfl, rfl⟩) | (go_at_call 16; refine (spec_MulW _ _ _).mono ?_; rintro e w' ⟨rfl, rfl⟩))
    go_ret
    exact ⟨rfl, hB3.trans (below_draws _ _ _)⟩
end Go.Proofs.Ytmbilbflbnnpeaa
