/-
  One of a list of texts, drawn by the cursor; laws.at and laws.big.
-/
import Derived.Test.YtfacenfiocdbgaaCurBase
import Derived.WalkKit
import Derived.WalkLawsBesides
namespace Go.Proofs.Ytfacenfiocdbgaa
open Go.RowKit Go.Joins
theorem CodeIs.mono {B B' : Nat} {W : World} {a : Option Addr} {len : Nat} (h : CodeIs B W a len) (hB : B ≤ B') : CodeIs B' W a len := fun j hj => by
  obtain ⟨cb, off, z, e, hc, hz, z0, z1⟩ := h j hj
  exact ⟨cb, off, z, e, by omega, hz, z0, z1⟩
theorem big_is (a : Option Addr) (len cap : Nat) (w : World) : Calls Try.prog 7 #[.slice a len cap] w fun e w' => e = .returned (.bool (decide ((1048576 : Int) < (len : Int)))) ∧ w = w' := by
  go_enter Try.func7, Try.ntmps7
  go_wp2
  go_ret
  exact ⟨rfl, rfl⟩
theorem l1Str (B : Nat) (a : Option Addr) (len cap b lb n c : Nat) (q : ByteArray → Prop) (w : World) (hlen : len ≤ 281474976710656) (hB : B ≤ b) (hC : CodeIs B w a len) (hcur : Cur a len cap b w)
    (hn0 : 0 < n) (hn1 : n ≤ 1048576) (hlb : lb ≠ b) (hl : ∀ j, j < n → ∃ z : ByteArray, w.cell? ⟨lb, j, none⟩ = some (.string z) ∧ q z) :
    Calls Try.prog 41 #[.pointer (some ⟨b, 0, none⟩), .slice (some ⟨lb, 0, none⟩) n c] w fun e w' => ∃ x : ByteArray, e = .returned (.string x) ∧ q x ∧ Cur a len cap b w' ∧ Touch b w w' := by
  go_enter Try.func41, Try.ntmps41
  go_wp2_with fail
  refine (l1Below B a len cap b _ _ hlen hB hC hcur (by omega)).mono ?_
  rintro e w1 ⟨x, rfl, x0, x1, hc1, ht1⟩
  obtain ⟨y, rfl⟩ := Int.eq_ofNat_of_zero_le x0
  have hy : y < n := by omega
  obtain ⟨z, hz, qz⟩ := hl y hy
  have hz1 : w1.cell? ⟨lb, y, none⟩ = some (.string z) := by rw [World.cell?_of_block (w := w) (ht1.block lb hlb)]; exact hz
  go_wp2
  go_ret
  exact ⟨z, rfl, qz, hc1, ht1⟩
end Go.Proofs.Ytfacenfiocdbgaa
