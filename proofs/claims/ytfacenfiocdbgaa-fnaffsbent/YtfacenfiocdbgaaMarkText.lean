/-
  The contract of markText.
-/
import Derived.Test.YtfacenfiocdbgaaRows
import Derived.Test.YtfacenfiocdbgaaNumPlain
import Derived.WalkKit
import Derived.WalkLawsBesides
import Derived.Lib.SmallJoins
import Derived.Lib.ItoaLen
import Derived.Below
import Derived.Lib.Hide
namespace Go.Proofs.Ytfacenfiocdbgaa
open Go.RowKit Go.Lib
set_option linter.unusedSimpArgs false

theorem conv1M (w : World) (x : Int) (h0 : 0 ≤ x) (h1 : x < 256) :
    (convert 22 9 (.slice (some ⟨w.heap.size, 0, none⟩) 1 1)).run Try.prog (w.alloc (.cells #[.int .u8 x] 5)) = .ok (.string ⟨[UInt8.ofNat x.toNat].toArray⟩) (w.alloc (.cells #[.int .u8 x] 5)) := by
  refine run_convert_bytes_back (P := Try.prog) _ 22 9 5 ⟨w.heap.size, 0, none⟩ 1 [UInt8.ofNat x.toNat] Try.underlying22 Try.underlying5 Try.underlying9 ?_
  intro j hj
  simp at hj
  subst hj
  have e : ((UInt8.ofNat x.toNat).toNat : Int) = x := by simp; omega
  simp only [List.getElem_cons_zero, e]
  simp [Addr.add, World.cell?_alloc_new]
theorem cat1M (a b : List UInt8) : (⟨a.toArray⟩ : ByteArray) ++ ⟨b.toArray⟩ = ⟨(a ++ b).toArray⟩ := by
  apply ByteArray.ext
  simp
theorem digs_lenM {n u : Nat} {t : List UInt8} (h : Digs n u t) (hn : n < 18446744073709551616) : t.length ≤ 20 := by
  have hl := nDigits_le20 n hn
  rw [← decDigits_length, h] at hl
  simp at hl
  omega
theorem str_stepM (u : Nat) (t : List UInt8) : (⟨#[48 + UInt8.ofNat (u % 10)]⟩ : ByteArray) ++ ⟨t.toArray⟩ = ⟨(UInt8.ofNat (48 + u % 10) :: t).toArray⟩ := by
  have e : UInt8.ofNat (48 + u % 10) = 48 + UInt8.ofNat (u % 10) := by simp
  rw [e]
  exact cat1M [_] t
theorem val_strM {a b : ByteArray} (h : a = b) : Value.string a = .string b := by rw [h]
theorem val_intM {k : IntKind} {a b : Int} (h : a = b) : Value.int k a = .int k b := by rw [h]
theorem ret_strM {a b : ByteArray} (h : a = b) : Ending.returned (.string a) = .returned (.string b) := by rw [h]
def mtext (k : Nat) : List UInt8 := 109 :: decDigits k
set_option maxHeartbeats 1000000 in
set_option maxRecDepth 100000 in
theorem markText_is (k : Nat) (h1 : 1 ≤ k) (h2 : k ≤ 100000000) (w : World) :
    Calls Try.prog 64 #[.int .i64 (k : Int)] w fun e w' => e = .returned (.string ⟨(mtext k).toArray⟩) ∧ Below w.heap.size w w' := by
  have hk0 : ¬ (k : Int) ≤ 0 := by omega
  go_enter Try.func64, Try.ntmps64
  go_wp2
  go_loopw [0, 3] (fun x s wr => ∃ (t : List UInt8) (u : Nat), s = .string ⟨t.toArray⟩ ∧ x = .int .i64 (u : Int) ∧ u ≤ k ∧ Hid (Digs k u t) ∧ Below w.heap.size w wr) (fun x _ _ => (RowKit.intOf x).natAbs)
  case atStart => exact ⟨[], k, rfl, rfl, Nat.le_refl _, digs_start _ h1, Below.refl _ _⟩
  case round =>
    obtain ⟨t, u, rfl, rfl, hu, hd, hb⟩ := hrel
    have hlt := digs_lenM hd.out (by omega)
    by_cases hz : u = 0
    · subst hz
      go_wp2
      go_ret
      exact ⟨ret_strM (by rw [mtext, digs_end hd.out]; exact cat1M [109] t), hb⟩
    · have hu0 : (0 : Int) < (u : Int) := by omega
      have e2 := conv1M wr (48 + ((u : Int) % 10)) (by omega) (by omega)
      go_wp2
      go_roundw
      case rel => exact ⟨_, u / 10, val_strM (str_stepM u t), val_intM (by omega), by omega, digs_step hd.out hz, hb.alloc hb.size _⟩
      case measure => simp [RowKit.intOf]; omega

end Go.Proofs.Ytfacenfiocdbgaa
