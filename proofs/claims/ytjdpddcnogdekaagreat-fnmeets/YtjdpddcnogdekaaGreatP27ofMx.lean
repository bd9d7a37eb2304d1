/-
  Texts in one: AffTimes, MarkText.
-/
import Derived.Test.YtjdpddcnogdekaaGreatP26ofMx
import Derived.Test.YtjdpddcnogdekaaGreatRows
import Derived.Test.YtjdpddcnogdekaaGreatP09ofMx
import Derived.WalkKit
import Derived.WalkLawsBesides
import Derived.Lib.SmallJoins
import Derived.Lib.ItoaLen
import Derived.Below
import Derived.Lib.Hide
/-
  timesA of the landed code, of -1; AddA.
-/
namespace Go.Proofs.YtjdpddcnogdekaaGreat
open Go.RowKit Go.Lib
set_option linter.unusedSimpArgs false
set_option linter.unusedVariables false

theorem range_heap8 {A B : World} {g o : Nat} {cs : List Value} (h : B.heap[g]? = A.heap[g]?) (r : A.rangeAt g o cs) : B.rangeAt g o cs := fun j v hv => (World.cell?_of_block (a := ⟨g, o + j, Option.none⟩) h).trans (r j v hv)
theorem keep8 {w0 A w8 : World} {o : Obj} {v : Value} {b B C : Nat} {x : Obj} (hb : Below w0.heap.size w0 A) (hx : w0.heap[b]? = some x) (hg : (A.alloc o).grownBy w8 v.ownBlock) (hv : ∀ k, v.ownBlock = some k → B ≤ k ∧ k < C) (hlt : b < B) : w8.heap[b]? = some x := by
  have h0 := (Array.getElem?_eq_some_iff.1 hx).1
  have h1 := hb.size
  refine (hg.block b (by simp; omega) (fun e => by have := (hv b e.symm).1; omega)).trans ((Below.heap_alloc _ _ _ (by omega)).trans ((hb.block b h0).trans hx))
theorem range_grw8 {w w6 : World} {r : Option Nat} {n o : Nat} {cs : List Value} (h : w.rangeAt n o cs) (hs : n < w.heap.size) (hg : w.grownBy w6 r) (hne : r ≠ some n) : w6.rangeAt n o cs :=
  range_heap8 (hg.block n hs (fun e => hne e.symm)) h
theorem two8 (s : ByteArray) (n : Int) : ∀ u ∈ [Value.string s, Value.int .i64 n], u.oneCell' = true := by
  intro x hx; simp only [List.mem_cons, List.not_mem_nil, or_false] at hx; rcases hx with rfl | rfl <;> rfl
theorem capOwn8 {w : World} {B sz n : Nat} {e : TypeId} {v : Value} {xs : List Value} (h : w.ownsRow B e sz v n xs) : Cap8 v := by
  intro a m c he
  rcases h.2 with ⟨h1, _⟩ | ⟨g, cap, cur, h1, _, _, h4, _⟩
  · rw [h1] at he; cases he; exact Nat.le_refl _
  · rw [h1] at he; cases he; exact h4
end Go.Proofs.YtjdpddcnogdekaaGreat
/-
  The contract of markText.
-/
namespace Go.Proofs.YtjdpddcnogdekaaGreat
open Go.RowKit Go.Lib
set_option linter.unusedSimpArgs false

theorem conv1M (w : World) (x : Int) (h0 : 0 ≤ x) (h1 : x < 256) :
    (convert 22 9 (.slice (some ⟨w.heap.size, 0, none⟩) 1 1)).run Tryz.prog (w.alloc (.cells #[.int .u8 x] 5)) = .ok (.string ⟨[UInt8.ofNat x.toNat].toArray⟩) (w.alloc (.cells #[.int .u8 x] 5)) := by
  refine run_convert_bytes_back (P := Tryz.prog) _ 22 9 5 ⟨w.heap.size, 0, none⟩ 1 [UInt8.ofNat x.toNat] Tryz.underlying22 Tryz.underlying5 Tryz.underlying9 ?_
  intro j hj
  simp at hj
  subst hj
  have e : ((UInt8.ofNat x.toNat).toNat : Int) = x := by simp; omega
  simp only [List.getElem_cons_zero, e]
  simp [Addr.add, World.cell?_alloc_new]
theorem cat1M (a b : List UInt8) : (⟨a.toArray⟩ : ByteArray) ++ ⟨b.toArray⟩ = ⟨(a ++ b).toArray⟩ := by
  apply ByteArray.ext
  simp
theorem digs_lenM {n u : Nat} {t : List UInt8} (h : Digs n u t) (hn : n < 18446744073709551616) : t.length ≤ 20 := by
  have hl := nDigits_le20 n hn
  rw [← decDigits_length, h] at hl
  simp at hl
  omega
theorem str_stepM (u : Nat) (t : List UInt8) : (⟨#[48 + UInt8.ofNat (u % 10)]⟩ : ByteArray) ++ ⟨t.toArray⟩ = ⟨(UInt8.ofNat (48 + u % 10) :: t).toArray⟩ := by
  have e : UInt8.ofNat (48 + u % 10) = 48 + UInt8.ofNat (u % 10) := by simp
  rw [e]
  exact cat1M [_] t
theorem val_strM {a b : ByteArray} (h : a = b) : Value.string a = .string b := by rw [h]
theorem val_intM {k : IntKind} {a b : Int} (h : a = b) : Value.int k a = .int k b := by rw [h]
theorem ret_strM {a b : ByteArray} (h : a = b) : Ending.returned (.string a) = .returned (.string b) := by rw [h]
def mtext (k : Nat) : List UInt8 := 109 :: decDigits k
end Go.Proofs.YtjdpddcnogdekaaGreat
