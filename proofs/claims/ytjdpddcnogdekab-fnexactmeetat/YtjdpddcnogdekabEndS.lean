/-
  l9End, Least and Most of the specification; namesWithin of the landed code.
-/
import Derived.Test.YtjdpddcnogdekabEndPlain
import Derived.Test.YtjdpddcnogdekabAffOkS
import Derived.Test.YtjdpddcnogdekabAffArg
namespace Go.Proofs.Ytjdpddcnogdekab
open Go.RowKit Go.Lib
set_option linter.unusedSimpArgs false
set_option linter.unusedVariables false

theorem at9_find (s : ByteArray) : ∀ (rs : List RG) (k : Nat), hasR9 rs s = true → ∃ j, rs[j]? = some (rg9 rs s) ∧ at9 rs k s = ((k + j : Nat) : Int)
  | [], k, h => by simp [hasR9] at h
  | r :: rs, k, h => by
    by_cases e : r.s = s
    · exact ⟨0, by simp [rg9, List.find?_cons, e], by rw [at9, if_pos e]; rfl⟩
    · obtain ⟨j, h1, h2⟩ := at9_find s rs (k + 1) (by simpa [hasR9, e] using h)
      refine ⟨j + 1, ?_, ?_⟩
      · have : rg9 (r :: rs) s = rg9 rs s := by simp [rg9, List.find?_cons, e]
        rw [this]; simpa using h1
      · rw [at9, if_neg e, h2]; omega
theorem at9_no (s : ByteArray) : ∀ (rs : List RG) (k : Nat), hasR9 rs s = false → at9 rs k s = -1
  | [], k, _ => rfl
  | r :: rs, k, h => by
    have : ¬ r.s = s ∧ hasR9 rs s = false := by simpa [hasR9] using h
    rw [at9, if_neg this.1, at9_no s rs (k + 1) this.2]
theorem okFrom8_mem : ∀ (p : Option ByteArray) (ts : List AR), okFrom8 p ts = true → ∀ t ∈ ts, -100000 ≤ t.n ∧ t.n ≤ 100000
  | _, [], _, t, h => by simp at h
  | p, u :: ts, h, t, ht => by
    rw [okFrom8, Bool.and_eq_true] at h
    rcases List.mem_cons.1 ht with rfl | ht
    · have := h.1; simp [termOk8, inMax8] at this; omega
    · exact okFrom8_mem _ ts h.2 t ht
theorem prod9 {n x : Int} (h1 : -100000 ≤ n) (h2 : n ≤ 100000) (h3 : -10000 ≤ x) (h4 : x ≤ 10000) : -1000000000 ≤ n * x ∧ n * x ≤ 1000000000 := by
  have hn : n.natAbs ≤ 100000 := by omega
  have hx : x.natAbs ≤ 10000 := by omega
  have h : (n * x).natAbs ≤ 1000000000 := by rw [Int.natAbs_mul]; exact Nat.mul_le_mul hn hx
  omega
theorem val9 {a b : Int} (h : a = b) : Value.int .i64 a = .int .i64 b := by rw [h]
end Go.Proofs.Ytjdpddcnogdekab
