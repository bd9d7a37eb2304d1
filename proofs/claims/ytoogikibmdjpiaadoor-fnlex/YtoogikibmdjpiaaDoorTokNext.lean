/-
  One round of the specification's Lex, in plain words.
-/
import Derived.Test.YtoogikibmdjpiaaDoorTokStep
namespace Go.Proofs.YtoogikibmdjpiaaDoor
open Go.Lib Go.RowKit

/-- Where the specification's Lex stands: what is done, and what all of it will answer. -/
def Sp (l : List UInt8) (R : Option (List T)) (out : List T) (at' : Nat) : Prop := at' ≤ l.length ∧ out.length ≤ 600 ∧ R = cut out (pend 0 [] (l.drop at' ++ [32]))
/-- What stands at a place, and the place behind it. -/
structure Nx (l : List UInt8) (at' nx k : Nat) : Prop where
  lt : at' < nx
  le : nx ≤ l.length
  all : ∀ j (h : j < l.length), at' ≤ j → j < nx → kind l[j] = k
  last : goes k = true → ∀ h : nx < l.length, kind l[nx] ≠ k
  one : goes k = false → nx = at' + 1
theorem Sp.start (l : List UInt8) : Sp l (cut [] (pend 0 [] (l ++ [32]))) [] 0 := ⟨Nat.zero_le _, by simp, by simp⟩
theorem Sp.gap {l : List UInt8} {R : Option (List T)} {out : List T} {p : Nat} (h : Sp l R out p) (hp : p < l.length) (hk : kind l[p] = 0) : Sp l R out (p + 1) := by
  refine ⟨hp, h.2.1, ?_⟩
  rw [h.2.2, drop_at hp, List.cons_append, pend_start, hk, pend_gap]
theorem Sp.done {l : List UInt8} {R : Option (List T)} {out : List T} {p : Nat} (h : Sp l R out p) (hp : ¬ p < l.length) : R = some out := by
  rw [h.2.2, List.drop_eq_nil_iff.2 (by omega), List.nil_append, pend_start, kind32]
  exact cut_nil h.2.1
theorem piece_mem {l : List UInt8} {f pos : Nat} {b : UInt8} (h : b ∈ piece l f pos) : ∃ j, ∃ hj : j < l.length, f ≤ j ∧ j < pos ∧ l[j] = b := by
  unfold piece at h
  obtain ⟨i, hi, e⟩ := List.getElem_of_mem h
  rw [List.length_drop, List.length_take] at hi
  refine ⟨f + i, by omega, by omega, by omega, ?_⟩
  rw [← e, List.getElem_drop, List.getElem_take]
theorem drop_piece {l : List UInt8} {f pos : Nat} (h : f ≤ pos) (h2 : pos ≤ l.length) : l.drop f = piece l f pos ++ l.drop pos := by
  have e : l = l.take pos ++ l.drop pos := (List.take_append_drop pos l).symm
  conv => lhs; rw [e]
  rw [List.drop_append_of_le_length (by rw [List.length_take]; omega)]
  rfl
theorem piece_ne {l : List UInt8} {f pos : Nat} (h : f < pos) (h2 : pos ≤ l.length) : piece l f pos ≠ [] := by
  intro e
  have : (piece l f pos).length = 0 := by rw [e]; rfl
  unfold piece at this
  rw [List.length_drop, List.length_take] at this
  omega
theorem Sp.next {l : List UInt8} {R : Option (List T)} {out : List T} {p nx k : Nat} (h : Sp l R out p) (hk0 : k ≠ 0) (hN : Nx l p nx k) :
    R = cut out (match tok k (piece l p nx) with | some t => put t (pend 0 [] (l.drop nx ++ [32])) | none => none) := by
  obtain ⟨c, r, hc, hck⟩ : ∃ c r, l.drop nx ++ [32] = c :: r ∧ ¬ (kind c = k ∧ goes k = true) := by
    rcases Nat.lt_or_ge nx l.length with h1 | h1
    · exact ⟨l[nx], l.drop (nx + 1) ++ [32], by rw [drop_at h1]; rfl, fun e => hN.last e.2 h1 e.1⟩
    · exact ⟨32, [], by rw [List.drop_eq_nil_iff.2 h1]; rfl, fun e => hk0 (by rw [← e.1, kind32])⟩
  have hpend : ∀ q, pend k q (l.drop nx ++ [32]) = match tok k q with | some t => put t (pend 0 [] (l.drop nx ++ [32])) | none => none := by
    intro q
    rw [hc, pend_end q r hk0 hck]
    cases YtoogikibmdjpiaaDoor.tok k q <;> rfl
  have hall : ∀ b ∈ piece l p nx, kind b = k := fun b hb => by
    obtain ⟨j, hj, h1, h2, e⟩ := piece_mem hb
    rw [← e]; exact hN.all j hj h1 h2
  rw [h.2.2, drop_piece (Nat.le_of_lt hN.lt) hN.le, List.append_assoc]
  cases hP : piece l p nx with
  | nil => exact absurd hP (piece_ne hN.lt hN.le)
  | cons b v =>
    rw [hP] at hall
    rw [List.cons_append, pend_start, hall b (by simp)]
    cases hg : goes k with
    | true => rw [pend_run hg v [b] _ (fun x hx => hall x (by simp [hx])), hpend]; rfl
    | false =>
      have := hN.one hg
      subst this
      have hlt : p < l.length := hN.le
      rw [piece_one hlt] at hP
      injection hP with h1 h2
      subst h2
      rw [List.nil_append, hpend]
theorem Sp.bad {l : List UInt8} {R : Option (List T)} {out : List T} {p nx k : Nat} (h : Sp l R out p) (hk0 : k ≠ 0) (hN : Nx l p nx k) (ht : tok k (piece l p nx) = none) : R = none := by
  rw [h.next hk0 hN, ht]; rfl
theorem Sp.full {l : List UInt8} {R : Option (List T)} {out : List T} {p nx k : Nat} {t : T} (h : Sp l R out p) (hk0 : k ≠ 0) (hN : Nx l p nx k) (ht : tok k (piece l p nx) = some t) (hd : ¬ out.length < 600) : R = none := by
  rw [h.next hk0 hN, ht]; exact cut_full (by have := h.2.1; omega) _
theorem Sp.tok {l : List UInt8} {R : Option (List T)} {out : List T} {p nx k : Nat} {t : T} (h : Sp l R out p) (hk0 : k ≠ 0) (hN : Nx l p nx k) (ht : YtoogikibmdjpiaaDoor.tok k (piece l p nx) = some t) (hd : out.length < 600) : Sp l R (out ++ [t]) nx := by
  refine ⟨hN.le, by simp; omega, ?_⟩
  rw [h.next hk0 hN, ht]; exact cut_put _
theorem tok_kind {k : Nat} {p : List UInt8} {t : T} (h : YtoogikibmdjpiaaDoor.tok k p = some t) : t.k = 1 ∨ t.k = 2 ∨ t.k = 3 ∨ t.k = 4 := by
  unfold YtoogikibmdjpiaaDoor.tok at h
  split at h
  · split at h
    · injection h with h; subst h; simp
    · split at h
      · injection h with h; subst h; simp
      · cases h
  · split at h
    · split at h
      · split at h
        · injection h with h; subst h; simp
        · cases h
      · cases h
    · split at h
      · injection h with h; subst h; simp
      · cases h
end Go.Proofs.YtoogikibmdjpiaaDoor
