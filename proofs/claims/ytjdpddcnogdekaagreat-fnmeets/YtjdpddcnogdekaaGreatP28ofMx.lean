/-
  Texts in one: TermMark, AffNames.
-/
import Derived.Test.YtjdpddcnogdekaaGreatP18ofMx
import Derived.Test.YtjdpddcnogdekaaGreatP27ofMx
import Derived.Test.YtjdpddcnogdekaaGreatP25ofMx
/-
  Rows of terms copied so that they may be written over; marks laid over them and found again; the same of sums. Sums that came in, with the bounds of their numbers.
-/
namespace Go.Proofs.YtjdpddcnogdekaaGreat
open Go.RowKit Go.Lib
set_option linter.unusedSimpArgs false
set_option linter.unusedVariables false

def zeroT8 : AR := ⟨⟨#[]⟩, 0⟩
theorem zeros8 (n : Nat) : (madeCells #[.string ⟨#[]⟩, .int .i64 0] (n * 2)).toList = acells (List.replicate n zeroT8) := by
  unfold madeCells
  rw [Array.toList_map, Array.toList_range]
  induction n with
  | zero => rfl
  | succ n ih =>
    rw [show (n + 1) * 2 = n * 2 + 1 + 1 by omega, List.range_succ, List.range_succ, List.map_append, List.map_append, ih, List.replicate_succ', acells_snoc]
    have h0 : (n * 2) % 2 = 0 := by omega
    have h1 : (n * 2 + 1) % 2 = 1 := by omega
    simp [zeroT8, h0, h1]
theorem acells_append8 : ∀ (a b : List AR), acells (a ++ b) = acells a ++ acells b
  | [], b => rfl
  | t :: a, b => by
    have := acells_append8 a b
    show Value.string t.s :: .int .i64 t.n :: acells (a ++ b) = _
    rw [this]; rfl
theorem acells_set8 (a d : List AR) (t u : AR) (k : Nat) (hk : a.length = k) :
    ((acells (a ++ t :: d)).set (k * 2) (.string u.s)).set (k * 2 + 1) (.int .i64 u.n) = acells (a ++ u :: d) := by
  have hl := acells_len a
  rw [acells_append8, acells_append8, hk] at *
  have e : ∀ t, acells (t :: d) = .string t.s :: .int .i64 t.n :: acells d := fun _ => rfl
  have s1 : ∀ (r : List Value) (i j : Nat) (x : Value), j = k * 2 + i → (acells a ++ r).set j x = acells a ++ r.set i x := by
    intro r i j x hj
    rw [List.set_append, if_neg (by omega), hl]
    congr 2
    omega
  rw [e t, e u, s1 _ 0 _ _ (by omega), s1 _ 1 _ _ rfl]
  rfl
theorem drop_cons8 {ts : List AR} {k : Nat} (h : k < ts.length) : ts.drop k = ts[k] :: ts.drop (k + 1) := List.drop_eq_getElem_cons h
theorem own_set8 {w : World} {B n g cap j sz : Nat} {e : TypeId} {xs : List Value} (h : w.ownsRow B e sz (.slice (some ⟨g, 0, Option.none⟩) n cap) n xs) (u : Value) : (w.setCell ⟨g, j, Option.none⟩ u).ownsRow B e sz (.slice (some ⟨g, 0, Option.none⟩) n cap) n (xs.set j u) := by
  refine ⟨by rw [List.length_set]; exact h.1, ?_⟩
  rcases h.2 with ⟨h0, _⟩ | ⟨g', cap', cur, h1, h2, h3, h4, h5, h6, h7⟩
  · cases h0
  · injection h1 with e1 e2 e3
    injection e1 with e1
    injection e1 with e1
    subst e1; subst e3
    exact .inr ⟨g, cap, cur.setIfInBounds j u, rfl, h2, Joins.block_setCell h3 u, h4, h5, by simpa using h6, by rw [Array.toList_setIfInBounds, List.take_set, h7]⟩
theorem grown_set8 {w w1 : World} {g : Nat} (h : w.grownBy w1 (some g)) (j : Nat) (u : Value) : w.grownBy (w1.setCell ⟨g, j, Option.none⟩ u) (some g) :=
  ⟨h.os, h.tape, h.output, by simpa using h.size, fun k hk hne => by rw [Below.heap_setCell _ _ _ _ (fun e => hne (by rw [e]))]; exact h.block k hk hne⟩
theorem grown_below8 {w w1 w2 : World} {r : Option Nat} (h : w.grownBy w1 r) (hb : Below w1.heap.size w1 w2) : w.grownBy w2 r :=
  ⟨hb.os.trans h.os, hb.tape.trans h.tape, hb.output.trans h.output, Nat.le_trans h.size hb.size, fun k hk hne => (hb.block k (Nat.lt_of_lt_of_le hk h.size)).trans (h.block k hk hne)⟩
theorem grown_trans8 {a b c : World} {r : Option Nat} (h : a.grownBy b r) (k : b.grownBy c r) : a.grownBy c r :=
  ⟨k.os.trans h.os, k.tape.trans h.tape, k.output.trans h.output, Nat.le_trans h.size k.size, fun q hq hne => (k.block q (Nat.lt_of_lt_of_le hq h.size) hne).trans (h.block q hq hne)⟩
theorem cells_own8 {w : World} {B n g cap sz : Nat} {e : TypeId} {xs : List Value} (h : w.ownsRow B e sz (.slice (some ⟨g, 0, Option.none⟩) n cap) n xs) {j : Nat} {u : Value} (hu : xs[j]? = some u) : w.cell? ⟨g, j, Option.none⟩ = some u ∧ w.frozen? ⟨g, j, Option.none⟩ = false := by
  have hc := h.cells (g := g) rfl j u hu
  have e1 : (⟨g, 0, Option.none⟩ : Addr).add j = ⟨g, j, Option.none⟩ := by simp [Addr.add]; omega
  rw [e1] at hc
  refine ⟨hc, ?_⟩
  rcases h.2 with ⟨h0, _⟩ | ⟨g', cap', cur, h1, h2, h3, _⟩
  · cases h0
  · injection h1 with e1 e2 e3
    injection e1 with e1
    injection e1 with e1
    subst e1
    simp [World.frozen?, h3]
theorem ret_int8 {a b : Int} (h : a = b) : Ending.returned (.int .i64 a) = .returned (.int .i64 b) := by rw [h]
/-- The marks that are laid from m on. -/
def marks8 (m : Nat) : Nat → List AR
  | 0 => []
  | n + 1 => marks8 m n ++ [⟨⟨(mtext (m + 2 * n)).toArray⟩, (m : Int) + 2 * (n : Int) + 1⟩]
theorem marks8_len (m n : Nat) : (marks8 m n).length = n := by
  induction n with
  | zero => rfl
  | succ n ih => simp [marks8, ih]
theorem marks8_get (m n k : Nat) (h : k < n) : (marks8 m n)[k]? = some ⟨⟨(mtext (m + 2 * k)).toArray⟩, (m : Int) + 2 * (k : Int) + 1⟩ := by
  induction n with
  | zero => omega
  | succ n ih =>
    rw [marks8]
    by_cases e : k = n
    · subst e
      rw [List.getElem?_append_right (by rw [marks8_len]; exact Nat.le_refl _), marks8_len]; simp
    · rw [List.getElem?_append_left (by rw [marks8_len]; omega)]
      exact ih (by omega)
end Go.Proofs.YtjdpddcnogdekaaGreat
namespace Go.Proofs.YtjdpddcnogdekaaGreat
open Go.ChangeShapes Go.WideShapes Go.ChangeAt Go.RowKit
section
variable {H : Type} {enc : TypeId × Value → H} {W : World} {sp : Nat → Bool} {held : Bool}
theorem build_arrsB {b o len : Nat} (each : ∀ i, i < len → ∃ t : AR, (t.s.size ≤ 9223372036854775807 ∧ (-9223372036854775808 ≤ t.n ∧ t.n ≤ 9223372036854775807)) ∧ W.cell? ⟨b, o + i * 2, Option.none⟩ = some (.string t.s) ∧ W.cell? ⟨b, o + i * 2 + 1, Option.none⟩ = some (.int .i64 t.n)) :
    ∀ d, d ≤ len → ∃ R : List AR, R.length = d ∧ (∀ t ∈ R, (t.s.size ≤ 9223372036854775807 ∧ (-9223372036854775808 ≤ t.n ∧ t.n ≤ 9223372036854775807))) ∧ ∀ i t, R[i]? = some t → W.cell? ⟨b, o + i * 2, Option.none⟩ = some (.string t.s) ∧ W.cell? ⟨b, o + i * 2 + 1, Option.none⟩ = some (.int .i64 t.n)
  | 0, _ => ⟨[], rfl, fun _ h => by simp at h, fun i t h => by simp at h⟩
  | d + 1, hd => by
    obtain ⟨R, h1, h2, h3⟩ := build_arrsB each d (by omega)
    obtain ⟨t, k, c0, c1⟩ := each d (by omega)
    refine ⟨R ++ [t], by simp [h1], fun u hu => ?_, fun i u hu => ?_⟩
    · rcases List.mem_append.1 hu with hu | hu
      · exact h2 u hu
      · simp only [List.mem_cons, List.not_mem_nil, or_false] at hu; subst hu; exact k
    · rcases Nat.lt_or_ge i R.length with hi | hi
      · rw [List.getElem?_append_left hi] at hu; exact h3 i u hu
      · rw [List.getElem?_append_right hi] at hu
        have hi2 : i = d := by have := (List.getElem?_eq_some_iff.1 hu).1; simp at this; omega
        subst hi2
        rw [h1, Nat.sub_self] at hu
        simp at hu; subst hu; exact ⟨c0, c1⟩
end
end Go.Proofs.YtjdpddcnogdekaaGreat
/-
  l8Names of the specification: the names of both sums.
-/
namespace Go.Proofs.YtjdpddcnogdekaaGreat
open Go.RowKit Go.Lib
set_option linter.unusedSimpArgs false
set_option linter.unusedVariables false

def puts8 (ns : List ByteArray) (l : List AR) : List ByteArray := l.foldl (fun ns t => putR t.s false ns) ns
theorem puts8_take (ns : List ByteArray) {l : List AR} {k : Nat} {t : AR} (h : l[k]? = some t) : puts8 ns (l.take (k + 1)) = putR t.s false (puts8 ns (l.take k)) := by
  rw [take_snocA h, puts8, List.foldl_append]; rfl
theorem puts8_len : ∀ (l : List AR) (ns : List ByteArray), (puts8 ns l).length ≤ ns.length + l.length
  | [], ns => by simp [puts8]
  | t :: l, ns => by
    have h1 := puts8_len l (putR t.s false ns)
    have h2 := putR_len t.s false ns
    have e : puts8 ns (t :: l) = puts8 (putR t.s false ns) l := rfl
    rw [e]; simp only [List.length_cons]; omega
theorem puts8_asc : ∀ (l : List AR) (ns : List ByteArray), Asc ns → Asc (puts8 ns l) ∧ ∀ b, b ∈ puts8 ns l ↔ ((∃ t ∈ l, t.s = b) ∨ b ∈ ns)
  | [], ns, h => ⟨h, fun b => by simp [puts8]⟩
  | t :: l, ns, h => by
    obtain ⟨a1, a2⟩ := asc_put t.s ns h
    obtain ⟨b1, b2⟩ := puts8_asc l (putR t.s false ns) a1
    refine ⟨b1, fun b => ?_⟩
    have e : puts8 ns (t :: l) = puts8 (putR t.s false ns) l := rfl
    rw [e, b2, a2]
    constructor
    · rintro (⟨x, hx, rfl⟩ | rfl | hb)
      · exact .inl ⟨x, by simp [hx], rfl⟩
      · exact .inl ⟨t, by simp, rfl⟩
      · exact .inr hb
    · rintro (⟨x, hx, rfl⟩ | hb)
      · rcases List.mem_cons.1 hx with rfl | hx
        · exact .inr (.inl rfl)
        · exact .inl ⟨x, hx, rfl⟩
      · exact .inr (.inr hb)
end Go.Proofs.YtjdpddcnogdekaaGreat
