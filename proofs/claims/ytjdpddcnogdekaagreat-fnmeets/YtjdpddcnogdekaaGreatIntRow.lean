/-
  Rows of numbers, and rows of such rows: eqIntS, eqIntSS, markIntS, heldIntS, markIntSS, heldIntSS.
-/
import Derived.Test.YtjdpddcnogdekaaGreatP24ofMx
import Derived.Deep.RegionWith
import Derived.Deep.Cut
import Derived.Deep.CutRange
namespace Go.Proofs.YtjdpddcnogdekaaGreat
open Go.RowKit Go.Lib
set_option linter.unusedSimpArgs false
set_option linter.unusedVariables false

def ints (xs : List Int) : List Value := xs.map (Value.int .i64)
theorem ints_len (xs : List Int) : (ints xs).length = xs.length := by simp [ints]
theorem ints_get {xs : List Int} {i : Nat} {t : Int} (h : xs[i]? = some t) : (ints xs)[i]? = some (.int .i64 t) := by simp [ints, h]
/-- A slice that holds these numbers, at lo or above. -/
def IV (w : World) (lo : Nat) (v : Value) (xs : List Int) : Prop :=
  ∃ ao cap, v = .slice ao xs.length cap ∧ (xs = [] ∨ ∃ g off, ao = some ⟨g, off, Option.none⟩ ∧ lo ≤ g ∧ g < w.heap.size ∧ ∀ i t, xs[i]? = some t → w.cell? ⟨g, off + i, Option.none⟩ = some (.int .i64 t))
theorem IV.same {w w' : World} {lo lo' : Nat} {v : Value} {xs : List Int} (hlo : lo' ≤ lo) (h : IV w lo v xs) (hk : Keeps lo w w') (hz : w.heap.size ≤ w'.heap.size) : IV w' lo' v xs := by
  obtain ⟨ao, cap, hv, h⟩ := h
  refine ⟨ao, cap, hv, ?_⟩
  rcases h with h | ⟨g, off, h1, h0, h2, h3⟩
  · exact .inl h
  · exact .inr ⟨g, off, h1, Nat.le_trans hlo h0, Nat.lt_of_lt_of_le h2 hz, fun i t hi => hk _ _ h0 (h3 i t hi)⟩
theorem IV.later {w w' : World} {lo : Nat} {v : Value} {xs : List Int} (h : IV w lo v xs) (hb : Below w.heap.size w w') : IV w' lo v xs := h.same (Nat.le_refl _) (Keeps.later hb) hb.size
theorem IV.lower {w : World} {lo lo' : Nat} {v : Value} {xs : List Int} (h : IV w lo v xs) (hl : lo' ≤ lo) : IV w lo' v xs := h.same hl (Keeps.refl _ _) (Nat.le_refl _)
theorem IV.low {w : World} {lo : Nat} {v : Value} {xs : List Int} (h : IV w lo v xs) : IV w 0 v xs := h.lower (Nat.zero_le _)
theorem IV.shape {w : World} {lo : Nat} {v : Value} {xs : List Int} (h : IV w lo v xs) : ∃ a c, v = .slice a xs.length c := by obtain ⟨a, c, h1, _⟩ := h; exact ⟨a, c, h1⟩
theorem IV.isOne {w : World} {lo : Nat} {v : Value} {xs : List Int} (h : IV w lo v xs) : v.oneCell' = true := by obtain ⟨a, c, rfl⟩ := h.shape; rfl
theorem IV.of {w : World} {B n : Nat} {e : TypeId} {v : Value} {xs : List Int} (hn : n = xs.length) (h : w.ownsRow B e 1 v n (ints xs)) : IV w B v xs := by
  subst hn
  rcases h.2 with ⟨h0, h1⟩ | ⟨g, cap, cur, h1, h2, h3, h4⟩
  · exact ⟨Option.none, 0, by rw [h1]; exact h0, .inl (List.length_eq_zero_iff.1 h1)⟩
  · refine ⟨_, cap, h1, .inr ⟨g, 0, rfl, h2, lt_heap h3, fun i t hi => ?_⟩⟩
    have hc := h.cells (g := g) (by rw [h1]; rfl) i (.int .i64 t) (ints_get hi)
    have e : (⟨g, 0, Option.none⟩ : Addr).add i = ⟨g, i, Option.none⟩ := by simp [Addr.add]; omega
    rw [e] at hc
    rw [Nat.zero_add]; exact hc
/-- A slice that holds slices that hold these numbers, at lo or above. -/
def IIV (w : World) (lo : Nat) (v : Value) (xss : List (List Int)) : Prop :=
  ∃ ao cap, v = .slice ao xss.length cap ∧ (xss = [] ∨ ∃ g off, ao = some ⟨g, off, Option.none⟩ ∧ lo ≤ g ∧ g < w.heap.size ∧ ∀ i xs, xss[i]? = some xs → ∃ u, w.cell? ⟨g, off + i, Option.none⟩ = some u ∧ IV w lo u xs)
theorem IIV.same {w w' : World} {lo lo' : Nat} {v : Value} {xss : List (List Int)} (hlo : lo' ≤ lo) (h : IIV w lo v xss) (hk : Keeps lo w w') (hz : w.heap.size ≤ w'.heap.size) : IIV w' lo' v xss := by
  obtain ⟨ao, cap, hv, h⟩ := h
  refine ⟨ao, cap, hv, ?_⟩
  rcases h with h | ⟨g, off, h1, h0, h2, h3⟩
  · exact .inl h
  · refine .inr ⟨g, off, h1, Nat.le_trans hlo h0, Nat.lt_of_lt_of_le h2 hz, fun i xs hi => ?_⟩
    obtain ⟨u, h4, h5⟩ := h3 i xs hi
    exact ⟨u, hk _ _ h0 h4, h5.same hlo hk hz⟩
theorem IIV.later {w w' : World} {lo : Nat} {v : Value} {xss : List (List Int)} (h : IIV w lo v xss) (hb : Below w.heap.size w w') : IIV w' lo v xss := h.same (Nat.le_refl _) (Keeps.later hb) hb.size
theorem IIV.lower {w : World} {lo lo' : Nat} {v : Value} {xss : List (List Int)} (h : IIV w lo v xss) (hl : lo' ≤ lo) : IIV w lo' v xss := h.same hl (Keeps.refl _ _) (Nat.le_refl _)
theorem IIV.low {w : World} {lo : Nat} {v : Value} {xss : List (List Int)} (h : IIV w lo v xss) : IIV w 0 v xss := h.lower (Nat.zero_le _)
theorem IIV.shape {w : World} {lo : Nat} {v : Value} {xss : List (List Int)} (h : IIV w lo v xss) : ∃ a c, v = .slice a xss.length c := by obtain ⟨a, c, h1, _⟩ := h; exact ⟨a, c, h1⟩
theorem IIV.isOne {w : World} {lo : Nat} {v : Value} {xss : List (List Int)} (h : IIV w lo v xss) : v.oneCell' = true := by obtain ⟨a, c, rfl⟩ := h.shape; rfl
theorem IIV.get {w : World} {lo : Nat} {v : Value} {xss : List (List Int)} (h : IIV w lo v xss) {k : Nat} {xs : List Int} (hk : xss[k]? = some xs) : ∃ g off c u, v = .slice (some ⟨g, off, Option.none⟩) xss.length c ∧ w.cell? ⟨g, off + k, Option.none⟩ = some u ∧ IV w lo u xs := by
  obtain ⟨ao, cap, rfl, h⟩ := h
  rcases h with h | ⟨g, off, rfl, h0, h2, h3⟩
  · subst h; simp at hk
  · obtain ⟨u, h4, h5⟩ := h3 k xs hk
    exact ⟨g, off, cap, u, rfl, h4, h5⟩
theorem IV.get {w : World} {lo : Nat} {v : Value} {xs : List Int} (h : IV w lo v xs) {k : Nat} {x : Int} (hk : xs[k]? = some x) : ∃ g off c, v = .slice (some ⟨g, off, Option.none⟩) xs.length c ∧ w.cell? ⟨g, off + k, Option.none⟩ = some (.int .i64 x) := by
  obtain ⟨ao, cap, rfl, h⟩ := h
  rcases h with h | ⟨g, off, rfl, h0, h2, h3⟩
  · subst h; simp at hk
  · exact ⟨g, off, cap, rfl, h3 k x hk⟩
theorem IIV.at {w : World} {lo n c : Nat} {a : Option Addr} {xss : List (List Int)} (h : IIV w lo (.slice a n c) xss) {k : Nat} {xs : List Int} (hk : xss[k]? = some xs) : ∃ g off u, a = some ⟨g, off, Option.none⟩ ∧ w.cell? ⟨g, off + k, Option.none⟩ = some u ∧ IV w lo u xs := by
  obtain ⟨g, off, c', u, e, h1, h2⟩ := h.get hk
  injection e with e
  exact ⟨g, off, u, e, h1, h2⟩
theorem IV.at {w : World} {lo n c : Nat} {a : Option Addr} {xs : List Int} (h : IV w lo (.slice a n c) xs) {k : Nat} {x : Int} (hk : xs[k]? = some x) : ∃ g off, a = some ⟨g, off, Option.none⟩ ∧ w.cell? ⟨g, off + k, Option.none⟩ = some (.int .i64 x) := by
  obtain ⟨g, off, c', e, h1⟩ := h.get hk
  injection e with e
  exact ⟨g, off, e, h1⟩
/-- Marks from m on. -/
def imarks (m n : Nat) : List Int := (List.range n).map fun i => ((m + i : Nat) : Int)
theorem imarks_len (m n : Nat) : (imarks m n).length = n := by simp [imarks]
theorem imarks_get (m n k : Nat) (h : k < n) : (imarks m n)[k]? = some ((m + k : Nat) : Int) := by simp [imarks, h]
theorem imarks_succ (m n : Nat) : imarks m (n + 1) = imarks m n ++ [((m + n : Nat) : Int)] := by simp [imarks, List.range_succ]
theorem imarks_step (xs : List Int) (m k : Nat) (hk : k < xs.length) : (ints (imarks m k ++ xs.drop k)).set k (.int .i64 ((m + k : Nat) : Int)) = ints (imarks m (k + 1) ++ xs.drop (k + 1)) := by
  have hl := imarks_len m k
  rw [imarks_succ, ints, ints, List.drop_eq_getElem_cons hk, List.map_append, List.map_cons, List.set_append_right _ _ (by rw [List.length_map, hl]; exact Nat.le_refl _), List.length_map, hl, Nat.sub_self, List.set_cons_zero, List.map_append, List.map_append, List.append_assoc]
  rfl
theorem grownBy_refl (w : World) (r : Option Nat) : w.grownBy w r := ⟨rfl, rfl, rfl, Nat.le_refl _, fun _ _ _ => rfl⟩
theorem grownBy_trans {a b c : World} {r : Option Nat} (h : a.grownBy b r) (k : b.grownBy c r) : a.grownBy c r :=
  ⟨k.os.trans h.os, k.tape.trans h.tape, k.output.trans h.output, Nat.le_trans h.size k.size, fun i hi hne => (k.block i (Nat.lt_of_lt_of_le hi h.size) hne).trans (h.block i hi hne)⟩
theorem below_of_grown {B : Nat} {w w' : World} {r : Option Nat} (h : w.grownBy w' r) (hr : ∀ k, r = some k → B ≤ k) (hB : B ≤ w.heap.size) : Below B w w' := ⟨h.os, h.tape, h.output, h.size, fun k hk => h.block k (by omega) (fun e => by have := hr k e.symm; omega)⟩
theorem grownBy_set {w : World} {g : Nat} (p : Addr) (hp : p.block = g) (u : Value) : w.grownBy (w.setCell p u) (some g) := ⟨rfl, rfl, rfl, by simp [World.setCell], fun k _ hk => Below.heap_setCell _ _ _ _ (fun e => hk (by rw [e, hp]))⟩
theorem iown_put {w : World} {B n g cap j : Nat} {e : TypeId} {xs : List Value} (h : w.ownsRow B e 1 (.slice (some ⟨g, 0, Option.none⟩) n cap) n xs) (u : Value) : (w.setCell ⟨g, j, Option.none⟩ u).ownsRow B e 1 (.slice (some ⟨g, 0, Option.none⟩) n cap) n (xs.set j u) := by
  refine ⟨by rw [List.length_set]; exact h.1, ?_⟩
  rcases h.2 with ⟨h0, _⟩ | ⟨g', cap', cur, h1, h2, h3, h4, h5, h6, h7⟩
  · cases h0
  · injection h1 with e1 e2 e3
    injection e1 with e1
    injection e1 with e1
    subst e1; subst e3
    refine .inr ⟨g, cap, cur.setIfInBounds j u, rfl, h2, ?_, h4, h5, by simpa using h6, by rw [Array.toList_setIfInBounds, List.take_set, h7]⟩
    exact Go.heap_setCell_same w g j cur e u h3
theorem iown_cell {w : World} {B n g cap : Nat} {e : TypeId} {xs : List Value} (h : w.ownsRow B e 1 (.slice (some ⟨g, 0, Option.none⟩) n cap) n xs) {j : Nat} {u : Value} (hu : xs[j]? = some u) : w.cell? ⟨g, j, Option.none⟩ = some u ∧ w.frozen? ⟨g, j, Option.none⟩ = false := by
  refine ⟨own_cell h hu, ?_⟩
  rcases h.2 with ⟨h0, _⟩ | ⟨g', cap', cur, h1, h2, h3, _⟩
  · cases h0
  · injection h1 with e1 e2 e3
    injection e1 with e1
    injection e1 with e1
    subst e1
    simp [World.frozen?, h3]
theorem iownShape {w : World} {B sz n : Nat} {e : TypeId} {v : Value} {xs : List Value} (h : w.ownsRow B e sz v n xs) : ∃ a c, v = .slice a n c := by
  rcases h.2 with ⟨h1, h0⟩ | ⟨g, cap, cur, h1, _⟩
  · exact ⟨_, _, by rw [h0]; exact h1⟩
  · exact ⟨_, _, h1⟩
end Go.Proofs.YtjdpddcnogdekaaGreat
