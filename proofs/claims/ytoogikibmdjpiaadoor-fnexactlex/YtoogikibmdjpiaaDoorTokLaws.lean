/-
  The contracts of what the laws on signs call: eqTokS, markTokS, heldTokS, markText.
-/
import Derived.Test.YtoogikibmdjpiaaDoorTokLex
import Derived.Deep.RegionWith
import Derived.Deep.Cut
import Derived.Deep.CutRange
namespace Go.Proofs.YtoogikibmdjpiaaDoor
open Go.RowKit Go.Lib
set_option linter.unusedSimpArgs false

/-- A slice that holds these signs. -/
def Row (w : World) (v : Value) (ts : List T) : Prop :=
  ∃ ao cap, v = .slice ao ts.length cap ∧ (ts = [] ∨ ∃ g, ao = some ⟨g, 0, Option.none⟩ ∧ g < w.heap.size ∧ ∀ i t, ts[i]? = some t →
    w.cell? ⟨g, i * 3, Option.none⟩ = some (.int .i64 t.k) ∧ w.cell? ⟨g, i * 3 + 1, Option.none⟩ = some (.string ⟨t.s.toArray⟩) ∧ w.cell? ⟨g, i * 3 + 2, Option.none⟩ = some (.int .i64 t.n))
theorem cellsOf_get (ts : List T) : ∀ i t, ts[i]? = some t → (cellsOf ts)[i * 3]? = some (.int .i64 t.k) ∧ (cellsOf ts)[i * 3 + 1]? = some (.string ⟨t.s.toArray⟩) ∧ (cellsOf ts)[i * 3 + 2]? = some (.int .i64 t.n) := by
  induction ts with
  | nil => intro i t h; simp at h
  | cons u us ih =>
    intro i t h
    have e : cellsOf (u :: us) = .int .i64 u.k :: .string ⟨u.s.toArray⟩ :: .int .i64 u.n :: cellsOf us := rfl
    cases i with
    | zero => simp at h; subst h; exact ⟨rfl, rfl, rfl⟩
    | succ i =>
      have := ih i t (by simpa using h)
      rw [e, show (i + 1) * 3 = i * 3 + 3 by omega]
      simpa using this
theorem Row.of {w : World} {B : Nat} {v : Value} {ts : List T} (h : w.ownsRow B 47 3 v ts.length (cellsOf ts)) : Row w v ts := by
  rcases h.2 with ⟨h0, h1⟩ | ⟨g, cap, cur, h1, h2, h3, h4⟩
  · exact ⟨Option.none, 0, by rw [h1]; exact h0, .inl (List.length_eq_zero_iff.1 h1)⟩
  · refine ⟨_, cap, h1, .inr ⟨g, rfl, lt_of_heap h3, fun i t hi => ?_⟩⟩
    have hc := h.cells (g := g) (by rw [h1]; rfl)
    have e : ∀ j, (⟨g, 0, Option.none⟩ : Addr).add j = ⟨g, j, Option.none⟩ := fun j => by simp [Addr.add]; omega
    have hg := cellsOf_get ts i t hi
    have a := hc _ _ hg.1; have b := hc _ _ hg.2.1; have c := hc _ _ hg.2.2
    rw [e] at a b c
    exact ⟨a, b, c⟩
theorem Row.later {w w' : World} {v : Value} {ts : List T} (h : Row w v ts) (hb : Below w.heap.size w w') : Row w' v ts := by
  obtain ⟨ao, cap, hv, h⟩ := h
  refine ⟨ao, cap, hv, ?_⟩
  rcases h with h | ⟨g, h1, h2, h3⟩
  · exact .inl h
  · refine .inr ⟨g, h1, Nat.lt_of_lt_of_le h2 hb.size, fun i t hi => ?_⟩
    obtain ⟨a, b, c⟩ := h3 i t hi
    exact ⟨(hb.cell (p := ⟨g, i * 3, Option.none⟩) h2).trans a, (hb.cell (p := ⟨g, i * 3 + 1, Option.none⟩) h2).trans b, (hb.cell (p := ⟨g, i * 3 + 2, Option.none⟩) h2).trans c⟩
set_option maxHeartbeats 1000000 in
theorem eqTok_same (k n : Int) (s : ByteArray) (w : World) :
    Calls Tryd.prog 42 #[.agg #[.int .i64 k, .string s, .int .i64 n], .agg #[.int .i64 k, .string s, .int .i64 n]] w fun e w' => e = .returned (.bool true) ∧ Below w.heap.size w w' := by
  go_enter Tryd.func42, Tryd.ntmps42
  go_wp2
  go_ret
  exact ⟨rfl, ((Below.refl _ w).alloc (Nat.le_refl _) _).alloc (by simp) _⟩
set_option maxHeartbeats 2000000 in
theorem eqTokS_same (ts : List T) (hlen : ts.length ≤ 100000000) (va vb : Value) (w : World) (ha : Row w va ts) (hb : Row w vb ts) :
    Calls Tryd.prog 17 #[va, vb] w fun e w' => e = .returned (.bool true) ∧ Below w.heap.size w w' := by
  obtain ⟨ao, ca, rfl, ha⟩ := ha
  obtain ⟨bo, cb, rfl, hb⟩ := hb
  go_enter Tryd.func17, Tryd.ntmps17
  go_wp2
  go_loopw [5] (fun i wr => ∃ k : Nat, k ≤ ts.length ∧ i = .int .i64 k ∧ Below w.heap.size w wr) (fun i _ => ts.length - (RowKit.intOf i).toNat)
  case atStart => exact ⟨0, by omega, rfl, Below.refl _ _⟩
  case round =>
    obtain ⟨k, hk, rfl, hbw⟩ := hrel
    by_cases hlt : k < ts.length
    · obtain ⟨t, ht⟩ : ∃ t, ts[k]? = some t := ⟨ts[k], List.getElem?_eq_getElem hlt⟩
      rcases ha with ha | ⟨ga, rfl, gla, hca⟩
      · subst ha; simp at hlt
      rcases hb with hb | ⟨gb, rfl, glb, hcb⟩
      · subst hb; simp at hlt
      obtain ⟨a0, a1, a2⟩ := hca k t ht
      obtain ⟨b0, b1, b2⟩ := hcb k t ht
      have A0 := (hbw.cell (p := ⟨ga, k * 3, Option.none⟩) gla).trans a0
      have A1 := (hbw.cell (p := ⟨ga, k * 3 + 1, Option.none⟩) gla).trans a1
      have A2 := (hbw.cell (p := ⟨ga, k * 3 + 2, Option.none⟩) gla).trans a2
      have B0 := (hbw.cell (p := ⟨gb, k * 3, Option.none⟩) glb).trans b0
      have B1 := (hbw.cell (p := ⟨gb, k * 3 + 1, Option.none⟩) glb).trans b1
      have B2 := (hbw.cell (p := ⟨gb, k * 3 + 2, Option.none⟩) glb).trans b2
      have hltI : (k : Int) < (ts.length : Int) := by omega
      clear a0 a1 a2 b0 b1 b2 hca hcb ht
      go_wp2_with fail
      go_cut [26] from 11 to 26 (fun v wx => v = .bool false ∧ Below wr.heap.size wr wx)
      case first =>
        go_region_with (go_at_call 42; refine (eqTok_same _ _ _ _).mono ?_; rintro e w1 ⟨rfl, hb1⟩)
        all_goals (try go_wp2_with fail)
        all_goals go_meet
        all_goals exact ⟨rfl, ⟨hb1.os, hb1.tape, hb1.output, hb1.size, hb1.block⟩⟩
      case rest =>
        obtain ⟨rfl, hb1⟩ := hcut
        have hbw2 := hbw.trans (hb1.mono hbw.size)
        clear A0 A1 A2 B0 B1 B2 hb1
        go_wp2
        go_roundw
        case rel => exact ⟨k + 1, by omega, by go_num, hbw2⟩
        case measure => simp [RowKit.intOf]; omega
    · go_wp2
      go_ret
      exact ⟨rfl, hbw⟩
end Go.Proofs.YtoogikibmdjpiaaDoor
