import Derived.Test.YtpinockfakndlaaGreatZp
import Derived.Test.YtpinockfakndlaaGreatP10ofFnEvals
import Derived.Test.YtpinockfakndlaaGreatP12ofFnEvals
import Derived.Test.YtpinockfakndlaaGreatP04ofFnEvals
import Derived.Test.YtpinockfakndlaaGreatP02ofFnEvals
import Derived.Deep.RegionHeld
import Derived.Deep.Upon
namespace Go.Proofs.YtpinockfakndlaaGreat
open Go.RowKit Go.Lib
set_option maxRecDepth 100000
set_option maxHeartbeats 2000000
set_option linter.unusedSimpArgs false
set_option linter.unusedVariables false
theorem retB5 {a b : Bool} (h : a = b) : Ending.returned (.bool a) = .returned (.bool b) := by rw [h]
def RowB (b : Nat) (w : World) (v : Value) (ts : List T) : Prop :=
  ∃ ao cap, v = .slice ao ts.length cap ∧ (ts = [] ∨ ∃ g, ao = some ⟨g, 0, Option.none⟩ ∧ g < b ∧ ∀ i t, ts[i]? = some t →
    w.cell? ⟨g, i * 3, Option.none⟩ = some (.int .i64 t.k) ∧ w.cell? ⟨g, i * 3 + 1, Option.none⟩ = some (.string (bs t.s)) ∧ w.cell? ⟨g, i * 3 + 2, Option.none⟩ = some (.int .i64 t.n))
theorem wr_keeps {b : Nat} {w w' : World} (hw : Wr b w w') {a : Addr} {v : Value} (h : w.cell? a = some v) (hne : a.block ≠ b) : w'.cell? a = some v := by
  have e := hw.block a.block (lt_of_cellA h) hne
  unfold World.cell? at h ⊢
  simp only [e]
  exact h
theorem RowB.wr {b : Nat} {w w' : World} {v : Value} {ts : List T} (h : RowB b w v ts) (hw : Wr b w w') : RowB b w' v ts := by
  obtain ⟨ao, cap, e, h⟩ := h
  refine ⟨ao, cap, e, ?_⟩
  rcases h with h | ⟨g, e2, hg, hc⟩
  · exact .inl h
  · exact .inr ⟨g, e2, hg, fun i t hi => ⟨wr_keeps hw (hc i t hi).1 (Nat.ne_of_lt hg), wr_keeps hw (hc i t hi).2.1 (Nat.ne_of_lt hg), wr_keeps hw (hc i t hi).2.2 (Nat.ne_of_lt hg)⟩⟩
theorem RowB.at {b : Nat} {w : World} {v : Value} {ts : List T} (h : RowB b w v ts) {i : Nat} {t : T} (hi : ts[i]? = some t) : ∃ g cap, v = .slice (some ⟨g, 0, Option.none⟩) ts.length cap ∧ w.cell? ⟨g, i * 3, Option.none⟩ = some (.int .i64 t.k) ∧ w.cell? ⟨g, i * 3 + 1, Option.none⟩ = some (.string (bs t.s)) ∧ w.cell? ⟨g, i * 3 + 2, Option.none⟩ = some (.int .i64 t.n) := by
  obtain ⟨ao, cap, rfl, h⟩ := h
  rcases h with h | ⟨g, rfl, hg, hc⟩
  · subst h; simp at hi
  · exact ⟨g, cap, rfl, hc i t hi⟩
structure Rd5 (b : Nat) (v : Value) (ts : List T) (p : Nat) (deep : Int) (bad : Bool) (w : World) : Prop where
  rg : w.rangeAt b 0 [v, .int .i64 (p : Int), .int .i64 deep, .bool bad]
  th : w.there b 0 4
  row : RowB b w v ts
  hp : p ≤ ts.length
  hts : ts.length ≤ 600
section
variable {b : Nat} {v : Value} {ts : List T} {p : Nat} {deep : Int} {bad : Bool} {w : World}
theorem Rd5.later {w' : World} (s : Rd5 b v ts p deep bad w) (hb : Below w.heap.size w w') : Rd5 b v ts p deep bad w' := ⟨rangeAt_later s.rg hb, there_later s.th hb, s.row.wr (.of_below hb), s.hp, s.hts⟩
theorem Rd5.lt (s : Rd5 b v ts p deep bad w) : b < w.heap.size := lt_of_cellA (s.rg 0 _ rfl)
theorem Rd5.cells (s : Rd5 b v ts p deep bad w) : w.cell? ⟨b, 0, Option.none⟩ = some v ∧ w.cell? ⟨b, 1, Option.none⟩ = some (.int .i64 (p : Int)) ∧ w.cell? ⟨b, 2, Option.none⟩ = some (.int .i64 deep) ∧ w.cell? ⟨b, 3, Option.none⟩ = some (.bool bad) := ⟨s.rg 0 _ rfl, s.rg 1 _ rfl, s.rg 2 _ rfl, s.rg 3 _ rfl⟩
theorem Rd5.free (s : Rd5 b v ts p deep bad w) (i : Nat) (hi : i < 4) : w.frozen? ⟨b, i, Option.none⟩ = false := by have := (s.th i hi).2; rwa [Nat.zero_add] at this
theorem Rd5.wset (s : Rd5 b v ts p deep bad w) (i : Nat) (u : Value) : Wr b w (w.setCell ⟨b, i, Option.none⟩ u) := by
  have e : w.setCell ⟨b, i, Option.none⟩ u = w.setCells b i [u] := rfl
  rw [e]
  refine ⟨?_, ?_, ?_, by rw [size_sets]; exact Nat.le_refl _, fun k hk hne => World.heap_setCells_other w b i [u] hk hne⟩
  · exact (below_sets (g := b) (B := b) [u] i (Below.refl _ w) (Nat.le_refl _)).os
  · exact (below_sets (g := b) (B := b) [u] i (Below.refl _ w) (Nat.le_refl _)).tape
  · exact (below_sets (g := b) (B := b) [u] i (Below.refl _ w) (Nat.le_refl _)).output
theorem Rd5.mid (s : Rd5 b v ts p deep bad w) {i : Nat} {u : Value} {p' : Nat} {deep' : Int} {bad' : Bool} (hp' : p' ≤ ts.length) (h : ([v, .int .i64 (p : Int), .int .i64 deep, .bool bad] : List Value).set i u = [v, .int .i64 (p' : Int), .int .i64 deep', .bool bad']) (hi : i < 4) : Rd5 b v ts p' deep' bad' (w.setCell ⟨b, i, Option.none⟩ u) := by
  refine ⟨fun j z hj => ?_, World.there_setCells s.th b i [u], s.row.wr (s.wset i u), hp', s.hts⟩
  rw [← h, List.getElem?_set] at hj
  rw [Nat.zero_add]
  by_cases hij : i = j
  · subst hij
    rw [if_pos rfl, if_pos (by simp; omega)] at hj
    injection hj with hj
    subst hj
    have hc : ∃ y, w.cell? ⟨b, i, Option.none⟩ = some y := by
      obtain ⟨y, hy⟩ : ∃ y, ([v, .int .i64 (p : Int), .int .i64 deep, .bool bad] : List Value)[i]? = some y := ⟨_, List.getElem?_eq_getElem (by simp; omega)⟩
      have := s.rg i y hy
      rw [Nat.zero_add] at this
      exact ⟨y, this⟩
    obtain ⟨y, hy⟩ := hc
    exact World.cell?_setCell_same _ _ _ hy
  · rw [if_neg hij] at hj
    rw [World.cell?_setCell_other _ _ _ _ (by intro e; injection e with e1 e2; exact hij e2)]
    have := s.rg j z hj
    rwa [Nat.zero_add] at this
theorem Rd5.setAt (s : Rd5 b v ts p deep bad w) (p' : Nat) (hp : p' ≤ ts.length) : Rd5 b v ts p' deep bad (w.setCell ⟨b, 1, Option.none⟩ (.int .i64 (p' : Int))) := s.mid hp rfl (by omega)
theorem Rd5.setDeep (s : Rd5 b v ts p deep bad w) (d : Int) : Rd5 b v ts p d bad (w.setCell ⟨b, 2, Option.none⟩ (.int .i64 d)) := s.mid s.hp rfl (by omega)
theorem Rd5.setBad (s : Rd5 b v ts p deep bad w) (x : Bool) : Rd5 b v ts p deep x (w.setCell ⟨b, 3, Option.none⟩ (.bool x)) := s.mid s.hp rfl (by omega)
end
def kindR (bad : Bool) (k : Int) (l : List T) : Bool := !bad && (match l with | [] => false | t :: _ => decide (t.k = k))
def isR (bad : Bool) (k : Int) (s : List UInt8) (l : List T) : Bool := kindR bad k l && (match l with | [] => false | t :: _ => decide (t.s = s))
theorem dropT {ts : List T} {p : Nat} {t : T} (h : ts[p]? = some t) : ts.drop p = t :: ts.drop (p + 1) := by
  have h1 := List.getElem?_eq_some_iff.1 h
  rw [List.drop_eq_getElem_cons h1.1, h1.2]
theorem l5Kind_is (b : Nat) (v : Value) (ts : List T) (p : Nat) (deep : Int) (bad : Bool) (k : Int) (R : Bool) (hR : kindR bad k (ts.drop p) = R) (w : World) (s : Rd5 b v ts p deep bad w) :
    Calls Tryz.prog 134 #[.pointer (some ⟨b, 0, none⟩), .int .i64 k] w fun e w' => e = .returned (.bool R) ∧ Below w.heap.size w w' := by
  have HR := hid hR
  have S := hid s
  obtain ⟨ao, cap, hv, _⟩ := s.row
  have hp := s.hp
  have hts := s.hts
  clear hR s
  have bd : Below w.heap.size w w.drew := (Below.refl _ w).drew
  cases bad with
  | true =>
    have E := hid (show R = false by rw [← HR.out]; rfl)
    go_enter Tryz.func134, Tryz.ntmps134
    go_wp2_with fail
    refine wp_region_held_drew (S := Below w.heap.size w) (by kernel_rfl) bd (fun hHeld => ?_)
    refine wpAnyH_take (i := 0) (v := .pointer (some ⟨b, 0, Option.none⟩)) rfl (by kernel_rfl) (by kernel_rfl) (by kernel_rfl) (fun _ _ _ => id) (Or.inl ⟨by rfl, ?ya0⟩) hHeld ?_
    case ya0 => intro w hSw; go_simp
    simp only [Act.put, zp]
    refine wpAnyH_take (i := 1) (v := .pointer (some ⟨b, 0, Option.none⟩)) rfl (by kernel_rfl) (by kernel_rfl) (by kernel_rfl) (fun _ _ _ => id) (Or.inl ⟨by rfl, ?ya1⟩) hHeld ?_
    case ya1 => intro w hSw; go_simp
    simp only [Act.put, zp]
    refine wpAnyH_take (i := 2) (v := .pointer (some ⟨b, 3, Option.none⟩)) rfl (by kernel_rfl) (by kernel_rfl) (by kernel_rfl) (fun _ _ _ => id) (Or.inl ⟨by rfl, ?ya2⟩) hHeld ?_
    case ya2 => intro w hSw; go_simp
    simp only [Act.put, zp]
    refine wpAnyH_take (i := 3) (v := .bool true) rfl (by kernel_rfl) (by kernel_rfl) (by kernel_rfl) (fun _ _ _ => id) (Or.inl ⟨by rfl, ?ya3⟩) hHeld ?_
    case ya3 => intro w hSw; have q := (S.out.later hSw).cells; have q0 := q.1; have q1 := q.2.1; have q2 := q.2.2.1; have q3 := q.2.2.2; go_simp
    simp only [Act.put, zp]
    refine wpAnyH_take (i := 4) (v := .bool false) rfl (by kernel_rfl) (by kernel_rfl) (by kernel_rfl) (fun _ _ _ => id) (Or.inl ⟨by rfl, ?ya4⟩) hHeld ?_
    case ya4 => intro w hSw; go_simp
    simp only [Act.put, zp]
    refine wpAnyH_take (i := 5) (v := .bool false) rfl (by kernel_rfl) (by kernel_rfl) (by kernel_rfl) (fun _ _ _ => id) (Or.inl ⟨by rfl, ?ya5⟩) hHeld ?_
    case ya5 => intro w hSw; go_simp
    simp only [Act.put, zp]
    refine wpAnyH_take (i := 6) (v := undef) rfl (by kernel_rfl) (by kernel_rfl) (by kernel_rfl) (fun _ _ _ => id) (Or.inr ⟨by rfl, rfl⟩) hHeld ?_
    simp only [Act.put, zp]
    refine wpAnyH_take (i := 7) (v := undef) rfl (by kernel_rfl) (by kernel_rfl) (by kernel_rfl) (fun _ _ _ => id) (Or.inr ⟨by rfl, rfl⟩) hHeld ?_
    simp only [Act.put, zp]
    refine wpAnyH_take (i := 8) (v := undef) rfl (by kernel_rfl) (by kernel_rfl) (by kernel_rfl) (fun _ _ _ => id) (Or.inr ⟨by rfl, rfl⟩) hHeld ?_
    simp only [Act.put, zp]
    refine wpAnyH_take (i := 9) (v := undef) rfl (by kernel_rfl) (by kernel_rfl) (by kernel_rfl) (fun _ _ _ => id) (Or.inr ⟨by rfl, rfl⟩) hHeld ?_
    simp only [Act.put, zp]
    refine wpAnyH_take (i := 10) (v := undef) rfl (by kernel_rfl) (by kernel_rfl) (by kernel_rfl) (fun _ _ _ => id) (Or.inr ⟨by rfl, rfl⟩) hHeld ?_
    simp only [Act.put, zp]
    refine wpAnyH_take (i := 11) (v := undef) rfl (by kernel_rfl) (by kernel_rfl) (by kernel_rfl) (fun _ _ _ => id) (Or.inr ⟨by rfl, rfl⟩) hHeld ?_
    simp only [Act.put, zp]
    refine wpAnyH_take (i := 12) (v := undef) rfl (by kernel_rfl) (by kernel_rfl) (by kernel_rfl) (fun _ _ _ => id) (Or.inr ⟨by rfl, rfl⟩) hHeld ?_
    simp only [Act.put, zp]
    refine wpAnyH_take (i := 13) (v := undef) rfl (by kernel_rfl) (by kernel_rfl) (by kernel_rfl) (fun _ _ _ => id) (Or.inr ⟨by rfl, rfl⟩) hHeld ?_
    simp only [Act.put, zp]
    refine wpAnyH_take (i := 14) (v := undef) rfl (by kernel_rfl) (by kernel_rfl) (by kernel_rfl) (fun _ _ _ => id) (Or.inr ⟨by rfl, rfl⟩) hHeld ?_
    simp only [Act.put, zp]
    refine wpAnyH_take (i := 15) (v := undef) rfl (by kernel_rfl) (by kernel_rfl) (by kernel_rfl) (fun _ _ _ => id) (Or.inr ⟨by rfl, rfl⟩) hHeld ?_
    simp only [Act.put, zp]
    refine wpAnyH_take (i := 16) (v := .bool false) rfl (by kernel_rfl) (by kernel_rfl) (by kernel_rfl) (fun _ _ _ => id) (Or.inl ⟨by rfl, ?ya16⟩) hHeld ?_
    case ya16 => intro w hSw; go_simp
    simp only [Act.put, zp]
    refine wpAnyH_take (i := 17) (v := .bool false) rfl (by kernel_rfl) (by kernel_rfl) (by kernel_rfl) (fun _ _ _ => id) (Or.inl ⟨by rfl, ?ya17⟩) hHeld ?_
    case ya17 => intro w hSw; go_simp
    simp only [Act.put, zp]
    refine wpAnyH_take (i := 18) (v := undef) rfl (by kernel_rfl) (by kernel_rfl) (by kernel_rfl) (fun _ _ _ => id) (Or.inr ⟨by rfl, rfl⟩) hHeld ?_
    simp only [Act.put, zp]
    refine wpAnyH_take (i := 19) (v := undef) rfl (by kernel_rfl) (by kernel_rfl) (by kernel_rfl) (fun _ _ _ => id) (Or.inr ⟨by rfl, rfl⟩) hHeld ?_
    simp only [Act.put, zp]
    refine wpAnyH_take (i := 20) (v := undef) rfl (by kernel_rfl) (by kernel_rfl) (by kernel_rfl) (fun _ _ _ => id) (Or.inr ⟨by rfl, rfl⟩) hHeld ?_
    simp only [Act.put, zp]
    refine wpAnyH_take (i := 21) (v := undef) rfl (by kernel_rfl) (by kernel_rfl) (by kernel_rfl) (fun _ _ _ => id) (Or.inr ⟨by rfl, rfl⟩) hHeld ?_
    simp only [Act.put, zp]
    refine wpAnyH_take (i := 22) (v := undef) rfl (by kernel_rfl) (by kernel_rfl) (by kernel_rfl) (fun _ _ _ => id) (Or.inr ⟨by rfl, rfl⟩) hHeld ?_
    simp only [Act.put, zp]
    refine wpAnyH_take (i := 23) (v := undef) rfl (by kernel_rfl) (by kernel_rfl) (by kernel_rfl) (fun _ _ _ => id) (Or.inr ⟨by rfl, rfl⟩) hHeld ?_
    simp only [Act.put, zp]
    refine wpAnyH_take (i := 24) (v := undef) rfl (by kernel_rfl) (by kernel_rfl) (by kernel_rfl) (fun _ _ _ => id) (Or.inr ⟨by rfl, rfl⟩) hHeld ?_
    simp only [Act.put, zp]
    refine wpAnyH_take (i := 25) (v := undef) rfl (by kernel_rfl) (by kernel_rfl) (by kernel_rfl) (fun _ _ _ => id) (Or.inr ⟨by rfl, rfl⟩) hHeld ?_
    simp only [Act.put, zp]
    refine wpAnyH_take (i := 26) (v := undef) rfl (by kernel_rfl) (by kernel_rfl) (by kernel_rfl) (fun _ _ _ => id) (Or.inr ⟨by rfl, rfl⟩) hHeld ?_
    simp only [Act.put, zp]
    refine wpAnyH_take (i := 27) (v := undef) rfl (by kernel_rfl) (by kernel_rfl) (by kernel_rfl) (fun _ _ _ => id) (Or.inr ⟨by rfl, rfl⟩) hHeld ?_
    simp only [Act.put, zp]
    refine wpAnyH_take (i := 28) (v := undef) rfl (by kernel_rfl) (by kernel_rfl) (by kernel_rfl) (fun _ _ _ => id) (Or.inr ⟨by rfl, rfl⟩) hHeld ?_
    simp only [Act.put, zp]
    refine wpAnyH_take (i := 29) (v := undef) rfl (by kernel_rfl) (by kernel_rfl) (by kernel_rfl) (fun _ _ _ => id) (Or.inr ⟨by rfl, rfl⟩) hHeld ?_
    simp only [Act.put, zp]
    refine wpAnyH_take (i := 30) (v := undef) rfl (by kernel_rfl) (by kernel_rfl) (by kernel_rfl) (fun _ _ _ => id) (Or.inr ⟨by rfl, rfl⟩) hHeld ?_
    simp only [Act.put, zp]
    refine wpAnyH_take (i := 31) (v := .bool false) rfl (by kernel_rfl) (by kernel_rfl) (by kernel_rfl) (fun _ _ _ => id) (Or.inl ⟨by rfl, ?ya31⟩) hHeld ?_
    case ya31 => intro w hSw; go_simp
    simp only [Act.put, zp]
    refine wpAnyH_take (i := 32) (v := .bool false) rfl (by kernel_rfl) (by kernel_rfl) (by kernel_rfl) (fun _ _ _ => id) (Or.inl ⟨by rfl, ?ya32⟩) hHeld ?_
    case ya32 => intro w hSw; go_simp
    simp only [Act.put, zp]
    refine wpAnyH_done (by kernel_rfl) ?_ _
    have B := hid hHeld
    clear hHeld bd
    go_wp2
    go_ret
    exact ⟨retB5 E.out.symm, B.out⟩
  | false =>
    by_cases hlt : p < ts.length
    · have hltI : (p : Int) < (ts.length : Int) := by omega
      have hp0 : (0 : Int) ≤ (p : Int) := by omega
      obtain ⟨t, ht⟩ : ∃ t, ts[p]? = some t := ⟨ts[p], List.getElem?_eq_getElem hlt⟩
      obtain ⟨g, c, rfl, c0, c1, c2⟩ := S.out.row.at ht
      clear hv
      have C0 := hid c0
      have C1 := hid c1
      have C2 := hid c2
      clear c0 c1 c2
      by_cases hk : t.k = k
      · have E := hid (show R = true by rw [← HR.out, dropT ht]; simp [kindR, hk])
        have hkk : (t.k == k) = true := by simp [hk]
        clear hk ht
        go_enter Tryz.func134, Tryz.ntmps134
        go_wp2_with fail
        refine wp_region_held_drew (S := Below w.heap.size w) (by kernel_rfl) bd (fun hHeld => ?_)
        refine wpAnyH_take (i := 0) (v := .pointer (some ⟨b, 0, Option.none⟩)) rfl (by kernel_rfl) (by kernel_rfl) (by kernel_rfl) (fun _ _ _ => id) (Or.inl ⟨by rfl, ?yc0⟩) hHeld ?_
        case yc0 => intro w hSw; go_simp
        simp only [Act.put, zp]
        refine wpAnyH_take (i := 1) (v := .pointer (some ⟨b, 0, Option.none⟩)) rfl (by kernel_rfl) (by kernel_rfl) (by kernel_rfl) (fun _ _ _ => id) (Or.inl ⟨by rfl, ?yc1⟩) hHeld ?_
        case yc1 => intro w hSw; go_simp
        simp only [Act.put, zp]
        refine wpAnyH_take (i := 2) (v := .pointer (some ⟨b, 3, Option.none⟩)) rfl (by kernel_rfl) (by kernel_rfl) (by kernel_rfl) (fun _ _ _ => id) (Or.inl ⟨by rfl, ?yc2⟩) hHeld ?_
        case yc2 => intro w hSw; go_simp
        simp only [Act.put, zp]
        refine wpAnyH_take (i := 3) (v := .bool false) rfl (by kernel_rfl) (by kernel_rfl) (by kernel_rfl) (fun _ _ _ => id) (Or.inl ⟨by rfl, ?yc3⟩) hHeld ?_
        case yc3 => intro w hSw; have q := (S.out.later hSw).cells; have q0 := q.1; have q1 := q.2.1; have q2 := q.2.2.1; have q3 := q.2.2.2; go_simp
        simp only [Act.put, zp]
        refine wpAnyH_take (i := 4) (v := .bool true) rfl (by kernel_rfl) (by kernel_rfl) (by kernel_rfl) (fun _ _ _ => id) (Or.inl ⟨by rfl, ?yc4⟩) hHeld ?_
        case yc4 => intro w hSw; go_simp
        simp only [Act.put, zp]
        refine wpAnyH_take (i := 5) (v := .bool true) rfl (by kernel_rfl) (by kernel_rfl) (by kernel_rfl) (fun _ _ _ => id) (Or.inl ⟨by rfl, ?yc5⟩) hHeld ?_
        case yc5 => intro w hSw; go_simp
        simp only [Act.put, zp]
        refine wpAnyH_take (i := 6) (v := .pointer (some ⟨b, 0, Option.none⟩)) rfl (by kernel_rfl) (by kernel_rfl) (by kernel_rfl) (fun _ _ _ => id) (Or.inl ⟨by rfl, ?yc6⟩) hHeld ?_
        case yc6 => intro w hSw; go_simp
        simp only [Act.put, zp]
        refine wpAnyH_take (i := 7) (v := .pointer (some ⟨b, 0, Option.none⟩)) rfl (by kernel_rfl) (by kernel_rfl) (by kernel_rfl) (fun _ _ _ => id) (Or.inl ⟨by rfl, ?yc7⟩) hHeld ?_
        case yc7 => intro w hSw; go_simp
        simp only [Act.put, zp]
        refine wpAnyH_take (i := 8) (v := .pointer (some ⟨b, 1, Option.none⟩)) rfl (by kernel_rfl) (by kernel_rfl) (by kernel_rfl) (fun _ _ _ => id) (Or.inl ⟨by rfl, ?yc8⟩) hHeld ?_
        case yc8 => intro w hSw; go_simp
        simp only [Act.put, zp]
        refine wpAnyH_take (i := 9) (v := .int .i64 (p : Int)) rfl (by kernel_rfl) (by kernel_rfl) (by kernel_rfl) (fun _ _ _ => id) (Or.inl ⟨by rfl, ?yc9⟩) hHeld ?_
        case yc9 => intro w hSw; have q := (S.out.later hSw).cells; have q0 := q.1; have q1 := q.2.1; have q2 := q.2.2.1; have q3 := q.2.2.2; go_simp
        simp only [Act.put, zp]
        refine wpAnyH_take (i := 10) (v := .pointer (some ⟨b, 0, Option.none⟩)) rfl (by kernel_rfl) (by kernel_rfl) (by kernel_rfl) (fun _ _ _ => id) (Or.inl ⟨by rfl, ?yc10⟩) hHeld ?_
        case yc10 => intro w hSw; go_simp
        simp only [Act.put, zp]
        refine wpAnyH_take (i := 11) (v := .pointer (some ⟨b, 0, Option.none⟩)) rfl (by kernel_rfl) (by kernel_rfl) (by kernel_rfl) (fun _ _ _ => id) (Or.inl ⟨by rfl, ?yc11⟩) hHeld ?_
        case yc11 => intro w hSw; go_simp
        simp only [Act.put, zp]
        refine wpAnyH_take (i := 12) (v := .pointer (some ⟨b, 0, Option.none⟩)) rfl (by kernel_rfl) (by kernel_rfl) (by kernel_rfl) (fun _ _ _ => id) (Or.inl ⟨by rfl, ?yc12⟩) hHeld ?_
        case yc12 => intro w hSw; go_simp
        simp only [Act.put, zp]
        refine wpAnyH_take (i := 13) (v := .slice (some ⟨g, 0, Option.none⟩) ts.length c) rfl (by kernel_rfl) (by kernel_rfl) (by kernel_rfl) (fun _ _ _ => id) (Or.inl ⟨by rfl, ?yc13⟩) hHeld ?_
        case yc13 => intro w hSw; have q := (S.out.later hSw).cells; have q0 := q.1; have q1 := q.2.1; have q2 := q.2.2.1; have q3 := q.2.2.2; go_simp
        simp only [Act.put, zp]
        refine wpAnyH_take (i := 14) (v := .int .i64 (ts.length : Int)) rfl (by kernel_rfl) (by kernel_rfl) (by kernel_rfl) (fun _ _ _ => id) (Or.inl ⟨by rfl, ?yc14⟩) hHeld ?_
        case yc14 => intro w hSw; go_simp
        simp only [Act.put, zp]
        refine wpAnyH_take (i := 15) (v := .bool true) rfl (by kernel_rfl) (by kernel_rfl) (by kernel_rfl) (fun _ _ _ => id) (Or.inl ⟨by rfl, ?yc15⟩) hHeld ?_
        case yc15 => intro w hSw; go_simp
        simp only [Act.put, zp]
        refine wpAnyH_take (i := 16) (v := .bool true) rfl (by kernel_rfl) (by kernel_rfl) (by kernel_rfl) (fun _ _ _ => id) (Or.inl ⟨by rfl, ?yc16⟩) hHeld ?_
        case yc16 => intro w hSw; go_simp
        simp only [Act.put, zp]
        refine wpAnyH_take (i := 17) (v := .bool true) rfl (by kernel_rfl) (by kernel_rfl) (by kernel_rfl) (fun _ _ _ => id) (Or.inl ⟨by rfl, ?yc17⟩) hHeld ?_
        case yc17 => intro w hSw; go_simp
        simp only [Act.put, zp]
        refine wpAnyH_take (i := 18) (v := .pointer (some ⟨b, 0, Option.none⟩)) rfl (by kernel_rfl) (by kernel_rfl) (by kernel_rfl) (fun _ _ _ => id) (Or.inl ⟨by rfl, ?yc18⟩) hHeld ?_
        case yc18 => intro w hSw; go_simp
        simp only [Act.put, zp]
        refine wpAnyH_take (i := 19) (v := .pointer (some ⟨b, 0, Option.none⟩)) rfl (by kernel_rfl) (by kernel_rfl) (by kernel_rfl) (fun _ _ _ => id) (Or.inl ⟨by rfl, ?yc19⟩) hHeld ?_
        case yc19 => intro w hSw; go_simp
        simp only [Act.put, zp]
        refine wpAnyH_take (i := 20) (v := .pointer (some ⟨b, 0, Option.none⟩)) rfl (by kernel_rfl) (by kernel_rfl) (by kernel_rfl) (fun _ _ _ => id) (Or.inl ⟨by rfl, ?yc20⟩) hHeld ?_
        case yc20 => intro w hSw; go_simp
        simp only [Act.put, zp]
        refine wpAnyH_take (i := 21) (v := .slice (some ⟨g, 0, Option.none⟩) ts.length c) rfl (by kernel_rfl) (by kernel_rfl) (by kernel_rfl) (fun _ _ _ => id) (Or.inl ⟨by rfl, ?yc21⟩) hHeld ?_
        case yc21 => intro w hSw; have q := (S.out.later hSw).cells; have q0 := q.1; have q1 := q.2.1; have q2 := q.2.2.1; have q3 := q.2.2.2; go_simp
        simp only [Act.put, zp]
        refine wpAnyH_take (i := 22) (v := .pointer (some ⟨b, 0, Option.none⟩)) rfl (by kernel_rfl) (by kernel_rfl) (by kernel_rfl) (fun _ _ _ => id) (Or.inl ⟨by rfl, ?yc22⟩) hHeld ?_
        case yc22 => intro w hSw; go_simp
        simp only [Act.put, zp]
        refine wpAnyH_take (i := 23) (v := .pointer (some ⟨b, 0, Option.none⟩)) rfl (by kernel_rfl) (by kernel_rfl) (by kernel_rfl) (fun _ _ _ => id) (Or.inl ⟨by rfl, ?yc23⟩) hHeld ?_
        case yc23 => intro w hSw; go_simp
        simp only [Act.put, zp]
        refine wpAnyH_take (i := 24) (v := .pointer (some ⟨b, 1, Option.none⟩)) rfl (by kernel_rfl) (by kernel_rfl) (by kernel_rfl) (fun _ _ _ => id) (Or.inl ⟨by rfl, ?yc24⟩) hHeld ?_
        case yc24 => intro w hSw; go_simp
        simp only [Act.put, zp]
        refine wpAnyH_take (i := 25) (v := .int .i64 (p : Int)) rfl (by kernel_rfl) (by kernel_rfl) (by kernel_rfl) (fun _ _ _ => id) (Or.inl ⟨by rfl, ?yc25⟩) hHeld ?_
        case yc25 => intro w hSw; have q := (S.out.later hSw).cells; have q0 := q.1; have q1 := q.2.1; have q2 := q.2.2.1; have q3 := q.2.2.2; go_simp
        simp only [Act.put, zp]
        refine wpAnyH_take (i := 26) (v := .pointer (some ⟨g, p * 3, Option.none⟩)) rfl (by kernel_rfl) (by kernel_rfl) (by kernel_rfl) (fun _ _ _ => id) (Or.inl ⟨by rfl, ?yc26⟩) hHeld ?_
        case yc26 => intro w hSw; go_simp
        simp only [Act.put, zp]
        refine wpAnyH_take (i := 27) (v := .pointer (some ⟨g, p * 3, Option.none⟩)) rfl (by kernel_rfl) (by kernel_rfl) (by kernel_rfl) (fun _ _ _ => id) (Or.inl ⟨by rfl, ?yc27⟩) hHeld ?_
        case yc27 => intro w hSw; go_simp
        simp only [Act.put, zp]
        refine wpAnyH_take (i := 28) (v := .int .i64 t.k) rfl (by kernel_rfl) (by kernel_rfl) (by kernel_rfl) (fun _ _ _ => id) (Or.inl ⟨by rfl, ?yc28⟩) hHeld ?_
        case yc28 => intro w hSw; have q0 := keeps hSw C0.out; have q1 := keeps hSw C1.out; have q2 := keeps hSw C2.out; go_simp
        simp only [Act.put, zp]
        refine wpAnyH_take (i := 29) (v := .int .i64 k) rfl (by kernel_rfl) (by kernel_rfl) (by kernel_rfl) (fun _ _ _ => id) (Or.inl ⟨by rfl, ?yc29⟩) hHeld ?_
        case yc29 => intro w hSw; go_simp
        simp only [Act.put, zp]
        refine wpAnyH_take (i := 30) (v := .bool true) rfl (by kernel_rfl) (by kernel_rfl) (by kernel_rfl) (fun _ _ _ => id) (Or.inl ⟨by rfl, ?yc30⟩) hHeld ?_
        case yc30 => intro w hSw; go_simp
        simp only [Act.put, zp]
        refine wpAnyH_take (i := 31) (v := .bool true) rfl (by kernel_rfl) (by kernel_rfl) (by kernel_rfl) (fun _ _ _ => id) (Or.inl ⟨by rfl, ?yc31⟩) hHeld ?_
        case yc31 => intro w hSw; go_simp
        simp only [Act.put, zp]
        refine wpAnyH_take (i := 32) (v := .bool true) rfl (by kernel_rfl) (by kernel_rfl) (by kernel_rfl) (fun _ _ _ => id) (Or.inl ⟨by rfl, ?yc32⟩) hHeld ?_
        case yc32 => intro w hSw; go_simp
        simp only [Act.put, zp]
        refine wpAnyH_done (by kernel_rfl) ?_ _
        have B := hid hHeld
        clear hHeld bd
        go_wp2
        go_ret
        exact ⟨retB5 E.out.symm, B.out⟩
      · have E := hid (show R = false by rw [← HR.out, dropT ht]; simp [kindR, hk])
        have hkk : (t.k == k) = false := by simp [hk]
        clear hk ht
        go_enter Tryz.func134, Tryz.ntmps134
        go_wp2_with fail
        refine wp_region_held_drew (S := Below w.heap.size w) (by kernel_rfl) bd (fun hHeld => ?_)
        refine wpAnyH_take (i := 0) (v := .pointer (some ⟨b, 0, Option.none⟩)) rfl (by kernel_rfl) (by kernel_rfl) (by kernel_rfl) (fun _ _ _ => id) (Or.inl ⟨by rfl, ?yd0⟩) hHeld ?_
        case yd0 => intro w hSw; go_simp
        simp only [Act.put, zp]
        refine wpAnyH_take (i := 1) (v := .pointer (some ⟨b, 0, Option.none⟩)) rfl (by kernel_rfl) (by kernel_rfl) (by kernel_rfl) (fun _ _ _ => id) (Or.inl ⟨by rfl, ?yd1⟩) hHeld ?_
        case yd1 => intro w hSw; go_simp
        simp only [Act.put, zp]
        refine wpAnyH_take (i := 2) (v := .pointer (some ⟨b, 3, Option.none⟩)) rfl (by kernel_rfl) (by kernel_rfl) (by kernel_rfl) (fun _ _ _ => id) (Or.inl ⟨by rfl, ?yd2⟩) hHeld ?_
        case yd2 => intro w hSw; go_simp
        simp only [Act.put, zp]
        refine wpAnyH_take (i := 3) (v := .bool false) rfl (by kernel_rfl) (by kernel_rfl) (by kernel_rfl) (fun _ _ _ => id) (Or.inl ⟨by rfl, ?yd3⟩) hHeld ?_
        case yd3 => intro w hSw; have q := (S.out.later hSw).cells; have q0 := q.1; have q1 := q.2.1; have q2 := q.2.2.1; have q3 := q.2.2.2; go_simp
        simp only [Act.put, zp]
        refine wpAnyH_take (i := 4) (v := .bool true) rfl (by kernel_rfl) (by kernel_rfl) (by kernel_rfl) (fun _ _ _ => id) (Or.inl ⟨by rfl, ?yd4⟩) hHeld ?_
        case yd4 => intro w hSw; go_simp
        simp only [Act.put, zp]
        refine wpAnyH_take (i := 5) (v := .bool true) rfl (by kernel_rfl) (by kernel_rfl) (by kernel_rfl) (fun _ _ _ => id) (Or.inl ⟨by rfl, ?yd5⟩) hHeld ?_
        case yd5 => intro w hSw; go_simp
        simp only [Act.put, zp]
        refine wpAnyH_take (i := 6) (v := .pointer (some ⟨b, 0, Option.none⟩)) rfl (by kernel_rfl) (by kernel_rfl) (by kernel_rfl) (fun _ _ _ => id) (Or.inl ⟨by rfl, ?yd6⟩) hHeld ?_
        case yd6 => intro w hSw; go_simp
        simp only [Act.put, zp]
        refine wpAnyH_take (i := 7) (v := .pointer (some ⟨b, 0, Option.none⟩)) rfl (by kernel_rfl) (by kernel_rfl) (by kernel_rfl) (fun _ _ _ => id) (Or.inl ⟨by rfl, ?yd7⟩) hHeld ?_
        case yd7 => intro w hSw; go_simp
        simp only [Act.put, zp]
        refine wpAnyH_take (i := 8) (v := .pointer (some ⟨b, 1, Option.none⟩)) rfl (by kernel_rfl) (by kernel_rfl) (by kernel_rfl) (fun _ _ _ => id) (Or.inl ⟨by rfl, ?yd8⟩) hHeld ?_
        case yd8 => intro w hSw; go_simp
        simp only [Act.put, zp]
        refine wpAnyH_take (i := 9) (v := .int .i64 (p : Int)) rfl (by kernel_rfl) (by kernel_rfl) (by kernel_rfl) (fun _ _ _ => id) (Or.inl ⟨by rfl, ?yd9⟩) hHeld ?_
        case yd9 => intro w hSw; have q := (S.out.later hSw).cells; have q0 := q.1; have q1 := q.2.1; have q2 := q.2.2.1; have q3 := q.2.2.2; go_simp
        simp only [Act.put, zp]
        refine wpAnyH_take (i := 10) (v := .pointer (some ⟨b, 0, Option.none⟩)) rfl (by kernel_rfl) (by kernel_rfl) (by kernel_rfl) (fun _ _ _ => id) (Or.inl ⟨by rfl, ?yd10⟩) hHeld ?_
        case yd10 => intro w hSw; go_simp
        simp only [Act.put, zp]
        refine wpAnyH_take (i := 11) (v := .pointer (some ⟨b, 0, Option.none⟩)) rfl (by kernel_rfl) (by kernel_rfl) (by kernel_rfl) (fun _ _ _ => id) (Or.inl ⟨by rfl, ?yd11⟩) hHeld ?_
        case yd11 => intro w hSw; go_simp
        simp only [Act.put, zp]
        refine wpAnyH_take (i := 12) (v := .pointer (some ⟨b, 0, Option.none⟩)) rfl (by kernel_rfl) (by kernel_rfl) (by kernel_rfl) (fun _ _ _ => id) (Or.inl ⟨by rfl, ?yd12⟩) hHeld ?_
        case yd12 => intro w hSw; go_simp
        simp only [Act.put, zp]
        refine wpAnyH_take (i := 13) (v := .slice (some ⟨g, 0, Option.none⟩) ts.length c) rfl (by kernel_rfl) (by kernel_rfl) (by kernel_rfl) (fun _ _ _ => id) (Or.inl ⟨by rfl, ?yd13⟩) hHeld ?_
        case yd13 => intro w hSw; have q := (S.out.later hSw).cells; have q0 := q.1; have q1 := q.2.1; have q2 := q.2.2.1; have q3 := q.2.2.2; go_simp
        simp only [Act.put, zp]
        refine wpAnyH_take (i := 14) (v := .int .i64 (ts.length : Int)) rfl (by kernel_rfl) (by kernel_rfl) (by kernel_rfl) (fun _ _ _ => id) (Or.inl ⟨by rfl, ?yd14⟩) hHeld ?_
        case yd14 => intro w hSw; go_simp
        simp only [Act.put, zp]
        refine wpAnyH_take (i := 15) (v := .bool true) rfl (by kernel_rfl) (by kernel_rfl) (by kernel_rfl) (fun _ _ _ => id) (Or.inl ⟨by rfl, ?yd15⟩) hHeld ?_
        case yd15 => intro w hSw; go_simp
        simp only [Act.put, zp]
        refine wpAnyH_take (i := 16) (v := .bool true) rfl (by kernel_rfl) (by kernel_rfl) (by kernel_rfl) (fun _ _ _ => id) (Or.inl ⟨by rfl, ?yd16⟩) hHeld ?_
        case yd16 => intro w hSw; go_simp
        simp only [Act.put, zp]
        refine wpAnyH_take (i := 17) (v := .bool true) rfl (by kernel_rfl) (by kernel_rfl) (by kernel_rfl) (fun _ _ _ => id) (Or.inl ⟨by rfl, ?yd17⟩) hHeld ?_
        case yd17 => intro w hSw; go_simp
        simp only [Act.put, zp]
        refine wpAnyH_take (i := 18) (v := .pointer (some ⟨b, 0, Option.none⟩)) rfl (by kernel_rfl) (by kernel_rfl) (by kernel_rfl) (fun _ _ _ => id) (Or.inl ⟨by rfl, ?yd18⟩) hHeld ?_
        case yd18 => intro w hSw; go_simp
        simp only [Act.put, zp]
        refine wpAnyH_take (i := 19) (v := .pointer (some ⟨b, 0, Option.none⟩)) rfl (by kernel_rfl) (by kernel_rfl) (by kernel_rfl) (fun _ _ _ => id) (Or.inl ⟨by rfl, ?yd19⟩) hHeld ?_
        case yd19 => intro w hSw; go_simp
        simp only [Act.put, zp]
        refine wpAnyH_take (i := 20) (v := .pointer (some ⟨b, 0, Option.none⟩)) rfl (by kernel_rfl) (by kernel_rfl) (by kernel_rfl) (fun _ _ _ => id) (Or.inl ⟨by rfl, ?yd20⟩) hHeld ?_
        case yd20 => intro w hSw; go_simp
        simp only [Act.put, zp]
        refine wpAnyH_take (i := 21) (v := .slice (some ⟨g, 0, Option.none⟩) ts.length c) rfl (by kernel_rfl) (by kernel_rfl) (by kernel_rfl) (fun _ _ _ => id) (Or.inl ⟨by rfl, ?yd21⟩) hHeld ?_
        case yd21 => intro w hSw; have q := (S.out.later hSw).cells; have q0 := q.1; have q1 := q.2.1; have q2 := q.2.2.1; have q3 := q.2.2.2; go_simp
        simp only [Act.put, zp]
        refine wpAnyH_take (i := 22) (v := .pointer (some ⟨b, 0, Option.none⟩)) rfl (by kernel_rfl) (by kernel_rfl) (by kernel_rfl) (fun _ _ _ => id) (Or.inl ⟨by rfl, ?yd22⟩) hHeld ?_
        case yd22 => intro w hSw; go_simp
        simp only [Act.put, zp]
        refine wpAnyH_take (i := 23) (v := .pointer (some ⟨b, 0, Option.none⟩)) rfl (by kernel_rfl) (by kernel_rfl) (by kernel_rfl) (fun _ _ _ => id) (Or.inl ⟨by rfl, ?yd23⟩) hHeld ?_
        case yd23 => intro w hSw; go_simp
        simp only [Act.put, zp]
        refine wpAnyH_take (i := 24) (v := .pointer (some ⟨b, 1, Option.none⟩)) rfl (by kernel_rfl) (by kernel_rfl) (by kernel_rfl) (fun _ _ _ => id) (Or.inl ⟨by rfl, ?yd24⟩) hHeld ?_
        case yd24 => intro w hSw; go_simp
        simp only [Act.put, zp]
        refine wpAnyH_take (i := 25) (v := .int .i64 (p : Int)) rfl (by kernel_rfl) (by kernel_rfl) (by kernel_rfl) (fun _ _ _ => id) (Or.inl ⟨by rfl, ?yd25⟩) hHeld ?_
        case yd25 => intro w hSw; have q := (S.out.later hSw).cells; have q0 := q.1; have q1 := q.2.1; have q2 := q.2.2.1; have q3 := q.2.2.2; go_simp
        simp only [Act.put, zp]
        refine wpAnyH_take (i := 26) (v := .pointer (some ⟨g, p * 3, Option.none⟩)) rfl (by kernel_rfl) (by kernel_rfl) (by kernel_rfl) (fun _ _ _ => id) (Or.inl ⟨by rfl, ?yd26⟩) hHeld ?_
        case yd26 => intro w hSw; go_simp
        simp only [Act.put, zp]
        refine wpAnyH_take (i := 27) (v := .pointer (some ⟨g, p * 3, Option.none⟩)) rfl (by kernel_rfl) (by kernel_rfl) (by kernel_rfl) (fun _ _ _ => id) (Or.inl ⟨by rfl, ?yd27⟩) hHeld ?_
        case yd27 => intro w hSw; go_simp
        simp only [Act.put, zp]
        refine wpAnyH_take (i := 28) (v := .int .i64 t.k) rfl (by kernel_rfl) (by kernel_rfl) (by kernel_rfl) (fun _ _ _ => id) (Or.inl ⟨by rfl, ?yd28⟩) hHeld ?_
        case yd28 => intro w hSw; have q0 := keeps hSw C0.out; have q1 := keeps hSw C1.out; have q2 := keeps hSw C2.out; go_simp
        simp only [Act.put, zp]
        refine wpAnyH_take (i := 29) (v := .int .i64 k) rfl (by kernel_rfl) (by kernel_rfl) (by kernel_rfl) (fun _ _ _ => id) (Or.inl ⟨by rfl, ?yd29⟩) hHeld ?_
        case yd29 => intro w hSw; go_simp
        simp only [Act.put, zp]
        refine wpAnyH_take (i := 30) (v := .bool false) rfl (by kernel_rfl) (by kernel_rfl) (by kernel_rfl) (fun _ _ _ => id) (Or.inl ⟨by rfl, ?yd30⟩) hHeld ?_
        case yd30 => intro w hSw; go_simp
        simp only [Act.put, zp]
        refine wpAnyH_take (i := 31) (v := .bool false) rfl (by kernel_rfl) (by kernel_rfl) (by kernel_rfl) (fun _ _ _ => id) (Or.inl ⟨by rfl, ?yd31⟩) hHeld ?_
        case yd31 => intro w hSw; go_simp
        simp only [Act.put, zp]
        refine wpAnyH_take (i := 32) (v := .bool false) rfl (by kernel_rfl) (by kernel_rfl) (by kernel_rfl) (fun _ _ _ => id) (Or.inl ⟨by rfl, ?yd32⟩) hHeld ?_
        case yd32 => intro w hSw; go_simp
        simp only [Act.put, zp]
        refine wpAnyH_done (by kernel_rfl) ?_ _
        have B := hid hHeld
        clear hHeld bd
        go_wp2
        go_ret
        exact ⟨retB5 E.out.symm, B.out⟩
    · have hltI : ¬ (p : Int) < (ts.length : Int) := by omega
      have E := hid (show R = false by rw [← HR.out, List.drop_of_length_le (by omega)]; rfl)
      subst hv
      go_enter Tryz.func134, Tryz.ntmps134
      go_wp2_with fail
      refine wp_region_held_drew (S := Below w.heap.size w) (by kernel_rfl) bd (fun hHeld => ?_)
      refine wpAnyH_take (i := 0) (v := .pointer (some ⟨b, 0, Option.none⟩)) rfl (by kernel_rfl) (by kernel_rfl) (by kernel_rfl) (fun _ _ _ => id) (Or.inl ⟨by rfl, ?ye0⟩) hHeld ?_
      case ye0 => intro w hSw; go_simp
      simp only [Act.put, zp]
      refine wpAnyH_take (i := 1) (v := .pointer (some ⟨b, 0, Option.none⟩)) rfl (by kernel_rfl) (by kernel_rfl) (by kernel_rfl) (fun _ _ _ => id) (Or.inl ⟨by rfl, ?ye1⟩) hHeld ?_
      case ye1 => intro w hSw; go_simp
      simp only [Act.put, zp]
      refine wpAnyH_take (i := 2) (v := .pointer (some ⟨b, 3, Option.none⟩)) rfl (by kernel_rfl) (by kernel_rfl) (by kernel_rfl) (fun _ _ _ => id) (Or.inl ⟨by rfl, ?ye2⟩) hHeld ?_
      case ye2 => intro w hSw; go_simp
      simp only [Act.put, zp]
      refine wpAnyH_take (i := 3) (v := .bool false) rfl (by kernel_rfl) (by kernel_rfl) (by kernel_rfl) (fun _ _ _ => id) (Or.inl ⟨by rfl, ?ye3⟩) hHeld ?_
      case ye3 => intro w hSw; have q := (S.out.later hSw).cells; have q0 := q.1; have q1 := q.2.1; have q2 := q.2.2.1; have q3 := q.2.2.2; go_simp
      simp only [Act.put, zp]
      refine wpAnyH_take (i := 4) (v := .bool true) rfl (by kernel_rfl) (by kernel_rfl) (by kernel_rfl) (fun _ _ _ => id) (Or.inl ⟨by rfl, ?ye4⟩) hHeld ?_
      case ye4 => intro w hSw; go_simp
      simp only [Act.put, zp]
      refine wpAnyH_take (i := 5) (v := .bool true) rfl (by kernel_rfl) (by kernel_rfl) (by kernel_rfl) (fun _ _ _ => id) (Or.inl ⟨by rfl, ?ye5⟩) hHeld ?_
      case ye5 => intro w hSw; go_simp
      simp only [Act.put, zp]
      refine wpAnyH_take (i := 6) (v := .pointer (some ⟨b, 0, Option.none⟩)) rfl (by kernel_rfl) (by kernel_rfl) (by kernel_rfl) (fun _ _ _ => id) (Or.inl ⟨by rfl, ?ye6⟩) hHeld ?_
      case ye6 => intro w hSw; go_simp
      simp only [Act.put, zp]
      refine wpAnyH_take (i := 7) (v := .pointer (some ⟨b, 0, Option.none⟩)) rfl (by kernel_rfl) (by kernel_rfl) (by kernel_rfl) (fun _ _ _ => id) (Or.inl ⟨by rfl, ?ye7⟩) hHeld ?_
      case ye7 => intro w hSw; go_simp
      simp only [Act.put, zp]
      refine wpAnyH_take (i := 8) (v := .pointer (some ⟨b, 1, Option.none⟩)) rfl (by kernel_rfl) (by kernel_rfl) (by kernel_rfl) (fun _ _ _ => id) (Or.inl ⟨by rfl, ?ye8⟩) hHeld ?_
      case ye8 => intro w hSw; go_simp
      simp only [Act.put, zp]
      refine wpAnyH_take (i := 9) (v := .int .i64 (p : Int)) rfl (by kernel_rfl) (by kernel_rfl) (by kernel_rfl) (fun _ _ _ => id) (Or.inl ⟨by rfl, ?ye9⟩) hHeld ?_
      case ye9 => intro w hSw; have q := (S.out.later hSw).cells; have q0 := q.1; have q1 := q.2.1; have q2 := q.2.2.1; have q3 := q.2.2.2; go_simp
      simp only [Act.put, zp]
      refine wpAnyH_take (i := 10) (v := .pointer (some ⟨b, 0, Option.none⟩)) rfl (by kernel_rfl) (by kernel_rfl) (by kernel_rfl) (fun _ _ _ => id) (Or.inl ⟨by rfl, ?ye10⟩) hHeld ?_
      case ye10 => intro w hSw; go_simp
      simp only [Act.put, zp]
      refine wpAnyH_take (i := 11) (v := .pointer (some ⟨b, 0, Option.none⟩)) rfl (by kernel_rfl) (by kernel_rfl) (by kernel_rfl) (fun _ _ _ => id) (Or.inl ⟨by rfl, ?ye11⟩) hHeld ?_
      case ye11 => intro w hSw; go_simp
      simp only [Act.put, zp]
      refine wpAnyH_take (i := 12) (v := .pointer (some ⟨b, 0, Option.none⟩)) rfl (by kernel_rfl) (by kernel_rfl) (by kernel_rfl) (fun _ _ _ => id) (Or.inl ⟨by rfl, ?ye12⟩) hHeld ?_
      case ye12 => intro w hSw; go_simp
      simp only [Act.put, zp]
      refine wpAnyH_take (i := 13) (v := .slice ao ts.length cap) rfl (by kernel_rfl) (by kernel_rfl) (by kernel_rfl) (fun _ _ _ => id) (Or.inl ⟨by rfl, ?ye13⟩) hHeld ?_
      case ye13 => intro w hSw; have q := (S.out.later hSw).cells; have q0 := q.1; have q1 := q.2.1; have q2 := q.2.2.1; have q3 := q.2.2.2; go_simp
      simp only [Act.put, zp]
      refine wpAnyH_take (i := 14) (v := .int .i64 (ts.length : Int)) rfl (by kernel_rfl) (by kernel_rfl) (by kernel_rfl) (fun _ _ _ => id) (Or.inl ⟨by rfl, ?ye14⟩) hHeld ?_
      case ye14 => intro w hSw; go_simp
      simp only [Act.put, zp]
      refine wpAnyH_take (i := 15) (v := .bool false) rfl (by kernel_rfl) (by kernel_rfl) (by kernel_rfl) (fun _ _ _ => id) (Or.inl ⟨by rfl, ?ye15⟩) hHeld ?_
      case ye15 => intro w hSw; go_simp
      simp only [Act.put, zp]
      refine wpAnyH_take (i := 16) (v := .bool false) rfl (by kernel_rfl) (by kernel_rfl) (by kernel_rfl) (fun _ _ _ => id) (Or.inl ⟨by rfl, ?ye16⟩) hHeld ?_
      case ye16 => intro w hSw; go_simp
      simp only [Act.put, zp]
      refine wpAnyH_take (i := 17) (v := .bool false) rfl (by kernel_rfl) (by kernel_rfl) (by kernel_rfl) (fun _ _ _ => id) (Or.inl ⟨by rfl, ?ye17⟩) hHeld ?_
      case ye17 => intro w hSw; go_simp
      simp only [Act.put, zp]
      refine wpAnyH_take (i := 18) (v := undef) rfl (by kernel_rfl) (by kernel_rfl) (by kernel_rfl) (fun _ _ _ => id) (Or.inr ⟨by rfl, rfl⟩) hHeld ?_
      simp only [Act.put, zp]
      refine wpAnyH_take (i := 19) (v := undef) rfl (by kernel_rfl) (by kernel_rfl) (by kernel_rfl) (fun _ _ _ => id) (Or.inr ⟨by rfl, rfl⟩) hHeld ?_
      simp only [Act.put, zp]
      refine wpAnyH_take (i := 20) (v := undef) rfl (by kernel_rfl) (by kernel_rfl) (by kernel_rfl) (fun _ _ _ => id) (Or.inr ⟨by rfl, rfl⟩) hHeld ?_
      simp only [Act.put, zp]
      refine wpAnyH_take (i := 21) (v := undef) rfl (by kernel_rfl) (by kernel_rfl) (by kernel_rfl) (fun _ _ _ => id) (Or.inr ⟨by rfl, rfl⟩) hHeld ?_
      simp only [Act.put, zp]
      refine wpAnyH_take (i := 22) (v := undef) rfl (by kernel_rfl) (by kernel_rfl) (by kernel_rfl) (fun _ _ _ => id) (Or.inr ⟨by rfl, rfl⟩) hHeld ?_
      simp only [Act.put, zp]
      refine wpAnyH_take (i := 23) (v := undef) rfl (by kernel_rfl) (by kernel_rfl) (by kernel_rfl) (fun _ _ _ => id) (Or.inr ⟨by rfl, rfl⟩) hHeld ?_
      simp only [Act.put, zp]
      refine wpAnyH_take (i := 24) (v := undef) rfl (by kernel_rfl) (by kernel_rfl) (by kernel_rfl) (fun _ _ _ => id) (Or.inr ⟨by rfl, rfl⟩) hHeld ?_
      simp only [Act.put, zp]
      refine wpAnyH_take (i := 25) (v := undef) rfl (by kernel_rfl) (by kernel_rfl) (by kernel_rfl) (fun _ _ _ => id) (Or.inr ⟨by rfl, rfl⟩) hHeld ?_
      simp only [Act.put, zp]
      refine wpAnyH_take (i := 26) (v := undef) rfl (by kernel_rfl) (by kernel_rfl) (by kernel_rfl) (fun _ _ _ => id) (Or.inr ⟨by rfl, rfl⟩) hHeld ?_
      simp only [Act.put, zp]
      refine wpAnyH_take (i := 27) (v := undef) rfl (by kernel_rfl) (by kernel_rfl) (by kernel_rfl) (fun _ _ _ => id) (Or.inr ⟨by rfl, rfl⟩) hHeld ?_
      simp only [Act.put, zp]
      refine wpAnyH_take (i := 28) (v := undef) rfl (by kernel_rfl) (by kernel_rfl) (by kernel_rfl) (fun _ _ _ => id) (Or.inr ⟨by rfl, rfl⟩) hHeld ?_
      simp only [Act.put, zp]
      refine wpAnyH_take (i := 29) (v := undef) rfl (by kernel_rfl) (by kernel_rfl) (by kernel_rfl) (fun _ _ _ => id) (Or.inr ⟨by rfl, rfl⟩) hHeld ?_
      simp only [Act.put, zp]
      refine wpAnyH_take (i := 30) (v := undef) rfl (by kernel_rfl) (by kernel_rfl) (by kernel_rfl) (fun _ _ _ => id) (Or.inr ⟨by rfl, rfl⟩) hHeld ?_
      simp only [Act.put, zp]
      refine wpAnyH_take (i := 31) (v := .bool false) rfl (by kernel_rfl) (by kernel_rfl) (by kernel_rfl) (fun _ _ _ => id) (Or.inl ⟨by rfl, ?ye31⟩) hHeld ?_
      case ye31 => intro w hSw; go_simp
      simp only [Act.put, zp]
      refine wpAnyH_take (i := 32) (v := .bool false) rfl (by kernel_rfl) (by kernel_rfl) (by kernel_rfl) (fun _ _ _ => id) (Or.inl ⟨by rfl, ?ye32⟩) hHeld ?_
      case ye32 => intro w hSw; go_simp
      simp only [Act.put, zp]
      refine wpAnyH_done (by kernel_rfl) ?_ _
      have B := hid hHeld
      clear hHeld bd
      go_wp2
      go_ret
      exact ⟨retB5 E.out.symm, B.out⟩
theorem kindR_true {bad : Bool} {k : Int} {ts : List T} {p : Nat} (h : kindR bad k (ts.drop p) = true) : bad = false ∧ ∃ t, ts[p]? = some t ∧ t.k = k ∧ p < ts.length := by
  unfold kindR at h
  cases bad with
  | true => cases h
  | false =>
    refine ⟨rfl, ?_⟩
    by_cases hlt : p < ts.length
    · have ht : ts[p]? = some ts[p] := List.getElem?_eq_getElem hlt
      rw [dropT ht] at h
      simp only [Bool.not_false, Bool.true_and, decide_eq_true_eq] at h
      exact ⟨ts[p], ht, h, hlt⟩
    · rw [List.drop_of_length_le (by omega)] at h
      cases h
theorem bs_inj {a b : List UInt8} (h : bs a = bs b) : a = b := by
  have := congrArg (fun x => x.data.toList) h
  simpa [bs] using this
theorem bs_ne {a b : List UInt8} (h : ¬ a = b) : ¬ (bs a).toList = (bs b).toList := by
  have := str_ne (fun e => h (bs_inj e))
  exact beq_eq_false_iff_ne.1 this
theorem isR_false {bad : Bool} {k : Int} {s : List UInt8} {l : List T} (h : kindR bad k l = false) : isR bad k s l = false := by unfold isR; rw [h]; rfl
theorem l5Is_is (b : Nat) (v : Value) (ts : List T) (p : Nat) (deep : Int) (bad : Bool) (k : Int) (s : List UInt8) (R : Bool) (hR : isR bad k s (ts.drop p) = R) (w : World) (st : Rd5 b v ts p deep bad w) :
    Calls Tryz.prog 133 #[.pointer (some ⟨b, 0, none⟩), .int .i64 k, .string (bs s)] w fun e w' => e = .returned (.bool R) ∧ Rd5 b v ts (p + R.toNat) deep bad w' ∧ Wr b w w' := by
  have HR := hid hR
  have S := hid st
  have hts := st.hts
  clear hR st
  obtain ⟨K, HK⟩ : ∃ K, Hid (kindR bad k (ts.drop p) = K) := ⟨_, rfl⟩
  have CK : Hid (∀ W, Below w.heap.size w W → Calls Tryz.prog 134 #[.pointer (some ⟨b, 0, none⟩), .int .i64 k] W fun e w' => e = .returned (.bool K) ∧ Below W.heap.size W w') := hid fun W hW => l5Kind_is b v ts p deep bad k K HK.out W (S.out.later hW)
  have bd : Below w.heap.size w w.drew := (Below.refl _ w).drew
  cases K with
  | false =>
    have E := hid (show R = false by rw [← HR.out]; exact isR_false HK.out)
    go_enter Tryz.func133, Tryz.ntmps133
    go_wp2_with fail
    refine wp_region_held_drew (S := Below w.heap.size w) (by kernel_rfl) bd (fun hHeld => ?_)
    refine wpAnyH_take (i := 0) (v := .pointer (some ⟨b, 0, Option.none⟩)) rfl (by kernel_rfl) (by kernel_rfl) (by kernel_rfl) (fun _ _ _ => id) (Or.inl ⟨by rfl, ?yf0⟩) hHeld ?_
    case yf0 => intro w hSw; go_simp
    simp only [Act.put, zp]
    refine wpAnyH_take (i := 1) (v := .int .i64 k) rfl (by kernel_rfl) (by kernel_rfl) (by kernel_rfl) (fun _ _ _ => id) (Or.inl ⟨by rfl, ?yf1⟩) hHeld ?_
    case yf1 => intro w hSw; go_simp
    simp only [Act.put, zp]
    refine wpAnyH_ready (rs := [2]) (by kernel_rfl) (by simp) ?_
    refine AllReadyH.cons rfl (fun K hK => ?_) AllReadyH.nil
    rw [if_pos (by rfl)]
    simp only [zq]
    go_wp2_with fail
    refine (CK.out _ hHeld).mono ?_
    rintro e w2 ⟨rfl, hb2⟩
    go_wp2_with fail
    refine hK.out _ _ (hHeld.trans (hb2.mono hHeld.size)) (fun hHeld => ?_)
    try simp only [Act.put, zp]
    refine wpAnyH_take (i := 3) (v := .bool true) rfl (by kernel_rfl) (by kernel_rfl) (by kernel_rfl) (fun _ _ _ => id) (Or.inl ⟨by rfl, ?yf3⟩) hHeld ?_
    case yf3 => intro w hSw; go_simp
    simp only [Act.put, zp]
    refine wpAnyH_take (i := 4) (v := .bool true) rfl (by kernel_rfl) (by kernel_rfl) (by kernel_rfl) (fun _ _ _ => id) (Or.inl ⟨by rfl, ?yf4⟩) hHeld ?_
    case yf4 => intro w hSw; go_simp
    simp only [Act.put, zp]
    refine wpAnyH_take (i := 5) (v := undef) rfl (by kernel_rfl) (by kernel_rfl) (by kernel_rfl) (fun _ _ _ => id) (Or.inr ⟨by rfl, rfl⟩) hHeld ?_
    simp only [Act.put, zp]
    refine wpAnyH_take (i := 6) (v := undef) rfl (by kernel_rfl) (by kernel_rfl) (by kernel_rfl) (fun _ _ _ => id) (Or.inr ⟨by rfl, rfl⟩) hHeld ?_
    simp only [Act.put, zp]
    refine wpAnyH_take (i := 7) (v := undef) rfl (by kernel_rfl) (by kernel_rfl) (by kernel_rfl) (fun _ _ _ => id) (Or.inr ⟨by rfl, rfl⟩) hHeld ?_
    simp only [Act.put, zp]
    refine wpAnyH_take (i := 8) (v := undef) rfl (by kernel_rfl) (by kernel_rfl) (by kernel_rfl) (fun _ _ _ => id) (Or.inr ⟨by rfl, rfl⟩) hHeld ?_
    simp only [Act.put, zp]
    refine wpAnyH_take (i := 9) (v := undef) rfl (by kernel_rfl) (by kernel_rfl) (by kernel_rfl) (fun _ _ _ => id) (Or.inr ⟨by rfl, rfl⟩) hHeld ?_
    simp only [Act.put, zp]
    refine wpAnyH_take (i := 10) (v := undef) rfl (by kernel_rfl) (by kernel_rfl) (by kernel_rfl) (fun _ _ _ => id) (Or.inr ⟨by rfl, rfl⟩) hHeld ?_
    simp only [Act.put, zp]
    refine wpAnyH_take (i := 11) (v := undef) rfl (by kernel_rfl) (by kernel_rfl) (by kernel_rfl) (fun _ _ _ => id) (Or.inr ⟨by rfl, rfl⟩) hHeld ?_
    simp only [Act.put, zp]
    refine wpAnyH_take (i := 12) (v := undef) rfl (by kernel_rfl) (by kernel_rfl) (by kernel_rfl) (fun _ _ _ => id) (Or.inr ⟨by rfl, rfl⟩) hHeld ?_
    simp only [Act.put, zp]
    refine wpAnyH_take (i := 13) (v := undef) rfl (by kernel_rfl) (by kernel_rfl) (by kernel_rfl) (fun _ _ _ => id) (Or.inr ⟨by rfl, rfl⟩) hHeld ?_
    simp only [Act.put, zp]
    refine wpAnyH_take (i := 14) (v := undef) rfl (by kernel_rfl) (by kernel_rfl) (by kernel_rfl) (fun _ _ _ => id) (Or.inr ⟨by rfl, rfl⟩) hHeld ?_
    simp only [Act.put, zp]
    refine wpAnyH_take (i := 15) (v := undef) rfl (by kernel_rfl) (by kernel_rfl) (by kernel_rfl) (fun _ _ _ => id) (Or.inr ⟨by rfl, rfl⟩) hHeld ?_
    simp only [Act.put, zp]
    refine wpAnyH_take (i := 16) (v := undef) rfl (by kernel_rfl) (by kernel_rfl) (by kernel_rfl) (fun _ _ _ => id) (Or.inr ⟨by rfl, rfl⟩) hHeld ?_
    simp only [Act.put, zp]
    refine wpAnyH_take (i := 17) (v := undef) rfl (by kernel_rfl) (by kernel_rfl) (by kernel_rfl) (fun _ _ _ => id) (Or.inr ⟨by rfl, rfl⟩) hHeld ?_
    simp only [Act.put, zp]
    refine wpAnyH_take (i := 18) (v := .bool true) rfl (by kernel_rfl) (by kernel_rfl) (by kernel_rfl) (fun _ _ _ => id) (Or.inl ⟨by rfl, ?yf18⟩) hHeld ?_
    case yf18 => intro w hSw; go_simp
    simp only [Act.put, zp]
    refine wpAnyH_done (by kernel_rfl) ?_ _
    have B := hid hHeld
    clear hHeld bd
    go_wp2
    go_ret
    exact ⟨retB5 E.out.symm, by rw [E.out]; exact S.out.later B.out, .of_below B.out⟩
  | true =>
    obtain ⟨rfl, t, ht, hk, hlt⟩ := kindR_true HK.out
    have hltI : (p : Int) < (ts.length : Int) := by omega
    have hp0 : (0 : Int) ≤ (p : Int) := by omega
    obtain ⟨g, c, rfl, c0, c1, c2⟩ := S.out.row.at ht
    have C0 := hid c0
    have C1 := hid c1
    have C2 := hid c2
    clear c0 c1 c2
    have hI : Hid (isR false k s (ts.drop p) = decide (t.s = s)) := hid (by unfold isR; rw [HK.out, dropT ht]; rfl)
    by_cases hs : t.s = s
    · have E := hid (show R = true by rw [← HR.out, hI.out]; exact decide_eq_true hs)
      have hss : (bs t.s).toList = (bs s).toList := by rw [hs]
      clear hs ht hk hI HK HR
      go_enter Tryz.func133, Tryz.ntmps133
      go_wp2_with fail
      refine wp_region_held_drew (S := Below w.heap.size w) (by kernel_rfl) bd (fun hHeld => ?_)
      refine wpAnyH_take (i := 0) (v := .pointer (some ⟨b, 0, Option.none⟩)) rfl (by kernel_rfl) (by kernel_rfl) (by kernel_rfl) (fun _ _ _ => id) (Or.inl ⟨by rfl, ?yg0⟩) hHeld ?_
      case yg0 => intro w hSw; go_simp
      simp only [Act.put, zp]
      refine wpAnyH_take (i := 1) (v := .int .i64 k) rfl (by kernel_rfl) (by kernel_rfl) (by kernel_rfl) (fun _ _ _ => id) (Or.inl ⟨by rfl, ?yg1⟩) hHeld ?_
      case yg1 => intro w hSw; go_simp
      simp only [Act.put, zp]
      refine wpAnyH_ready (rs := [2]) (by kernel_rfl) (by simp) ?_
      refine AllReadyH.cons rfl (fun K hK => ?_) AllReadyH.nil
      rw [if_pos (by rfl)]
      simp only [zq]
      go_wp2_with fail
      refine (CK.out _ hHeld).mono ?_
      rintro e w2 ⟨rfl, hb2⟩
      go_wp2_with fail
      refine hK.out _ _ (hHeld.trans (hb2.mono hHeld.size)) (fun hHeld => ?_)
      try simp only [Act.put, zp]
      refine wpAnyH_take (i := 3) (v := .bool false) rfl (by kernel_rfl) (by kernel_rfl) (by kernel_rfl) (fun _ _ _ => id) (Or.inl ⟨by rfl, ?yg3⟩) hHeld ?_
      case yg3 => intro w hSw; go_simp
      simp only [Act.put, zp]
      refine wpAnyH_take (i := 4) (v := .bool false) rfl (by kernel_rfl) (by kernel_rfl) (by kernel_rfl) (fun _ _ _ => id) (Or.inl ⟨by rfl, ?yg4⟩) hHeld ?_
      case yg4 => intro w hSw; go_simp
      simp only [Act.put, zp]
      refine wpAnyH_take (i := 5) (v := .pointer (some ⟨b, 0, Option.none⟩)) rfl (by kernel_rfl) (by kernel_rfl) (by kernel_rfl) (fun _ _ _ => id) (Or.inl ⟨by rfl, ?yg5⟩) hHeld ?_
      case yg5 => intro w hSw; go_simp
      simp only [Act.put, zp]
      refine wpAnyH_take (i := 6) (v := .pointer (some ⟨b, 0, Option.none⟩)) rfl (by kernel_rfl) (by kernel_rfl) (by kernel_rfl) (fun _ _ _ => id) (Or.inl ⟨by rfl, ?yg6⟩) hHeld ?_
      case yg6 => intro w hSw; go_simp
      simp only [Act.put, zp]
      refine wpAnyH_take (i := 7) (v := .pointer (some ⟨b, 0, Option.none⟩)) rfl (by kernel_rfl) (by kernel_rfl) (by kernel_rfl) (fun _ _ _ => id) (Or.inl ⟨by rfl, ?yg7⟩) hHeld ?_
      case yg7 => intro w hSw; go_simp
      simp only [Act.put, zp]
      refine wpAnyH_take (i := 8) (v := .slice (some ⟨g, 0, Option.none⟩) ts.length c) rfl (by kernel_rfl) (by kernel_rfl) (by kernel_rfl) (fun _ _ _ => id) (Or.inl ⟨by rfl, ?yg8⟩) hHeld ?_
      case yg8 => intro w hSw; have q := (S.out.later hSw).cells; have q0 := q.1; have q1 := q.2.1; have q2 := q.2.2.1; have q3 := q.2.2.2; go_simp
      simp only [Act.put, zp]
      refine wpAnyH_take (i := 9) (v := .pointer (some ⟨b, 0, Option.none⟩)) rfl (by kernel_rfl) (by kernel_rfl) (by kernel_rfl) (fun _ _ _ => id) (Or.inl ⟨by rfl, ?yg9⟩) hHeld ?_
      case yg9 => intro w hSw; go_simp
      simp only [Act.put, zp]
      refine wpAnyH_take (i := 10) (v := .pointer (some ⟨b, 0, Option.none⟩)) rfl (by kernel_rfl) (by kernel_rfl) (by kernel_rfl) (fun _ _ _ => id) (Or.inl ⟨by rfl, ?yg10⟩) hHeld ?_
      case yg10 => intro w hSw; go_simp
      simp only [Act.put, zp]
      refine wpAnyH_take (i := 11) (v := .pointer (some ⟨b, 1, Option.none⟩)) rfl (by kernel_rfl) (by kernel_rfl) (by kernel_rfl) (fun _ _ _ => id) (Or.inl ⟨by rfl, ?yg11⟩) hHeld ?_
      case yg11 => intro w hSw; go_simp
      simp only [Act.put, zp]
      refine wpAnyH_take (i := 12) (v := .int .i64 (p : Int)) rfl (by kernel_rfl) (by kernel_rfl) (by kernel_rfl) (fun _ _ _ => id) (Or.inl ⟨by rfl, ?yg12⟩) hHeld ?_
      case yg12 => intro w hSw; have q := (S.out.later hSw).cells; have q0 := q.1; have q1 := q.2.1; have q2 := q.2.2.1; have q3 := q.2.2.2; go_simp
      simp only [Act.put, zp]
      refine wpAnyH_take (i := 13) (v := .pointer (some ⟨g, p * 3, Option.none⟩)) rfl (by kernel_rfl) (by kernel_rfl) (by kernel_rfl) (fun _ _ _ => id) (Or.inl ⟨by rfl, ?yg13⟩) hHeld ?_
      case yg13 => intro w hSw; go_simp
      simp only [Act.put, zp]
      refine wpAnyH_take (i := 14) (v := .pointer (some ⟨g, p * 3 + 1, Option.none⟩)) rfl (by kernel_rfl) (by kernel_rfl) (by kernel_rfl) (fun _ _ _ => id) (Or.inl ⟨by rfl, ?yg14⟩) hHeld ?_
      case yg14 => intro w hSw; go_simp
      simp only [Act.put, zp]
      refine wpAnyH_take (i := 15) (v := .string (bs t.s)) rfl (by kernel_rfl) (by kernel_rfl) (by kernel_rfl) (fun _ _ _ => id) (Or.inl ⟨by rfl, ?yg15⟩) hHeld ?_
      case yg15 => intro w hSw; have q0 := keeps hSw C0.out; have q1 := keeps hSw C1.out; have q2 := keeps hSw C2.out; go_simp
      simp only [Act.put, zp]
      refine wpAnyH_take (i := 16) (v := .string (bs s)) rfl (by kernel_rfl) (by kernel_rfl) (by kernel_rfl) (fun _ _ _ => id) (Or.inl ⟨by rfl, ?yg16⟩) hHeld ?_
      case yg16 => intro w hSw; go_simp
      simp only [Act.put, zp]
      refine wpAnyH_take (i := 17) (v := .bool false) rfl (by kernel_rfl) (by kernel_rfl) (by kernel_rfl) (fun _ _ _ => id) (Or.inl ⟨by rfl, ?yg17⟩) hHeld ?_
      case yg17 => intro w hSw; go_simp
      simp only [Act.put, zp]
      refine wpAnyH_take (i := 18) (v := .bool false) rfl (by kernel_rfl) (by kernel_rfl) (by kernel_rfl) (fun _ _ _ => id) (Or.inl ⟨by rfl, ?yg18⟩) hHeld ?_
      case yg18 => intro w hSw; go_simp
      simp only [Act.put, zp]
      refine wpAnyH_done (by kernel_rfl) ?_ _
      have B := hid hHeld
      have S3 := hid (S.out.later hHeld)
      clear hHeld bd
      obtain ⟨w3, hw3⟩ : ∃ w3, w2 = w3 := ⟨_, rfl⟩
      rw [hw3] at S3 B ⊢
      clear hw3
      have S4 : Hid (Rd5 b (.slice (some ⟨g, 0, Option.none⟩) ts.length c) ts (p + 1) deep false (w3.setCell ⟨b, 1, Option.none⟩ (.int .i64 ((p : Int) + 1)))) := hid (S3.out.setAt (p + 1) (by omega))
      have q1 := S3.out.cells.2.1
      have q1f := S3.out.free 1 (by omega)
      have hw : IntKind.i64.wrap ((p : Int) + 1) = (p : Int) + 1 := wrap_small _ (by omega) (by omega)
      have WW := hid ((Wr.of_below (b := b) B.out).trans (S3.out.wset 1 (.int .i64 ((p : Int) + 1))))
      go_wp2
      go_ret
      exact ⟨retB5 E.out.symm, by rw [E.out]; exact S4.out, WW.out⟩
    · have E := hid (show R = false by rw [← HR.out, hI.out]; exact decide_eq_false hs)
      have hss := bs_ne hs
      clear hs ht hk hI HK HR
      go_enter Tryz.func133, Tryz.ntmps133
      go_wp2_with fail
      refine wp_region_held_drew (S := Below w.heap.size w) (by kernel_rfl) bd (fun hHeld => ?_)
      refine wpAnyH_take (i := 0) (v := .pointer (some ⟨b, 0, Option.none⟩)) rfl (by kernel_rfl) (by kernel_rfl) (by kernel_rfl) (fun _ _ _ => id) (Or.inl ⟨by rfl, ?yh0⟩) hHeld ?_
      case yh0 => intro w hSw; go_simp
      simp only [Act.put, zp]
      refine wpAnyH_take (i := 1) (v := .int .i64 k) rfl (by kernel_rfl) (by kernel_rfl) (by kernel_rfl) (fun _ _ _ => id) (Or.inl ⟨by rfl, ?yh1⟩) hHeld ?_
      case yh1 => intro w hSw; go_simp
      simp only [Act.put, zp]
      refine wpAnyH_ready (rs := [2]) (by kernel_rfl) (by simp) ?_
      refine AllReadyH.cons rfl (fun K hK => ?_) AllReadyH.nil
      rw [if_pos (by rfl)]
      simp only [zq]
      go_wp2_with fail
      refine (CK.out _ hHeld).mono ?_
      rintro e w2 ⟨rfl, hb2⟩
      go_wp2_with fail
      refine hK.out _ _ (hHeld.trans (hb2.mono hHeld.size)) (fun hHeld => ?_)
      try simp only [Act.put, zp]
      refine wpAnyH_take (i := 3) (v := .bool false) rfl (by kernel_rfl) (by kernel_rfl) (by kernel_rfl) (fun _ _ _ => id) (Or.inl ⟨by rfl, ?yh3⟩) hHeld ?_
      case yh3 => intro w hSw; go_simp
      simp only [Act.put, zp]
      refine wpAnyH_take (i := 4) (v := .bool false) rfl (by kernel_rfl) (by kernel_rfl) (by kernel_rfl) (fun _ _ _ => id) (Or.inl ⟨by rfl, ?yh4⟩) hHeld ?_
      case yh4 => intro w hSw; go_simp
      simp only [Act.put, zp]
      refine wpAnyH_take (i := 5) (v := .pointer (some ⟨b, 0, Option.none⟩)) rfl (by kernel_rfl) (by kernel_rfl) (by kernel_rfl) (fun _ _ _ => id) (Or.inl ⟨by rfl, ?yh5⟩) hHeld ?_
      case yh5 => intro w hSw; go_simp
      simp only [Act.put, zp]
      refine wpAnyH_take (i := 6) (v := .pointer (some ⟨b, 0, Option.none⟩)) rfl (by kernel_rfl) (by kernel_rfl) (by kernel_rfl) (fun _ _ _ => id) (Or.inl ⟨by rfl, ?yh6⟩) hHeld ?_
      case yh6 => intro w hSw; go_simp
      simp only [Act.put, zp]
      refine wpAnyH_take (i := 7) (v := .pointer (some ⟨b, 0, Option.none⟩)) rfl (by kernel_rfl) (by kernel_rfl) (by kernel_rfl) (fun _ _ _ => id) (Or.inl ⟨by rfl, ?yh7⟩) hHeld ?_
      case yh7 => intro w hSw; go_simp
      simp only [Act.put, zp]
      refine wpAnyH_take (i := 8) (v := .slice (some ⟨g, 0, Option.none⟩) ts.length c) rfl (by kernel_rfl) (by kernel_rfl) (by kernel_rfl) (fun _ _ _ => id) (Or.inl ⟨by rfl, ?yh8⟩) hHeld ?_
      case yh8 => intro w hSw; have q := (S.out.later hSw).cells; have q0 := q.1; have q1 := q.2.1; have q2 := q.2.2.1; have q3 := q.2.2.2; go_simp
      simp only [Act.put, zp]
      refine wpAnyH_take (i := 9) (v := .pointer (some ⟨b, 0, Option.none⟩)) rfl (by kernel_rfl) (by kernel_rfl) (by kernel_rfl) (fun _ _ _ => id) (Or.inl ⟨by rfl, ?yh9⟩) hHeld ?_
      case yh9 => intro w hSw; go_simp
      simp only [Act.put, zp]
      refine wpAnyH_take (i := 10) (v := .pointer (some ⟨b, 0, Option.none⟩)) rfl (by kernel_rfl) (by kernel_rfl) (by kernel_rfl) (fun _ _ _ => id) (Or.inl ⟨by rfl, ?yh10⟩) hHeld ?_
      case yh10 => intro w hSw; go_simp
      simp only [Act.put, zp]
      refine wpAnyH_take (i := 11) (v := .pointer (some ⟨b, 1, Option.none⟩)) rfl (by kernel_rfl) (by kernel_rfl) (by kernel_rfl) (fun _ _ _ => id) (Or.inl ⟨by rfl, ?yh11⟩) hHeld ?_
      case yh11 => intro w hSw; go_simp
      simp only [Act.put, zp]
      refine wpAnyH_take (i := 12) (v := .int .i64 (p : Int)) rfl (by kernel_rfl) (by kernel_rfl) (by kernel_rfl) (fun _ _ _ => id) (Or.inl ⟨by rfl, ?yh12⟩) hHeld ?_
      case yh12 => intro w hSw; have q := (S.out.later hSw).cells; have q0 := q.1; have q1 := q.2.1; have q2 := q.2.2.1; have q3 := q.2.2.2; go_simp
      simp only [Act.put, zp]
      refine wpAnyH_take (i := 13) (v := .pointer (some ⟨g, p * 3, Option.none⟩)) rfl (by kernel_rfl) (by kernel_rfl) (by kernel_rfl) (fun _ _ _ => id) (Or.inl ⟨by rfl, ?yh13⟩) hHeld ?_
      case yh13 => intro w hSw; go_simp
      simp only [Act.put, zp]
      refine wpAnyH_take (i := 14) (v := .pointer (some ⟨g, p * 3 + 1, Option.none⟩)) rfl (by kernel_rfl) (by kernel_rfl) (by kernel_rfl) (fun _ _ _ => id) (Or.inl ⟨by rfl, ?yh14⟩) hHeld ?_
      case yh14 => intro w hSw; go_simp
      simp only [Act.put, zp]
      refine wpAnyH_take (i := 15) (v := .string (bs t.s)) rfl (by kernel_rfl) (by kernel_rfl) (by kernel_rfl) (fun _ _ _ => id) (Or.inl ⟨by rfl, ?yh15⟩) hHeld ?_
      case yh15 => intro w hSw; have q0 := keeps hSw C0.out; have q1 := keeps hSw C1.out; have q2 := keeps hSw C2.out; go_simp
      simp only [Act.put, zp]
      refine wpAnyH_take (i := 16) (v := .string (bs s)) rfl (by kernel_rfl) (by kernel_rfl) (by kernel_rfl) (fun _ _ _ => id) (Or.inl ⟨by rfl, ?yh16⟩) hHeld ?_
      case yh16 => intro w hSw; go_simp
      simp only [Act.put, zp]
      refine wpAnyH_take (i := 17) (v := .bool true) rfl (by kernel_rfl) (by kernel_rfl) (by kernel_rfl) (fun _ _ _ => id) (Or.inl ⟨by rfl, ?yh17⟩) hHeld ?_
      case yh17 => intro w hSw; go_simp
      simp only [Act.put, zp]
      refine wpAnyH_take (i := 18) (v := .bool true) rfl (by kernel_rfl) (by kernel_rfl) (by kernel_rfl) (fun _ _ _ => id) (Or.inl ⟨by rfl, ?yh18⟩) hHeld ?_
      case yh18 => intro w hSw; go_simp
      simp only [Act.put, zp]
      refine wpAnyH_done (by kernel_rfl) ?_ _
      have B := hid hHeld
      clear hHeld bd
      go_wp2
      go_ret
      exact ⟨retB5 E.out.symm, by rw [E.out]; exact S.out.later B.out, .of_below B.out⟩
theorem l5Mark_is (b : Nat) (v : Value) (ts : List T) (p : Nat) (deep : Int) (bad : Bool) (s : List UInt8) (R : Bool) (hR : isR bad 4 s (ts.drop p) = R) (w : World) (st : Rd5 b v ts p deep bad w) :
    Calls Tryz.prog 95 #[.pointer (some ⟨b, 0, none⟩), .string (bs s)] w fun e w' => e = .returned (.bool R) ∧ Rd5 b v ts (p + R.toNat) deep bad w' ∧ Wr b w w' := by
  have C := hid (l5Is_is b v ts p deep bad 4 s R hR w st)
  clear hR st
  go_enter Tryz.func95, Tryz.ntmps95
  go_wp2_with fail
  refine C.out.mono ?_
  rintro e w1 ⟨rfl, s1, h1⟩
  have H := hid (And.intro s1 h1)
  clear s1 h1 C
  go_wp2
  go_ret
  exact ⟨rfl, H.out⟩
theorem l5Kept_is (b : Nat) (v : Value) (ts : List T) (p : Nat) (deep : Int) (bad : Bool) (s : List UInt8) (R : Bool) (hR : isR bad 3 s (ts.drop p) = R) (w : World) (st : Rd5 b v ts p deep bad w) :
    Calls Tryz.prog 90 #[.pointer (some ⟨b, 0, none⟩), .string (bs s)] w fun e w' => e = .returned (.bool R) ∧ Rd5 b v ts (p + R.toNat) deep bad w' ∧ Wr b w w' := by
  have C := hid (l5Is_is b v ts p deep bad 3 s R hR w st)
  clear hR st
  go_enter Tryz.func90, Tryz.ntmps90
  go_wp2_with fail
  refine C.out.mono ?_
  rintro e w1 ⟨rfl, s1, h1⟩
  have H := hid (And.intro s1 h1)
  clear s1 h1 C
  go_wp2
  go_ret
  exact ⟨rfl, H.out⟩
theorem l5Must_is (b : Nat) (v : Value) (ts : List T) (p : Nat) (deep : Int) (bad : Bool) (ok : Bool) (w : World) (st : Rd5 b v ts p deep bad w) :
    Calls Tryz.prog 94 #[.pointer (some ⟨b, 0, none⟩), .bool ok] w fun e w' => e = .returned (.tuple #[]) ∧ Rd5 b v ts p deep (bad || !ok) w' ∧ Wr b w w' := by
  have S := hid st
  have q3 := st.cells.2.2.2
  have q3f := st.free 3 (by omega)
  have S4 : Hid (Rd5 b v ts p deep true (w.setCell ⟨b, 3, Option.none⟩ (.bool true))) := hid (st.setBad true)
  have WW := hid (st.wset 3 (.bool true))
  clear st
  cases ok with
  | true =>
    go_enter Tryz.func94, Tryz.ntmps94
    go_wp2
    go_end0
    exact ⟨rfl, by rw [Bool.not_true, Bool.or_false]; exact S.out, Wr.refl _ _⟩
  | false =>
    go_enter Tryz.func94, Tryz.ntmps94
    go_wp2
    go_end0
    exact ⟨rfl, by rw [Bool.not_false, Bool.or_true]; exact S4.out, WW.out⟩
end Go.Proofs.YtpinockfakndlaaGreat
