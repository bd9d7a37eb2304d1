/-
  The contracts of CoefOf, the landed code's and the specification's.
-/
import Derived.Test.YtjdpddcnogdekabAffPlain
import Derived.Test.YtjdpddcnogdekabAstUnder
namespace Go.Proofs.Ytjdpddcnogdekab
open Go.RowKit Go.Lib
set_option linter.unusedSimpArgs false
set_option linter.unusedVariables false

set_option maxHeartbeats 1000000 in
theorem impl_CoefOf (c : Int) (ts : List AR) (hn : ts.length ≤ 1000000000) (s : ByteArray) (va : Value) (w : World) (ha : AV w 0 va ts) :
    Calls Try.prog 19 #[.agg #[.int .i64 c, va], .string s] w fun e w' => e = .returned (.int .i64 (coefA ts s)) ∧ Below w.heap.size w w' := by
  obtain ⟨ao, cap, rfl, hr⟩ := ha
  have Hr := Lib.hid hr
  clear hr
  have hc1 : (w.alloc (.cells #[.int .i64 c, .slice ao ts.length cap] 30)).cell? ⟨w.heap.size, 1, Option.none⟩ = some (.slice ao ts.length cap) := box_cell (Below.refl _ _) rfl
  have B := Lib.hid (alloc_below w (.cells #[.int .i64 c, .slice ao ts.length cap] 30))
  go_enter Try.func19, Try.ntmps19
  go_wp2
  go_loopw [10] (fun i wr => ∃ k : Nat, k ≤ ts.length ∧ i = .int .i64 k ∧ Hid (coefA ts s = coefA (ts.drop k) s) ∧ Below w.heap.size w wr) (fun i _ => ts.length - (RowKit.intOf i).toNat)
  case atStart => exact ⟨0, by omega, rfl, (by show coefA ts s = coefA (ts.drop 0) s; rw [List.drop_zero]), B.out⟩
  case round =>
    obtain ⟨k, hk, rfl, hg, hbr⟩ := hrel
    by_cases hlt : k < ts.length
    · have hltI : (k : Int) < (ts.length : Int) := by omega
      obtain ⟨t, ht⟩ : ∃ t, ts[k]? = some t := ⟨ts[k], List.getElem?_eq_getElem hlt⟩
      rcases Hr.out with hr | ⟨g, off, rfl, _, gl, hc⟩
      · subst hr; simp at hlt
      have A0 := (hbr.cell (p := ⟨g, off + k * 2, Option.none⟩) gl).trans (hc k t ht).1
      have A1 := (hbr.cell (p := ⟨g, off + k * 2 + 1, Option.none⟩) gl).trans (hc k t ht).2
      have hd : Hid (ts.drop k = t :: ts.drop (k + 1)) := drop8 ht
      clear hc ht Hr hc1
      have HB := Lib.hid (fun o : Obj => hbr.alloc hbr.size o)
      clear hbr
      by_cases he : t.s = s
      · have he2 : Hid (coefA ts s = t.n) := by show coefA ts s = t.n; rw [hg.out, hd.out, coefA, if_pos he]
        subst he
        go_wp2
        go_ret
        exact retI he2.out.symm (HB.out _)
      · have he2 : Hid (coefA ts s = coefA (ts.drop (k + 1)) s) := by show coefA ts s = _; rw [hg.out, hd.out, coefA, if_neg he]
        have hne := str_ne he
        go_wp2
        go_roundw
        case rel => exact ⟨k + 1, by omega, by go_num, he2.out, HB.out _⟩
        case measure => simp [RowKit.intOf]; omega
    · have he2 : Hid (coefA ts s = 0) := by show coefA ts s = 0; rw [hg.out, List.drop_of_length_le (by omega)]; rfl
      go_wp2
      go_ret
      exact retI he2.out.symm hbr
set_option maxHeartbeats 1000000 in
theorem spec_CoefOf (c : Int) (ts : List AR) (hn : ts.length ≤ 1000000000) (s : ByteArray) (va : Value) (w : World) (ha : AV w 0 va ts) :
    Calls Try.prog 17 #[.agg #[.int .i64 c, va], .string s] w fun e w' => e = .returned (.int .i64 (coefA ts s)) ∧ w' = w.alloc (.cells #[.int .i64 c, va] 30) := by
  obtain ⟨ao, cap, rfl, hr⟩ := ha
  have Hr := Lib.hid hr
  clear hr
  have hc1 : (w.alloc (.cells #[.int .i64 c, .slice ao ts.length cap] 30)).cell? ⟨w.heap.size, 1, Option.none⟩ = some (.slice ao ts.length cap) := box_cell (Below.refl _ _) rfl
  have B := Lib.hid (alloc_below w (.cells #[.int .i64 c, .slice ao ts.length cap] 30))
  go_enter Try.func17, Try.ntmps17
  go_wp2
  go_loop [5] (fun i => ∃ k : Nat, k ≤ ts.length ∧ i = .int .i64 k ∧ Hid (coefA ts s = coefA (ts.drop k) s)) (fun i => ts.length - (RowKit.intOf i).toNat)
  case atStart => exact ⟨0, by omega, rfl, (by show coefA ts s = coefA (ts.drop 0) s; rw [List.drop_zero])⟩
  case round =>
    obtain ⟨k, hk, rfl, hg⟩ := hrel
    by_cases hlt : k < ts.length
    · have hltI : (k : Int) < (ts.length : Int) := by omega
      obtain ⟨t, ht⟩ : ∃ t, ts[k]? = some t := ⟨ts[k], List.getElem?_eq_getElem hlt⟩
      rcases Hr.out with hr | ⟨g, off, rfl, _, gl, hc⟩
      · subst hr; simp at hlt
      have A0 := (B.out.cell (p := ⟨g, off + k * 2, Option.none⟩) gl).trans (hc k t ht).1
      have A1 := (B.out.cell (p := ⟨g, off + k * 2 + 1, Option.none⟩) gl).trans (hc k t ht).2
      have hd : Hid (ts.drop k = t :: ts.drop (k + 1)) := drop8 ht
      clear hc ht Hr
      by_cases he : t.s = s
      · have he2 : Hid (coefA ts s = t.n) := by show coefA ts s = t.n; rw [hg.out, hd.out, coefA, if_pos he]
        subst he
        go_wp2
        go_ret
        exact retI he2.out.symm rfl
      · have he2 : Hid (coefA ts s = coefA (ts.drop (k + 1)) s) := by show coefA ts s = _; rw [hg.out, hd.out, coefA, if_neg he]
        have hne := str_ne he
        go_wp2
        go_round
        case rel => exact ⟨k + 1, by omega, by go_num, he2.out⟩
        case measure => simp [RowKit.intOf]; omega
    · have he2 : Hid (coefA ts s = 0) := by show coefA ts s = 0; rw [hg.out, List.drop_of_length_le (by omega)]; rfl
      go_wp2
      go_ret
      exact retI he2.out.symm rfl
end Go.Proofs.Ytjdpddcnogdekab
