/-
  laws.sameAff of two sums that are the same.
-/
import Derived.Test.YtfacenfiocdbgaaAffLaw
import Derived.Deep.QuietTactic
import Derived.BigQuiet
namespace Go.Proofs.Ytfacenfiocdbgaa
open Go.RowKit Go.Lib
set_option linter.unusedSimpArgs false
set_option linter.unusedVariables false

set_option maxHeartbeats 4000000 in
set_option maxRecDepth 100000 in
theorem sameAff_is (c : Int) (ts : List AR) (hlen : ts.length ≤ 100000000) (va vb : Value) (w : World) (ha : AV w 0 va ts) (hb : AV w 0 vb ts) :
    Calls Try.prog 11 #[.agg #[.int .i64 c, va], .agg #[.int .i64 c, vb]] w fun e w' => e = .returned (.bool true) ∧ Below w.heap.size w w' := by
  obtain ⟨q0, q1⟩ := heap2t w (.cells #[.int .i64 c, va] 26) (.cells #[.int .i64 c, vb] 26)
  have hB2 : Below w.heap.size w ((w.alloc (.cells #[.int .i64 c, va] 26)).alloc (.cells #[.int .i64 c, vb] 26)) := (alloc_below w _).alloc (by simp) _
  have HA := Lib.hid (And.intro ha hb)
  obtain ⟨a1, c1, rfl⟩ := ha.shape
  obtain ⟨a2, c2, rfl⟩ := hb.shape
  obtain ⟨W0, hW0⟩ : ∃ W0, Hid (W0 = (w.alloc (.cells #[.int .i64 c, .slice a1 ts.length c1] 26)).alloc (.cells #[.int .i64 c, .slice a2 ts.length c2] 26)) := ⟨_, rfl⟩
  have B2 := Lib.hid hB2
  have Q := Lib.hid (And.intro q0 q1)
  obtain ⟨⟨x0, x1⟩, _⟩ := blk2 q0
  obtain ⟨⟨x2, x3⟩, _⟩ := blk2 q1
  clear ha hb hB2 q0 q1
  go_enter Try.func11, Try.ntmps11
  go_wp2
  rw [← hW0.out] at B2 Q
  clear x0 x1 x2 x3
  go_loopw [5] (fun i wr => ∃ k : Nat, k ≤ ts.length ∧ i = .int .i64 k ∧ Below W0.heap.size W0 wr) (fun i _ => ts.length - (RowKit.intOf i).toNat)
  case atStart => exact ⟨0, by omega, rfl, by rw [← hW0.out]; exact Below.refl _ _⟩
  case round =>
    obtain ⟨k, hk, rfl, hbw⟩ := hrel
    obtain ⟨⟨x0, x1⟩, _⟩ := blk2 (heap_b8 Q.out.1 hbw)
    obtain ⟨⟨x2, x3⟩, _⟩ := blk2 (heap_b8 Q.out.2 hbw)
    have hba := B2.out.trans (hbw.mono B2.out.size)
    by_cases hlt : k < ts.length
    · have hltI : (k : Int) < (ts.length : Int) := by omega
      obtain ⟨t, ht⟩ : ∃ t, ts[k]? = some t := ⟨ts[k], List.getElem?_eq_getElem hlt⟩
      obtain ⟨ao, ca, e, hr⟩ := HA.out.1
      injection e with e1 e2 e3
      subst e1; subst e3
      obtain ⟨bo, cb, e, hs⟩ := HA.out.2
      injection e with e1 e2 e3
      subst e1; subst e3
      rcases hr with hr | ⟨ga, oa, rfl, _, gla, hca⟩
      · subst hr; simp at hlt
      rcases hs with hs | ⟨gb, ob, rfl, _, glb, hcb⟩
      · subst hs; simp at hlt
      have A0 := (hba.cell (p := ⟨ga, oa + k * 2, Option.none⟩) gla).trans (hca k t ht).1
      have A1 := (hba.cell (p := ⟨ga, oa + k * 2 + 1, Option.none⟩) gla).trans (hca k t ht).2
      have B0 := (hba.cell (p := ⟨gb, ob + k * 2, Option.none⟩) glb).trans (hcb k t ht).1
      have B1 := (hba.cell (p := ⟨gb, ob + k * 2 + 1, Option.none⟩) glb).trans (hcb k t ht).2
      have HBW := Lib.hid hbw
      clear hca hcb ht hba hbw
      go_wp2_with fail
      go_quiet (fail)
      have hbd : ∀ n, Below W0.heap.size W0 (wr.drewN n) := fun n => ⟨HBW.out.os, HBW.out.tape, HBW.out.output, HBW.out.size, HBW.out.block⟩
      clear A0 A1 B0 B1 x0 x1 x2 x3
      go_wp2
      go_roundw
      case rel => exact ⟨k + 1, by omega, by go_num, hbd _⟩
      case measure => simp [RowKit.intOf]; omega
    · have hltI : ¬ (k : Int) < (ts.length : Int) := by omega
      go_wp2
      go_ret
      exact ⟨rfl, hba⟩
end Go.Proofs.Ytfacenfiocdbgaa
