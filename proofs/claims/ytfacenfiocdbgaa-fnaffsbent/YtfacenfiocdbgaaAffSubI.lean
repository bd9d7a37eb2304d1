/-
  ifAffOk, SubA of the landed code.
-/
import Derived.Test.YtfacenfiocdbgaaAffLess
import Derived.Test.YtfacenfiocdbgaaAffOk
import Derived.Test.YtfacenfiocdbgaaAffArg
namespace Go.Proofs.Ytfacenfiocdbgaa
open Go.RowKit Go.Lib
set_option linter.unusedSimpArgs false
set_option linter.unusedVariables false

theorem AV.ofOwn8 {w : World} {B n c : Nat} {a : Option Addr} {ts : List AR} (h : w.ownsRow B 59 2 (.slice a n c) ts.length (acells ts)) : AV w 0 (.slice a n c) ts := by
  rcases h.2 with ⟨h0, h1⟩ | ⟨g, cap, cur, h1, h2, h3, h4⟩
  · have : ts = [] := List.length_eq_zero_iff.1 h1
    subst this
    exact ⟨_, _, h0, .inl rfl⟩
  · have hc := h.cells (g := g) (by rw [h1]; rfl)
    refine ⟨_, cap, h1, .inr ⟨g, 0, rfl, Nat.zero_le _, (Array.getElem?_eq_some_iff.1 h3).1, fun i t hi => ?_⟩⟩
    have hg := acells_get ts i t hi
    have e : ∀ j, (⟨g, 0, Option.none⟩ : Addr).add j = ⟨g, j, Option.none⟩ := fun j => by simp [Addr.add]; omega
    have a := hc _ _ hg.1; have b := hc _ _ hg.2
    rw [e] at a b
    exact ⟨by rw [Nat.zero_add]; exact a, by rw [Nat.zero_add]; exact b⟩
/-- A sum and whether it is one. -/
def pairR8 (ok : Bool) (c : Int) (va : Value) : Value := .tuple #[.agg (if ok = true then #[.int .i64 c, va] else #[.int .i64 0, .slice Option.none 0 0]), .bool ok]
set_option maxHeartbeats 2000000 in
set_option maxRecDepth 100000 in
theorem ifAffOk_is (c : Int) (ts : List AR) (hn : ts.length ≤ 1000000000) (va : Value) (w : World) (ha : AV w 0 va ts) (ok : Bool) (hv : affOk8 c ts = ok) :
    Calls Try.prog 33 #[.agg #[.int .i64 c, va]] w fun e w' => e = .returned (pairR8 ok c va) ∧ Below w.heap.size w w' := by
  have hb2 : Below w.heap.size w ((w.alloc (.cells #[.int .i64 c, va] 26)).alloc (.cells #[.int .i64 0, .slice Option.none 0 0] 26)) := (alloc_below w _).alloc (by simp) _
  obtain ⟨q0, q1⟩ := heap2t w (.cells #[.int .i64 c, va] 26) (.cells #[.int .i64 0, .slice Option.none 0 0] 26)
  have HA := Lib.hid (ha.later hb2)
  have HB := Lib.hid hb2
  have Q := Lib.hid (And.intro q0 q1)
  obtain ⟨a1, c1, rfl⟩ := ha.shape
  have HV := Lib.hid hv
  clear ha hb2 q0 q1 hv
  go_enter Try.func33, Try.ntmps33
  go_wp2_with fail
  refine (impl_AffOk c ts hn _ _ HA.out ok HV.out).mono ?_
  rintro e w1 ⟨rfl, hb1⟩
  have r0 := (hb1.block _ (Array.getElem?_eq_some_iff.1 Q.out.1).1).trans Q.out.1
  have r1 := (hb1.block _ (Array.getElem?_eq_some_iff.1 Q.out.2).1).trans Q.out.2
  have B1 := HB.out.trans (hb1.mono HB.out.size)
  have R1 := Lib.hid r1
  have HB1 := Lib.hid B1
  obtain ⟨⟨d0, d1⟩, _⟩ := blk2 r0
  obtain ⟨⟨e0, e1⟩, k0, k1⟩ := blk2 r1
  clear hb1 r0 r1 B1
  cases ok with
  | false =>
    go_wp2
    have f0 := Go.heap_setCell_same _ _ 0 _ _ (.int .i64 0) R1.out
    have f1 := Go.heap_setCell_same _ _ 1 _ _ (.slice Option.none 0 0) f0
    obtain ⟨⟨z0, z1⟩, _⟩ := blk2 f1
    refine bodyPost_ret (v := .tuple #[.agg #[.int .i64 0, .slice Option.none 0 0], .bool false]) (by simp [results, Try.results33, go_sem, z0, z1, e0, e1]) rfl ⟨rfl, ?_⟩
    first
      | exact (HB1.out.setCell (p := ⟨w.heap.size + 1, 0, Option.none⟩) (by simp) _).setCell (p := ⟨w.heap.size + 1, 1, Option.none⟩) (by simp) _
      | exact HB1.out
  | true =>
    go_wp2
    have f0 := Go.heap_setCell_same _ _ 0 _ _ (.int .i64 c) R1.out
    have f1 := Go.heap_setCell_same _ _ 1 _ _ (.slice a1 ts.length c1) f0
    obtain ⟨⟨z0, z1⟩, _⟩ := blk2 f1
    refine bodyPost_ret (v := .tuple #[.agg #[.int .i64 c, .slice a1 ts.length c1], .bool true]) (by simp [results, Try.results33, go_sem, z0, z1]) rfl ⟨rfl, ?_⟩
    exact (HB1.out.setCell (p := ⟨w.heap.size + 1, 0, Option.none⟩) (by simp) _).setCell (p := ⟨w.heap.size + 1, 1, Option.none⟩) (by simp) _
end Go.Proofs.Ytfacenfiocdbgaa
