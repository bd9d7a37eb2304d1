/-
  Straight sums as arguments: their size, their copies, whether they are the same; sums that came in, opened.
-/
import Derived.Test.YtjdpddcnogdekabTermRow
import Derived.Test.YtjdpddcnogdekabAstPOpen
namespace Go.Proofs.Ytjdpddcnogdekab
open Go.RowKit Go.Lib
set_option linter.unusedSimpArgs false
set_option linter.unusedVariables false

set_option maxHeartbeats 1000000 in
theorem szAff_is (c : Int) (ts : List AR) (hts : ∀ t ∈ ts, t.s.size ≤ 9223372036854775807) (hM : ts.length ≤ 9223372036854775807) (v : Value) (w : World) (hr : AV w 0 v ts) (left : Int) (h0 : 0 ≤ left) (h1 : left ≤ 1048576) :
    Calls Try.prog 5 #[.agg #[.int .i64 c, v], .int .i64 left] w (Sz (asize ts) left w) := by
  have B := Lib.hid (alloc_below w (.cells #[.int .i64 c, v] 24))
  have HR := Lib.hid hr
  clear hr
  go_enter Try.func5, Try.ntmps5
  go_wp2_with fail
  refine (szTermS_is ts hts hM v _ (HR.out.later B.out) left h0 h1).mono ?_
  rintro e w1 ⟨rfl, hb1⟩
  have B2 := Lib.hid (B.out.trans (hb1.mono B.out.size))
  clear hb1
  by_cases hd : left < (asize ts : Int)
  · rw [if_pos hd]
    go_wp2
    go_ret
    exact Sz.less hd B2.out
  · rw [if_neg hd]
    have hn : ¬ left - (asize ts : Int) < 0 := by omega
    go_wp2
    go_ret
    exact Sz.more (by omega) rfl B2.out
theorem sizeLA8 : (Try.prog.info? 24).map (·.size) = some 2 := by kernel_rfl
theorem sizeIA8 : (Try.prog.info? 30).map (·.size) = some 2 := by kernel_rfl
set_option maxHeartbeats 2000000 in
theorem toAff_is (c : Int) (ts : List AR) (hn : ts.length ≤ 1048576) (v : Value) (w : World) (hr : AV w 0 v ts) :
    Calls Try.prog 7 #[.agg #[.int .i64 c, v]] w fun e w' => ∃ v', e = .returned (.agg #[.int .i64 c, v']) ∧ AV w' w.heap.size v' ts ∧ Below w.heap.size w w' := by
  have HR := Lib.hid hr
  obtain ⟨a1, c1, rfl⟩ := hr.shape
  clear hr
  go_enter Try.func7, Try.ntmps7
  go_wp2_with fail
  have hb3 := ((alloc_below w (.cells #[.int .i64 c, .slice a1 ts.length c1] 24)).alloc (by simp) (.cells #[.int .i64 0, .slice Option.none 0 0] 30)).alloc (by simp; omega) (.cells #[.int .i64 c, .slice Option.none 0 0] 30)
  obtain ⟨q0, q1, q2⟩ := heap3 w (.cells #[.int .i64 c, .slice a1 ts.length c1] 24) (.cells #[.int .i64 0, .slice Option.none 0 0] 30) (.cells #[.int .i64 c, .slice Option.none 0 0] 30)
  refine (toTermS_is ts hn _ _ (HR.out.later hb3)).mono ?_
  rintro e w1 ⟨ua, rfl, hua, hb1⟩
  obtain ⟨x1, y1, rfl⟩ := hua.shape
  have r1 := (hb1.block _ (by simp)).trans q1
  have r2 := (hb1.block _ (by simp)).trans q2
  have B1 := hb3.trans (hb1.mono hb3.size)
  have hs1 := hb1.size
  simp only [World.size_alloc] at hs1 hua
  have B2 := ((B1.setCell (p := ⟨w.heap.size + 2, 1, Option.none⟩) (by simp) (.slice x1 ts.length y1)).setCell (p := ⟨w.heap.size + 1, 0, Option.none⟩) (by simp) (.int .i64 c)).setCell (p := ⟨w.heap.size + 1, 1, Option.none⟩) (by simp) (.slice x1 ts.length y1)
  have K2 : Keeps (w.heap.size + 3) w1 (((w1.setCell ⟨w.heap.size + 2, 1, Option.none⟩ (.slice x1 ts.length y1)).setCell ⟨w.heap.size + 1, 0, Option.none⟩ (.int .i64 c)).setCell ⟨w.heap.size + 1, 1, Option.none⟩ (.slice x1 ts.length y1)) := ((Keeps.set _ _ (by simp) _).trans (Keeps.set _ _ (by simp) _)).trans (Keeps.set _ _ (by simp) _)
  obtain ⟨⟨g0, g1⟩, f0, f1⟩ := blk2 r2
  obtain ⟨⟨e0, e1⟩, k0, k1⟩ := blk2 r1
  have HA := Lib.hid hua
  have HB := Lib.hid B2
  have HK := Lib.hid K2
  have HS := Lib.hid hs1
  clear hb1 hb3 hua B1 B2 K2 q0 q1 q2 r1 r2 hs1
  go_wp2
  refine bodyPost_ret (v := .agg #[.int .i64 c, .slice x1 ts.length y1]) (by simp [results, Try.results7, go_sem, e0, e1]) rfl ⟨_, rfl, HA.out.same (by omega) HK.out (by simp), HB.out⟩
set_option maxHeartbeats 2000000 in
theorem eqAff_same (c : Int) (ts : List AR) (hlen : ts.length ≤ 100000000) (va vb : Value) (w : World) (ha : AV w 0 va ts) (hb : AV w 0 vb ts) :
    Calls Try.prog 9 #[.agg #[.int .i64 c, va], .agg #[.int .i64 c, vb]] w fun e w' => e = .returned (.bool true) ∧ Below w.heap.size w w' := by
  have B := Lib.hid ((alloc_below w (.cells #[.int .i64 c, va] 30)).alloc (by simp) (.cells #[.int .i64 c, vb] 30))
  have HR := Lib.hid (And.intro ha hb)
  clear ha hb
  go_enter Try.func9, Try.ntmps9
  go_wp2_with fail
  refine (eqTermS_same ts hlen va vb _ (HR.out.1.later B.out) (HR.out.2.later B.out)).mono ?_
  rintro e w1 ⟨rfl, hb1⟩
  have B2 := Lib.hid (B.out.trans (hb1.mono B.out.size))
  clear hb1
  go_wp2
  go_ret
  exact ⟨rfl, B2.out⟩
theorem abytes_mem8 {ts : List AR} {t : AR} (h : t ∈ ts) : t.s.size ≤ abytes ts := by
  induction ts with
  | nil => simp at h
  | cons u us ih =>
    rcases List.mem_cons.1 h with rfl | h
    · simp only [abytes]; omega
    · have := ih h; simp only [abytes]; omega
/-- A sum in two cells of a block. -/
structure At8 (w0 w : World) (n : Nat) (c : Int) (va : Value) (ts : List AR) : Prop where
  rg : w.rangeAt n 0 [.int .i64 c, va]
  av : AV w 0 va ts
  low : Below w0.heap.size w0 w
theorem At8.later {w0 w w' : World} {n : Nat} {c : Int} {va : Value} {ts : List AR} (h : At8 w0 w n c va ts) (hb : Below w.heap.size w w') : At8 w0 w' n c va ts :=
  ⟨rangeAt_later h.rg hb, h.av.later hb, h.low.trans (hb.mono h.low.size)⟩
theorem At8.start {w : World} (t : TypeId) {c : Int} {va : Value} {ts : List AR} (ha : AV w 0 va ts) : At8 w (w.alloc (.cells #[.int .i64 c, va] t)) w.heap.size c va ts :=
  ⟨blk_range (arr := #[.int .i64 c, va]) (heap_last _ _), ha.later (alloc_below _ _), alloc_below _ _⟩
end Go.Proofs.Ytjdpddcnogdekab
namespace Go.Proofs.Ytjdpddcnogdekab
open Go.ChangeShapes Go.WideShapes Go.ChangeAt Go.RowKit
theorem cA8 : Try.prog.cellsOf 24 = 2 := by kernel_rfl
theorem cTs8 : Try.prog.cellsOf 22 = 1 := by kernel_rfl
section
variable {H : Type} {enc : TypeId × Value → H} {W : World} {sp : Nat → Bool} {held : Bool}
set_option maxRecDepth 100000 in
theorem open_aff {fuel : Nat} {cs : List Value} {y : DataW H × List MemPlace} (h : DataW.trod enc Try.prog W 0 sp held fuel 24 cs = some y) :
    ∃ (c : Int) (va : Value) (ts : List AR), cs = [.int .i64 c, va] ∧ (-9223372036854775808 ≤ c ∧ c ≤ 9223372036854775807) ∧ (∀ t ∈ ts, t.s.size ≤ 9223372036854775807) ∧ ts.length ≤ 9223372036854775807 ∧ AV W 0 va ts := by
  obtain ⟨xs, m, hm, _, hlen, hxl, hf⟩ := DataW.trod_struct Try.underlying24 h
  rw [cA8] at hlen
  match xs, hxl, cs, hlen with
  | [y0, y1], _, [v0, v1], _ =>
    have g0 := hf 0 _ rfl
    have g1 := hf 1 _ rfl
    simp [cI, cTs8] at g0 g1
    obtain ⟨n, e0, _, hn⟩ := DataW.trod_int Try.underlying3 g0
    obtain ⟨va, ts, e1, k1, k2, k3⟩ := open_terms g1
    injection e0 with e0; injection e1 with e1
    subst e0; subst e1
    exact ⟨n, v1, ts, rfl, bounds_i64 hn, k1, k2, k3⟩
end
end Go.Proofs.Ytjdpddcnogdekab
