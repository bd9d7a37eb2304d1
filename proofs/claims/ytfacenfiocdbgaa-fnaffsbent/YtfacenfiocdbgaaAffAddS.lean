/-
  l8Sum, AddA and SubA of the specification.
-/
import Derived.Test.YtfacenfiocdbgaaAffSumI
namespace Go.Proofs.Ytfacenfiocdbgaa
open Go.RowKit Go.Lib
set_option linter.unusedSimpArgs false
set_option linter.unusedVariables false

/-- What is answered: a sum in memory of its own, and whether it is one. -/
def Out8 (w : World) (ok : Bool) (c : Int) (L : List AR) (e : Ending) (w' : World) : Prop :=
  ∃ v', e = .returned (.tuple #[.agg #[.int .i64 c, v'], .bool ok]) ∧ w'.ownsRow w.heap.size 59 2 v' L.length (acells L) ∧ Below w.heap.size w w'
theorem Out8.of {w w' : World} {ok : Bool} {c : Int} {L : List AR} {e : Ending} (h : OutSub8 w ok c L e w') : Out8 w ok (if ok = true then c else 0) (if ok = true then L else []) e w' := by
  obtain ⟨v, rfl, ho, hb⟩ := h
  cases ok with
  | true => exact ⟨v, rfl, ho rfl, hb⟩
  | false => exact ⟨.slice Option.none 0 0, rfl, World.ownsRow_nil _ _ _ _, hb⟩
def sumA8 (la lb : List AR) (n : Int) : List AR := sumsW8 la lb n (puts8 (puts8 [] la) lb)
set_option maxHeartbeats 4000000 in
set_option maxRecDepth 100000 in
theorem l8Sum_is (n ca cb : Int) (la lb : List AR) (hl : la.length ≤ 4000000) (hm : lb.length ≤ 4000000) (nl : NmB8 la) (nm : NmB8 lb) (va vb : Value) (w : World) (ha : AV w 0 va la) (hb : AV w 0 vb lb) (names : List ByteArray) (hns : puts8 (puts8 [] la) lb = names) (hnb : NmB8 (sumsW8 la lb n names)) :
    Calls Try.prog 40 #[.agg #[.int .i64 ca, va], .agg #[.int .i64 cb, vb], .int .i64 n] w (OutSub8 w (sumOk8 ca cb n la lb (sumsW8 la lb n names)) (IntKind.i64.wrap (ca + IntKind.i64.wrap (n * cb))) (sumsW8 la lb n names)) := by
  obtain ⟨q0, q1, q2⟩ := heap3t w (.cells #[.int .i64 ca, va] 26) (.cells #[.int .i64 cb, vb] 26) (.cells #[.int .i64 0, .slice Option.none 0 0] 26)
  have hB3 : Below w.heap.size w (((w.alloc (.cells #[.int .i64 ca, va] 26)).alloc (.cells #[.int .i64 cb, vb] 26)).alloc (.cells #[.int .i64 0, .slice Option.none 0 0] 26)) := ((alloc_below w _).alloc (by simp) _).alloc (by simp; omega) _
  have HA := Lib.hid (And.intro ha (And.intro hb (And.intro nl nm)))
  have HN := Lib.hid (And.intro hns hnb)
  obtain ⟨a1, c1, rfl⟩ := ha.shape
  obtain ⟨a2, c2, rfl⟩ := hb.shape
  have B0 := Lib.hid hB3
  have Q := Lib.hid (And.intro q0 (And.intro q1 q2))
  clear ha hb nl nm hB3 q0 q1 q2 hns hnb
  cases ho : affOk8 ca la with
  | false =>
    have R : Hid (sumOk8 ca cb n la lb (sumsW8 la lb n names) = false) := show sumOk8 ca cb n la lb (sumsW8 la lb n names) = false by rw [sumOk8, ho]; rfl
    have HO := Lib.hid ho
    clear ho
    obtain ⟨⟨x0, x1⟩, _⟩ := blk2 Q.out.1
    go_enter Try.func40, Try.ntmps40
    go_wp2_with fail
    refine (spec_AffOk ca la (by omega) HA.out.2.2.1 _ _ (HA.out.1.later B0.out) false HO.out).mono ?_
    rintro e w1 ⟨rfl, hb1⟩
    have r2 := (hb1.block _ (Array.getElem?_eq_some_iff.1 Q.out.2.2).1).trans Q.out.2.2
    have R2 := Lib.hid r2
    have B1 := Lib.hid (B0.out.trans (hb1.mono B0.out.size))
    obtain ⟨⟨e0, e1⟩, k0, k1⟩ := blk2 r2
    clear hb1 r2
    go_wp2
    have f0 := Go.heap_setCell_same _ _ 0 _ _ (.int .i64 0) R2.out
    have f1 := Go.heap_setCell_same _ _ 1 _ _ (.slice Option.none 0 0) f0
    obtain ⟨⟨z0, z1⟩, _⟩ := blk2 f1
    refine bodyPost_ret (v := .tuple #[.agg #[.int .i64 0, .slice Option.none 0 0], .bool false]) (by simp [results, Try.results40, go_sem, z0, z1, e0, e1]) rfl ⟨.slice Option.none 0 0, by rw [R.out]; rfl, (fun h => by rw [R.out] at h; cases h), ?_⟩
    first
      | exact (B1.out.setCell (p := ⟨w.heap.size + 1 + 1, 0, Option.none⟩) (Nat.le_trans (Nat.le_succ _) (Nat.le_succ _)) _).setCell (p := ⟨w.heap.size + 1 + 1, 1, Option.none⟩) (Nat.le_trans (Nat.le_succ _) (Nat.le_succ _)) _
      | exact B1.out
  | true =>
    have HO := Lib.hid ho
    cases ho2 : affOk8 cb lb with
    | false =>
      have R : Hid (sumOk8 ca cb n la lb (sumsW8 la lb n names) = false) := show sumOk8 ca cb n la lb (sumsW8 la lb n names) = false by rw [sumOk8, ho, ho2]; rfl
      have HO2 := Lib.hid ho2
      clear ho ho2
      obtain ⟨⟨x0, x1⟩, _⟩ := blk2 Q.out.1
      go_enter Try.func40, Try.ntmps40
      go_wp2_with fail
      refine (spec_AffOk ca la (by omega) HA.out.2.2.1 _ _ (HA.out.1.later B0.out) true HO.out).mono ?_
      rintro e w1 ⟨rfl, hb1⟩
      have r1 := (hb1.block _ (Array.getElem?_eq_some_iff.1 Q.out.2.1).1).trans Q.out.2.1
      have r2 := (hb1.block _ (Array.getElem?_eq_some_iff.1 Q.out.2.2).1).trans Q.out.2.2
      have R2 := Lib.hid r2
      have B1 := Lib.hid (B0.out.trans (hb1.mono B0.out.size))
      obtain ⟨⟨d0, d1⟩, _⟩ := blk2 r1
      clear hb1 r1 r2
      go_wp2_with fail
      refine (spec_AffOk cb lb (by omega) HA.out.2.2.2 _ _ (HA.out.2.1.later B1.out) false HO2.out).mono ?_
      rintro e w2 ⟨rfl, hb1⟩
      have r2 := (hb1.block _ (Array.getElem?_eq_some_iff.1 R2.out).1).trans R2.out
      have R3 := Lib.hid r2
      have B2 := Lib.hid (B1.out.trans (hb1.mono B1.out.size))
      obtain ⟨⟨e0, e1⟩, k0, k1⟩ := blk2 r2
      clear hb1 r2 d0 d1
      go_wp2
      have f0 := Go.heap_setCell_same _ _ 0 _ _ (.int .i64 0) R3.out
      have f1 := Go.heap_setCell_same _ _ 1 _ _ (.slice Option.none 0 0) f0
      obtain ⟨⟨z0, z1⟩, _⟩ := blk2 f1
      refine bodyPost_ret (v := .tuple #[.agg #[.int .i64 0, .slice Option.none 0 0], .bool false]) (by simp [results, Try.results40, go_sem, z0, z1, e0, e1]) rfl ⟨.slice Option.none 0 0, by rw [R.out]; rfl, (fun h => by rw [R.out] at h; cases h), ?_⟩
      first
        | exact (B2.out.setCell (p := ⟨w.heap.size + 1 + 1, 0, Option.none⟩) (Nat.le_trans (Nat.le_succ _) (Nat.le_succ _)) _).setCell (p := ⟨w.heap.size + 1 + 1, 1, Option.none⟩) (Nat.le_trans (Nat.le_succ _) (Nat.le_succ _)) _
        | exact B2.out
    | true =>
      cases ho3 : affOk8 (IntKind.i64.wrap (ca + IntKind.i64.wrap (n * cb))) (sumsW8 la lb n names) with
      | false =>
        rw [sumOk8, ho, ho2, ho3]
        exact l8Sum_good n ca cb la lb hl hm HA.out.2.2.1 HA.out.2.2.2 _ _ w HA.out.1 HA.out.2.1 names HN.out.1 ho ho2 false ho3 HN.out.2
      | true =>
        rw [sumOk8, ho, ho2, ho3]
        exact l8Sum_good n ca cb la lb hl hm HA.out.2.2.1 HA.out.2.2.2 _ _ w HA.out.1 HA.out.2.1 names HN.out.1 ho ho2 true ho3 HN.out.2
set_option maxHeartbeats 4000000 in
set_option maxRecDepth 100000 in
theorem spec_AddA (ca cb : Int) (la lb : List AR) (hl : la.length ≤ 4000000) (hm : lb.length ≤ 4000000) (nl : NmB8 la) (nm : NmB8 lb) (va vb : Value) (w : World) (ha : AV w 0 va la) (hb : AV w 0 vb lb) (hnb : NmB8 (sumA8 la lb 1)) (ok : Bool) (dd : Int) (L : List AR) (hok : sumOk8 ca cb 1 la lb (sumA8 la lb 1) = ok) (hdd : (if ok = true then IntKind.i64.wrap (ca + IntKind.i64.wrap (1 * cb)) else 0) = dd) (hL : (if ok = true then sumA8 la lb 1 else []) = L) :
    Calls Try.prog 17 #[.agg #[.int .i64 ca, va], .agg #[.int .i64 cb, vb]] w (Out8 w ok dd L) := by
  obtain ⟨q0, q1, q2⟩ := heap3t w (.cells #[.int .i64 ca, va] 26) (.cells #[.int .i64 cb, vb] 26) (.cells #[.int .i64 0, .slice Option.none 0 0] 26)
  have hB3 : Below w.heap.size w (((w.alloc (.cells #[.int .i64 ca, va] 26)).alloc (.cells #[.int .i64 cb, vb] 26)).alloc (.cells #[.int .i64 0, .slice Option.none 0 0] 26)) := ((alloc_below w _).alloc (by simp) _).alloc (by simp; omega) _
  have C0 := Lib.hid (fun w2 hb2 => ((l8Sum_is 1 ca cb la lb hl hm nl nm va vb w2 (ha.later hb2) (hb.later hb2) _ rfl hnb).mono fun e w' h => Out8.of h))
  have C : Hid (∀ w2, Below w.heap.size w w2 → Calls Try.prog 40 #[.agg #[.int .i64 ca, va], .agg #[.int .i64 cb, vb], .int .i64 1] w2 (Out8 w2 ok dd L)) := show ∀ w2, _ → _ from fun w2 hb2 => by
    have := C0.out w2 hb2
    rwa [show sumOk8 ca cb 1 la lb (sumsW8 la lb 1 (puts8 (puts8 [] la) lb)) = ok from hok, hdd, show (if ok = true then sumsW8 la lb 1 (puts8 (puts8 [] la) lb) else []) = L from hL] at this
  obtain ⟨a1, c1, rfl⟩ := ha.shape
  obtain ⟨a2, c2, rfl⟩ := hb.shape
  have B0 := Lib.hid hB3
  have Q := Lib.hid (And.intro q0 (And.intro q1 q2))
  clear ha hb nl nm hB3 q0 q1 q2 hnb C0 hok hdd hL
  obtain ⟨⟨x0, x1⟩, _⟩ := blk2 Q.out.1
  obtain ⟨⟨y0, y1⟩, _⟩ := blk2 Q.out.2.1
  go_enter Try.func17, Try.ntmps17
  go_wp2_with fail
  refine (C.out _ B0.out).mono ?_
  rintro e w5 ⟨v5, rfl, own5, hb5⟩
  obtain ⟨a5, c5, rfl⟩ := ownShape own5
  have O5 := Lib.hid own5
  have r5 := (hb5.block _ (Array.getElem?_eq_some_iff.1 Q.out.2.2).1).trans Q.out.2.2
  have R5 := Lib.hid r5
  have B5 := Lib.hid (B0.out.trans (hb5.mono B0.out.size))
  obtain ⟨⟨e0, e1⟩, k0, k1⟩ := blk2 r5
  clear own5 r5 hb5 x0 x1 y0 y1
  go_wp2
  have f0 := Go.heap_setCell_same _ _ 0 _ _ (.int .i64 dd) R5.out
  have f1 := Go.heap_setCell_same _ _ 1 _ _ (.slice a5 L.length c5) f0
  obtain ⟨⟨z0, z1⟩, _⟩ := blk2 f1
  have hp : w.heap.size ≤ w.heap.size + 1 + 1 := by omega
  refine bodyPost_ret (v := .tuple #[.agg #[.int .i64 dd, .slice a5 L.length c5], .bool ok]) (by simp [results, Try.results17, go_sem, z0, z1]) rfl ⟨.slice a5 L.length c5, rfl, ?_, (B5.out.setCell (p := ⟨w.heap.size + 1 + 1, 0, Option.none⟩) hp _).setCell (p := ⟨w.heap.size + 1 + 1, 1, Option.none⟩) hp _⟩
  have o6 : w5.ownsRow (w.heap.size + 1 + 1 + 1) 59 2 (.slice a5 L.length c5) L.length (acells L) := by
    have := O5.out
    simpa using this
  exact ownMono8 (by omega) (own_later8 o6 fun g _ hg _ => by
    have hne : g ≠ w.heap.size + 1 + 1 := by omega
    exact (Below.heap_setCell _ _ _ _ hne).trans (Below.heap_setCell _ _ _ _ hne))
set_option maxHeartbeats 4000000 in
set_option maxRecDepth 100000 in
theorem spec_SubA (ca cb : Int) (la lb : List AR) (hl : la.length ≤ 4000000) (hm : lb.length ≤ 4000000) (nl : NmB8 la) (nm : NmB8 lb) (va vb : Value) (w : World) (ha : AV w 0 va la) (hb : AV w 0 vb lb) (hnb : NmB8 (sumA8 la lb (-1))) (ok : Bool) (dd : Int) (L : List AR) (hok : sumOk8 ca cb (-1) la lb (sumA8 la lb (-1)) = ok) (hdd : (if ok = true then IntKind.i64.wrap (ca + IntKind.i64.wrap ((-1) * cb)) else 0) = dd) (hL : (if ok = true then sumA8 la lb (-1) else []) = L) :
    Calls Try.prog 18 #[.agg #[.int .i64 ca, va], .agg #[.int .i64 cb, vb]] w (Out8 w ok dd L) := by
  obtain ⟨q0, q1, q2⟩ := heap3t w (.cells #[.int .i64 ca, va] 26) (.cells #[.int .i64 cb, vb] 26) (.cells #[.int .i64 0, .slice Option.none 0 0] 26)
  have hB3 : Below w.heap.size w (((w.alloc (.cells #[.int .i64 ca, va] 26)).alloc (.cells #[.int .i64 cb, vb] 26)).alloc (.cells #[.int .i64 0, .slice Option.none 0 0] 26)) := ((alloc_below w _).alloc (by simp) _).alloc (by simp; omega) _
  have C0 := Lib.hid (fun w2 hb2 => ((l8Sum_is (-1) ca cb la lb hl hm nl nm va vb w2 (ha.later hb2) (hb.later hb2) _ rfl hnb).mono fun e w' h => Out8.of h))
  have C : Hid (∀ w2, Below w.heap.size w w2 → Calls Try.prog 40 #[.agg #[.int .i64 ca, va], .agg #[.int .i64 cb, vb], .int .i64 (-1)] w2 (Out8 w2 ok dd L)) := show ∀ w2, _ → _ from fun w2 hb2 => by
    have := C0.out w2 hb2
    rwa [show sumOk8 ca cb (-1) la lb (sumsW8 la lb (-1) (puts8 (puts8 [] la) lb)) = ok from hok, hdd, show (if ok = true then sumsW8 la lb (-1) (puts8 (puts8 [] la) lb) else []) = L from hL] at this
  obtain ⟨a1, c1, rfl⟩ := ha.shape
  obtain ⟨a2, c2, rfl⟩ := hb.shape
  have B0 := Lib.hid hB3
  have Q := Lib.hid (And.intro q0 (And.intro q1 q2))
  clear ha hb nl nm hB3 q0 q1 q2 hnb C0 hok hdd hL
  obtain ⟨⟨x0, x1⟩, _⟩ := blk2 Q.out.1
  obtain ⟨⟨y0, y1⟩, _⟩ := blk2 Q.out.2.1
  go_enter Try.func18, Try.ntmps18
  go_wp2_with fail
  refine (C.out _ B0.out).mono ?_
  rintro e w5 ⟨v5, rfl, own5, hb5⟩
  obtain ⟨a5, c5, rfl⟩ := ownShape own5
  have O5 := Lib.hid own5
  have r5 := (hb5.block _ (Array.getElem?_eq_some_iff.1 Q.out.2.2).1).trans Q.out.2.2
  have R5 := Lib.hid r5
  have B5 := Lib.hid (B0.out.trans (hb5.mono B0.out.size))
  obtain ⟨⟨e0, e1⟩, k0, k1⟩ := blk2 r5
  clear own5 r5 hb5 x0 x1 y0 y1
  go_wp2
  have f0 := Go.heap_setCell_same _ _ 0 _ _ (.int .i64 dd) R5.out
  have f1 := Go.heap_setCell_same _ _ 1 _ _ (.slice a5 L.length c5) f0
  obtain ⟨⟨z0, z1⟩, _⟩ := blk2 f1
  have hp : w.heap.size ≤ w.heap.size + 1 + 1 := by omega
  refine bodyPost_ret (v := .tuple #[.agg #[.int .i64 dd, .slice a5 L.length c5], .bool ok]) (by simp [results, Try.results18, go_sem, z0, z1]) rfl ⟨.slice a5 L.length c5, rfl, ?_, (B5.out.setCell (p := ⟨w.heap.size + 1 + 1, 0, Option.none⟩) hp _).setCell (p := ⟨w.heap.size + 1 + 1, 1, Option.none⟩) hp _⟩
  have o6 : w5.ownsRow (w.heap.size + 1 + 1 + 1) 59 2 (.slice a5 L.length c5) L.length (acells L) := by
    have := O5.out
    simpa using this
  exact ownMono8 (by omega) (own_later8 o6 fun g _ hg _ => by
    have hne : g ≠ w.heap.size + 1 + 1 := by omega
    exact (Below.heap_setCell _ _ _ _ hne).trans (Below.heap_setCell _ _ _ _ hne))
end Go.Proofs.Ytfacenfiocdbgaa
