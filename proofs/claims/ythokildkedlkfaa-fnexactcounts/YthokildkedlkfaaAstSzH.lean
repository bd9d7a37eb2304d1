/-
  The contract of szStmt.
-/
import Derived.Test.YthokildkedlkfaaAstSz
import Derived.Deep.MidRow
import Derived.Deep.WholeRow
namespace Go.Proofs.Ythokildkedlkfaa
open Go.RowKit Go.Lib
set_option linter.unusedSimpArgs false
set_option linter.unusedVariables false

/-- A statement as a value of nineteen cells. -/
abbrev sagg (h : SH) (v1 v2 v3 v4 v : Value) : Value := .agg #[.int .i64 h.k, .string h.s, .int .i64 h.x1.h.k, .int .i64 h.x1.h.n, .string h.x1.h.s, v1, .int .i64 h.x2.h.k, .int .i64 h.x2.h.n, .string h.x2.h.s, v2, .int .i64 h.x3.h.k, .int .i64 h.x3.h.n, .string h.x3.h.s, v3, .int .i64 h.x4.h.k, .int .i64 h.x4.h.n, .string h.x4.h.s, v4, v]
abbrev sarr (h : SH) (v1 v2 v3 v4 v : Value) : Array Value := #[.int .i64 h.k, .string h.s, .int .i64 h.x1.h.k, .int .i64 h.x1.h.n, .string h.x1.h.s, v1, .int .i64 h.x2.h.k, .int .i64 h.x2.h.n, .string h.x2.h.s, v2, .int .i64 h.x3.h.k, .int .i64 h.x3.h.n, .string h.x3.h.s, v3, .int .i64 h.x4.h.k, .int .i64 h.x4.h.n, .string h.x4.h.s, v4, v]
/-- What stands under a statement's parts. -/
structure HV (w : World) (lo : Nat) (h : SH) (v1 v2 v3 v4 : Value) : Prop where
  e1 : EV w lo h.x1.l v1
  e2 : EV w lo h.x2.l v2
  e3 : EV w lo h.x3.l v3
  e4 : EV w lo h.x4.l v4
theorem HV.later {w w' : World} {lo : Nat} {h : SH} {v1 v2 v3 v4 : Value} (hv : HV w lo h v1 v2 v3 v4) (hb : Below w.heap.size w w') : HV w' lo h v1 v2 v3 v4 := ⟨hv.e1.later hb, hv.e2.later hb, hv.e3.later hb, hv.e4.later hb⟩
theorem HV.low {w : World} {lo : Nat} {h : SH} {v1 v2 v3 v4 : Value} (hv : HV w lo h v1 v2 v3 v4) : HV w 0 h v1 v2 v3 v4 := ⟨hv.e1.low, hv.e2.low, hv.e3.low, hv.e4.low⟩
/-- A statement that lies in nineteen cells, with the values of its five slices. -/
theorem SC.open {w : World} {lo : Nat} {h : SH} {l : SF} {b o : Nat} (hc : SC w lo h l b o) : ∃ v1 v2 v3 v4 v, HV w lo h v1 v2 v3 v4 ∧ SV w lo l v ∧
    w.cell? ⟨b, o, Option.none⟩ = some (.int .i64 h.k) ∧ w.cell? ⟨b, o + 1, Option.none⟩ = some (.string h.s) ∧
    (w.cell? ⟨b, o + 2, Option.none⟩ = some (.int .i64 h.x1.h.k) ∧ w.cell? ⟨b, o + 3, Option.none⟩ = some (.int .i64 h.x1.h.n) ∧ w.cell? ⟨b, o + 4, Option.none⟩ = some (.string h.x1.h.s) ∧ w.cell? ⟨b, o + 5, Option.none⟩ = some v1) ∧
    (w.cell? ⟨b, o + 6, Option.none⟩ = some (.int .i64 h.x2.h.k) ∧ w.cell? ⟨b, o + 7, Option.none⟩ = some (.int .i64 h.x2.h.n) ∧ w.cell? ⟨b, o + 8, Option.none⟩ = some (.string h.x2.h.s) ∧ w.cell? ⟨b, o + 9, Option.none⟩ = some v2) ∧
    (w.cell? ⟨b, o + 10, Option.none⟩ = some (.int .i64 h.x3.h.k) ∧ w.cell? ⟨b, o + 11, Option.none⟩ = some (.int .i64 h.x3.h.n) ∧ w.cell? ⟨b, o + 12, Option.none⟩ = some (.string h.x3.h.s) ∧ w.cell? ⟨b, o + 13, Option.none⟩ = some v3) ∧
    (w.cell? ⟨b, o + 14, Option.none⟩ = some (.int .i64 h.x4.h.k) ∧ w.cell? ⟨b, o + 15, Option.none⟩ = some (.int .i64 h.x4.h.n) ∧ w.cell? ⟨b, o + 16, Option.none⟩ = some (.string h.x4.h.s) ∧ w.cell? ⟨b, o + 17, Option.none⟩ = some v4) ∧
    w.cell? ⟨b, o + 18, Option.none⟩ = some v := by
  obtain ⟨h0, h1, ⟨a0, a1, a2, v1, a3, a4⟩, ⟨b0, b1, b2, v2, b3, b4⟩, ⟨c0, c1, c2, v3, c3, c4⟩, ⟨d0, d1, d2, v4, d3, d4⟩, v, h6, h7⟩ := hc
  exact ⟨v1, v2, v3, v4, v, ⟨a4, b4, c4, d4⟩, h7, h0, h1, ⟨a0, a1, a2, a3⟩, ⟨b0, b1, b2, b3⟩, ⟨c0, c1, c2, c3⟩, ⟨d0, d1, d2, d3⟩, h6⟩
/-- A statement that lies in nineteen cells, as a range. -/
theorem SC.range {w : World} {lo : Nat} {h : SH} {l : SF} {b o : Nat} (hc : SC w lo h l b o) : ∃ v1 v2 v3 v4 v, HV w lo h v1 v2 v3 v4 ∧ SV w lo l v ∧ w.rangeAt b o (scells h v1 v2 v3 v4 v) := by
  obtain ⟨v1, v2, v3, v4, v, hv, hl, a0, a1, ⟨a2, a3, a4, a5⟩, ⟨a6, a7, a8, a9⟩, ⟨a10, a11, a12, a13⟩, ⟨a14, a15, a16, a17⟩, a18⟩ := hc.open
  refine ⟨v1, v2, v3, v4, v, hv, hl, fun j u hj => ?_⟩
  match j, hj with
  | 0, hj => cases hj; exact a0
  | 1, hj => cases hj; exact a1
  | 2, hj => cases hj; exact a2
  | 3, hj => cases hj; exact a3
  | 4, hj => cases hj; exact a4
  | 5, hj => cases hj; exact a5
  | 6, hj => cases hj; exact a6
  | 7, hj => cases hj; exact a7
  | 8, hj => cases hj; exact a8
  | 9, hj => cases hj; exact a9
  | 10, hj => cases hj; exact a10
  | 11, hj => cases hj; exact a11
  | 12, hj => cases hj; exact a12
  | 13, hj => cases hj; exact a13
  | 14, hj => cases hj; exact a14
  | 15, hj => cases hj; exact a15
  | 16, hj => cases hj; exact a16
  | 17, hj => cases hj; exact a17
  | 18, hj => cases hj; exact a18
  | j + 19, hj => simp [scells, xcells] at hj
theorem sizeLS : (Try.prog.info? 52).map (·.size) = some 19 := by kernel_rfl
theorem sizeIS : (Try.prog.info? 29).map (·.size) = some 19 := by kernel_rfl
set_option maxHeartbeats 2000000 in
theorem szStmt_of (h : SH) (l : SF) (hs : h.s.size ≤ 9223372036854775807) (k1 : xok h.x1) (k2 : xok h.x2) (k3 : xok h.x3) (k4 : xok h.x4)
    (ih : ∀ (w : World) (v : Value) (left : Int), SV w 0 l v → 0 ≤ left → left ≤ 1048576 → Calls Try.prog 22 #[v, .int .i64 left] w (Sz (ssize l) left w))
    (w : World) (v1 v2 v3 v4 v : Value) (left : Int) (hv : HV w 0 h v1 v2 v3 v4) (hl : SV w 0 l v) (h0 : 0 ≤ left) (h1 : left ≤ 1048576) :
    Calls Try.prog 25 #[sagg h v1 v2 v3 v4 v, .int .i64 left] w (Sz (hsize h + ssize l) left w) := by
  have Hx : Hid (((hsize h + ssize l : Nat) : Int) = (h.s.size : Int) + (xsize h.x1 : Int) + (xsize h.x2 : Int) + (xsize h.x3 : Int) + (xsize h.x4 : Int) + (ssize l : Int)) := show ((hsize h + ssize l : Nat) : Int) = _ by unfold hsize; omega
  have hsI : (h.s.size : Int) ≤ 9223372036854775807 := by omega
  have Hih := Lib.hid ih
  have Hv := Lib.hid hv
  have Hl := Lib.hid hl
  have hb0 : Below w.heap.size w (w.alloc (.cells (sarr h v1 v2 v3 v4 v) 52)) := alloc_below _ _
  clear ih hv hl
  by_cases hd : left < (h.s.size : Int)
  · have h' : left - (h.s.size : Int) < 0 := by omega
    go_enter Try.func25, Try.ntmps25
    go_wp2
    all_goals first
      | omega
      | (go_ret; exact Sz.less (by rw [Hx.out]; omega) (alloc_below _ _))
  have h' : ¬ left - (h.s.size : Int) < 0 := by omega
  go_enter Try.func25, Try.ntmps25
  go_wp2_with fail
  all_goals try omega
  obtain ⟨L0, hL0⟩ : ∃ L0 : Int, left - (h.s.size : Int) = L0 := ⟨_, rfl⟩
  rw [hL0]
  have HL0 : Hid (left = (h.s.size : Int) + L0) := show left = (h.s.size : Int) + L0 by omega
  have l0 : 0 ≤ L0 ∧ L0 ≤ 1048576 := by omega
  have Hlt := Lib.hid h1
  clear hd h' hL0 h0 h1 hsI
  refine (szExp_is h.x1 k1 _ v1 L0 (Hv.out.e1.later hb0) l0.1 l0.2).mono ?_
  rintro e w1 ⟨rfl, hb1⟩
  by_cases hd : L0 < (xsize h.x1 : Int)
  · rw [if_pos hd]
    have hb := below_alloc hb1
    go_wp2
    go_ret
    refine Sz.less ?_ hb
    rw [Hx.out, HL0.out]; omega
  rw [if_neg hd]
  obtain ⟨L1, hL1⟩ : ∃ L1 : Int, L0 - (xsize h.x1 : Int) = L1 := ⟨_, rfl⟩
  rw [hL1]
  have HL1 : Hid (left = (h.s.size : Int) + (xsize h.x1 : Int) + L1) := show left = _ by rw [HL0.out]; omega
  have l1 : 0 ≤ L1 ∧ L1 ≤ 1048576 := by omega
  have hn : ¬ L1 < 0 := by omega
  have hA1 := hb1
  have hB1 := below_alloc hA1
  have c10 := box_cell (i := 6) hA1 rfl
  have c11 := box_cell (i := 7) hA1 rfl
  have c12 := box_cell (i := 8) hA1 rfl
  have c13 := box_cell (i := 9) hA1 rfl
  clear hd hL1 hb1 HL0 l0  hb0
  go_wp2_with fail
  refine (szExp_is h.x2 k2 _ v2 L1 (Hv.out.e2.later hB1) l1.1 l1.2).mono ?_
  rintro e w2 ⟨rfl, hb2⟩
  by_cases hd : L1 < (xsize h.x2 : Int)
  · rw [if_pos hd]
    have hb := below_alloc (hA1.trans (hb2.mono hA1.size))
    go_wp2
    go_ret
    refine Sz.less ?_ hb
    rw [Hx.out, HL1.out]; omega
  rw [if_neg hd]
  obtain ⟨L2, hL2⟩ : ∃ L2 : Int, L1 - (xsize h.x2 : Int) = L2 := ⟨_, rfl⟩
  rw [hL2]
  have HL2 : Hid (left = (h.s.size : Int) + (xsize h.x1 : Int) + (xsize h.x2 : Int) + L2) := show left = _ by rw [HL1.out]; omega
  have l2 : 0 ≤ L2 ∧ L2 ≤ 1048576 := by omega
  have hn : ¬ L2 < 0 := by omega
  have hA2 := hA1.trans (hb2.mono hA1.size)
  have hB2 := below_alloc hA2
  have c20 := box_cell (i := 10) hA2 rfl
  have c21 := box_cell (i := 11) hA2 rfl
  have c22 := box_cell (i := 12) hA2 rfl
  have c23 := box_cell (i := 13) hA2 rfl
  clear hd hL2 hb2 HL1 l1 c10 c11 c12 c13 hA1 hB1
  go_wp2_with fail
  refine (szExp_is h.x3 k3 _ v3 L2 (Hv.out.e3.later hB2) l2.1 l2.2).mono ?_
  rintro e w3 ⟨rfl, hb3⟩
  by_cases hd : L2 < (xsize h.x3 : Int)
  · rw [if_pos hd]
    have hb := below_alloc (hA2.trans (hb3.mono hA2.size))
    go_wp2
    go_ret
    refine Sz.less ?_ hb
    rw [Hx.out, HL2.out]; omega
  rw [if_neg hd]
  obtain ⟨L3, hL3⟩ : ∃ L3 : Int, L2 - (xsize h.x3 : Int) = L3 := ⟨_, rfl⟩
  rw [hL3]
  have HL3 : Hid (left = (h.s.size : Int) + (xsize h.x1 : Int) + (xsize h.x2 : Int) + (xsize h.x3 : Int) + L3) := show left = _ by rw [HL2.out]; omega
  have l3 : 0 ≤ L3 ∧ L3 ≤ 1048576 := by omega
  have hn : ¬ L3 < 0 := by omega
  have hA3 := hA2.trans (hb3.mono hA2.size)
  have hB3 := below_alloc hA3
  have c30 := box_cell (i := 14) hA3 rfl
  have c31 := box_cell (i := 15) hA3 rfl
  have c32 := box_cell (i := 16) hA3 rfl
  have c33 := box_cell (i := 17) hA3 rfl
  clear hd hL3 hb3 HL2 l2 c20 c21 c22 c23 hA2 hB2
  go_wp2_with fail
  refine (szExp_is h.x4 k4 _ v4 L3 (Hv.out.e4.later hB3) l3.1 l3.2).mono ?_
  rintro e w4 ⟨rfl, hb4⟩
  by_cases hd : L3 < (xsize h.x4 : Int)
  · rw [if_pos hd]
    have hb := below_alloc (hA3.trans (hb4.mono hA3.size))
    go_wp2
    go_ret
    refine Sz.less ?_ hb
    rw [Hx.out, HL3.out]; omega
  rw [if_neg hd]
  obtain ⟨L4, hL4⟩ : ∃ L4 : Int, L3 - (xsize h.x4 : Int) = L4 := ⟨_, rfl⟩
  rw [hL4]
  have HL4 : Hid (left = (h.s.size : Int) + (xsize h.x1 : Int) + (xsize h.x2 : Int) + (xsize h.x3 : Int) + (xsize h.x4 : Int) + L4) := show left = _ by rw [HL3.out]; omega
  have l4 : 0 ≤ L4 ∧ L4 ≤ 1048576 := by omega
  have hn : ¬ L4 < 0 := by omega
  have hA4 := hA3.trans (hb4.mono hA3.size)
  have hB4 := below_alloc hA4
  have c40 := box_cell (i := 18) hA4 rfl
  clear hd hL4 hb4 HL3 l3 c30 c31 c32 c33 hA3 hB3
  go_wp2_with fail
  refine (Hih.out _ v L4 (Hl.out.later hB4) l4.1 l4.2).mono ?_
  rintro e w5 ⟨rfl, hb5⟩
  by_cases hd : L4 < (ssize l : Int)
  · rw [if_pos hd]
    have hb := below_alloc (hA4.trans (hb5.mono hA4.size))
    go_wp2
    go_ret
    refine Sz.less ?_ hb
    rw [Hx.out, HL4.out]; omega
  rw [if_neg hd]
  obtain ⟨L5, hL5⟩ : ∃ L5 : Int, L4 - (ssize l : Int) = L5 := ⟨_, rfl⟩
  rw [hL5]
  have HL5 : Hid (left = (h.s.size : Int) + (xsize h.x1 : Int) + (xsize h.x2 : Int) + (xsize h.x3 : Int) + (xsize h.x4 : Int) + (ssize l : Int) + L5) := show left = _ by rw [HL4.out]; omega
  have l5 : 0 ≤ L5 ∧ L5 ≤ 1048576 := by omega
  have hn : ¬ L5 < 0 := by omega
  have hA5 := hA4.trans (hb5.mono hA4.size)
  have hB5 := below_alloc hA5
  clear hd hL5 hb5 HL4 l4 c40 hA4 hB4
  go_wp2
  go_ret
  exact Sz.more (by rw [Hx.out, HL5.out]; omega) (by rw [Hx.out]; have := HL5.out; omega) hB5
end Go.Proofs.Ythokildkedlkfaa
