/-
  The contract of szStmt.
-/
import Derived.Test.YtjdpddcnogdekabAstSz
import Derived.Deep.MidRow
import Derived.Deep.WholeRow
namespace Go.Proofs.Ytjdpddcnogdekab
open Go.RowKit Go.Lib
set_option linter.unusedSimpArgs false
set_option linter.unusedVariables false

/-- A statement as a value of nineteen cells. -/
abbrev sagg (h : SH) (v1 v2 v3 v4 v : Value) : Value := .agg #[.int .i64 h.k, .string h.s, .int .i64 h.x1.h.k, .int .i64 h.x1.h.n, .string h.x1.h.s, v1, .int .i64 h.x2.h.k, .int .i64 h.x2.h.n, .string h.x2.h.s, v2, .int .i64 h.x3.h.k, .int .i64 h.x3.h.n, .string h.x3.h.s, v3, .int .i64 h.x4.h.k, .int .i64 h.x4.h.n, .string h.x4.h.s, v4, v]
abbrev sarr (h : SH) (v1 v2 v3 v4 v : Value) : Array Value := #[.int .i64 h.k, .string h.s, .int .i64 h.x1.h.k, .int .i64 h.x1.h.n, .string h.x1.h.s, v1, .int .i64 h.x2.h.k, .int .i64 h.x2.h.n, .string h.x2.h.s, v2, .int .i64 h.x3.h.k, .int .i64 h.x3.h.n, .string h.x3.h.s, v3, .int .i64 h.x4.h.k, .int .i64 h.x4.h.n, .string h.x4.h.s, v4, v]
/-- What stands under a statement's parts. -/
structure HV (w : World) (lo : Nat) (h : SH) (v1 v2 v3 v4 : Value) : Prop where
  e1 : EV w lo h.x1.l v1
  e2 : EV w lo h.x2.l v2
  e3 : EV w lo h.x3.l v3
  e4 : EV w lo h.x4.l v4
theorem HV.later {w w' : World} {lo : Nat} {h : SH} {v1 v2 v3 v4 : Value} (hv : HV w lo h v1 v2 v3 v4) (hb : Below w.heap.size w w') : HV w' lo h v1 v2 v3 v4 := ⟨hv.e1.later hb, hv.e2.later hb, hv.e3.later hb, hv.e4.later hb⟩
theorem HV.low {w : World} {lo : Nat} {h : SH} {v1 v2 v3 v4 : Value} (hv : HV w lo h v1 v2 v3 v4) : HV w 0 h v1 v2 v3 v4 := ⟨hv.e1.low, hv.e2.low, hv.e3.low, hv.e4.low⟩
/-- A statement that lies in nineteen cells, with the values of its five slices. -/
theorem SC.open {w : World} {lo : Nat} {h : SH} {l : SF} {b o : Nat} (hc : SC w lo h l b o) : ∃ v1 v2 v3 v4 v, HV w lo h v1 v2 v3 v4 ∧ SV w lo l v ∧
    w.cell? ⟨b, o, Option.none⟩ = some (.int .i64 h.k) ∧ w.cell? ⟨b, o + 1, Option.none⟩ = some (.string h.s) ∧
    (w.cell? ⟨b, o + 2, Option.none⟩ = some (.int .i64 h.x1.h.k) ∧ w.cell? ⟨b, o + 3, Option.none⟩ = some (.int .i64 h.x1.h.n) ∧ w.cell? ⟨b, o + 4, Option.none⟩ = some (.string h.x1.h.s) ∧ w.cell? ⟨b, o + 5, Option.none⟩ = some v1) ∧
    (w.cell? ⟨b, o + 6, Option.none⟩ = some (.int .i64 h.x2.h.k) ∧ w.cell? ⟨b, o + 7, Option.none⟩ = some (.int .i64 h.x2.h.n) ∧ w.cell? ⟨b, o + 8, Option.none⟩ = some (.string h.x2.h.s) ∧ w.cell? ⟨b, o + 9, Option.none⟩ = some v2) ∧
    (w.cell? ⟨b, o + 10, Option.none⟩ = some (.int .i64 h.x3.h.k) ∧ w.cell? ⟨b, o + 11, Option.none⟩ = some (.int .i64 h.x3.h.n) ∧ w.cell? ⟨b, o + 12, Option.none⟩ = some (.string h.x3.h.s) ∧ w.cell? ⟨b, o + 13, Option.none⟩ = some v3) ∧
    (w.cell? ⟨b, o + 14, Option.none⟩ = some (.int .i64 h.x4.h.k) ∧ w.cell? ⟨b, o + 15, Option.none⟩ = some (.int .i64 h.x4.h.n) ∧ w.cell? ⟨b, o + 16, Option.none⟩ = some (.string h.x4.h.s) ∧ w.cell? ⟨b, o + 17, Option.none⟩ = some v4) ∧
    w.cell? ⟨b, o + 18, Option.none⟩ = some v := by
  obtain ⟨h0, h1, ⟨a0, a1, a2, v1, a3, a4⟩, ⟨b0, b1, b2, v2, b3, b4⟩, ⟨c0, c1, c2, v3, c3, c4⟩, ⟨d0, d1, d2, v4, d3, d4⟩, v, h6, h7⟩ := hc
  exact ⟨v1, v2, v3, v4, v, ⟨a4, b4, c4, d4⟩, h7, h0, h1, ⟨a0, a1, a2, a3⟩, ⟨b0, b1, b2, b3⟩, ⟨c0, c1, c2, c3⟩, ⟨d0, d1, d2, d3⟩, h6⟩
/-- A statement that lies in nineteen cells, as a range. -/
theorem SC.range {w : World} {lo : Nat} {h : SH} {l : SF} {b o : Nat} (hc : SC w lo h l b o) : ∃ v1 v2 v3 v4 v, HV w lo h v1 v2 v3 v4 ∧ SV w lo l v ∧ w.rangeAt b o (scells h v1 v2 v3 v4 v) := by
  obtain ⟨v1, v2, v3, v4, v, hv, hl, a0, a1, ⟨a2, a3, a4, a5⟩, ⟨a6, a7, a8, a9⟩, ⟨a10, a11, a12, a13⟩, ⟨a14, a15, a16, a17⟩, a18⟩ := hc.open
  refine ⟨v1, v2, v3, v4, v, hv, hl, fun j u hj => ?_⟩
  match j, hj with
  | 0, hj => cases hj; exact a0
  | 1, hj => cases hj; exact a1
  | 2, hj => cases hj; exact a2
  | 3, hj => cases hj; exact a3
  | 4, hj => cases hj; exact a4
  | 5, hj => cases hj; exact a5
  | 6, hj => cases hj; exact a6
  | 7, hj => cases hj; exact a7
  | 8, hj => cases hj; exact a8
  | 9, hj => cases hj; exact a9
  | 10, hj => cases hj; exact a10
  | 11, hj => cases hj; exact a11
  | 12, hj => cases hj; exact a12
  | 13, hj => cases hj; exact a13
  | 14, hj => cases hj; exact a14
  | 15, hj => cases hj; exact a15
  | 16, hj => cases hj; exact a16
  | 17, hj => cases hj; exact a17
  | 18, hj => cases hj; exact a18
  | j + 19, hj => simp [scells, xcells] at hj
end Go.Proofs.Ytjdpddcnogdekab
