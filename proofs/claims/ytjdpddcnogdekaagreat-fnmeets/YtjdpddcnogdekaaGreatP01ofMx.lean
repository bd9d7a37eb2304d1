/-
  Texts in one: AstSzH, AstMem.
-/
import Derived.Test.YtjdpddcnogdekaaGreatP00ofMx
import Derived.Deep.MidRow
import Derived.Deep.WholeRow
/-
  The contract of szStmt.
-/
namespace Go.Proofs.YtjdpddcnogdekaaGreat
open Go.RowKit Go.Lib
set_option linter.unusedSimpArgs false
set_option linter.unusedVariables false

/-- A statement as a value of nineteen cells. -/
abbrev sagg (h : SH) (v1 v2 v3 v4 v : Value) : Value := .agg #[.int .i64 h.k, .string h.s, .int .i64 h.x1.h.k, .int .i64 h.x1.h.n, .string h.x1.h.s, v1, .int .i64 h.x2.h.k, .int .i64 h.x2.h.n, .string h.x2.h.s, v2, .int .i64 h.x3.h.k, .int .i64 h.x3.h.n, .string h.x3.h.s, v3, .int .i64 h.x4.h.k, .int .i64 h.x4.h.n, .string h.x4.h.s, v4, v]
abbrev sarr (h : SH) (v1 v2 v3 v4 v : Value) : Array Value := #[.int .i64 h.k, .string h.s, .int .i64 h.x1.h.k, .int .i64 h.x1.h.n, .string h.x1.h.s, v1, .int .i64 h.x2.h.k, .int .i64 h.x2.h.n, .string h.x2.h.s, v2, .int .i64 h.x3.h.k, .int .i64 h.x3.h.n, .string h.x3.h.s, v3, .int .i64 h.x4.h.k, .int .i64 h.x4.h.n, .string h.x4.h.s, v4, v]
/-- What stands under a statement's parts. -/
structure HV (w : World) (lo : Nat) (h : SH) (v1 v2 v3 v4 : Value) : Prop where
  e1 : EV w lo h.x1.l v1
  e2 : EV w lo h.x2.l v2
  e3 : EV w lo h.x3.l v3
  e4 : EV w lo h.x4.l v4
theorem HV.later {w w' : World} {lo : Nat} {h : SH} {v1 v2 v3 v4 : Value} (hv : HV w lo h v1 v2 v3 v4) (hb : Below w.heap.size w w') : HV w' lo h v1 v2 v3 v4 := ⟨hv.e1.later hb, hv.e2.later hb, hv.e3.later hb, hv.e4.later hb⟩
theorem HV.low {w : World} {lo : Nat} {h : SH} {v1 v2 v3 v4 : Value} (hv : HV w lo h v1 v2 v3 v4) : HV w 0 h v1 v2 v3 v4 := ⟨hv.e1.low, hv.e2.low, hv.e3.low, hv.e4.low⟩
/-- A statement that lies in nineteen cells, with the values of its five slices. -/
theorem SC.open {w : World} {lo : Nat} {h : SH} {l : SF} {b o : Nat} (hc : SC w lo h l b o) : ∃ v1 v2 v3 v4 v, HV w lo h v1 v2 v3 v4 ∧ SV w lo l v ∧
    w.cell? ⟨b, o, Option.none⟩ = some (.int .i64 h.k) ∧ w.cell? ⟨b, o + 1, Option.none⟩ = some (.string h.s) ∧
    (w.cell? ⟨b, o + 2, Option.none⟩ = some (.int .i64 h.x1.h.k) ∧ w.cell? ⟨b, o + 3, Option.none⟩ = some (.int .i64 h.x1.h.n) ∧ w.cell? ⟨b, o + 4, Option.none⟩ = some (.string h.x1.h.s) ∧ w.cell? ⟨b, o + 5, Option.none⟩ = some v1) ∧
    (w.cell? ⟨b, o + 6, Option.none⟩ = some (.int .i64 h.x2.h.k) ∧ w.cell? ⟨b, o + 7, Option.none⟩ = some (.int .i64 h.x2.h.n) ∧ w.cell? ⟨b, o + 8, Option.none⟩ = some (.string h.x2.h.s) ∧ w.cell? ⟨b, o + 9, Option.none⟩ = some v2) ∧
    (w.cell? ⟨b, o + 10, Option.none⟩ = some (.int .i64 h.x3.h.k) ∧ w.cell? ⟨b, o + 11, Option.none⟩ = some (.int .i64 h.x3.h.n) ∧ w.cell? ⟨b, o + 12, Option.none⟩ = some (.string h.x3.h.s) ∧ w.cell? ⟨b, o + 13, Option.none⟩ = some v3) ∧
    (w.cell? ⟨b, o + 14, Option.none⟩ = some (.int .i64 h.x4.h.k) ∧ w.cell? ⟨b, o + 15, Option.none⟩ = some (.int .i64 h.x4.h.n) ∧ w.cell? ⟨b, o + 16, Option.none⟩ = some (.string h.x4.h.s) ∧ w.cell? ⟨b, o + 17, Option.none⟩ = some v4) ∧
    w.cell? ⟨b, o + 18, Option.none⟩ = some v := by
  obtain ⟨h0, h1, ⟨a0, a1, a2, v1, a3, a4⟩, ⟨b0, b1, b2, v2, b3, b4⟩, ⟨c0, c1, c2, v3, c3, c4⟩, ⟨d0, d1, d2, v4, d3, d4⟩, v, h6, h7⟩ := hc
  exact ⟨v1, v2, v3, v4, v, ⟨a4, b4, c4, d4⟩, h7, h0, h1, ⟨a0, a1, a2, a3⟩, ⟨b0, b1, b2, b3⟩, ⟨c0, c1, c2, c3⟩, ⟨d0, d1, d2, d3⟩, h6⟩
/-- A statement that lies in nineteen cells, as a range. -/
theorem SC.range {w : World} {lo : Nat} {h : SH} {l : SF} {b o : Nat} (hc : SC w lo h l b o) : ∃ v1 v2 v3 v4 v, HV w lo h v1 v2 v3 v4 ∧ SV w lo l v ∧ w.rangeAt b o (scells h v1 v2 v3 v4 v) := by
  obtain ⟨v1, v2, v3, v4, v, hv, hl, a0, a1, ⟨a2, a3, a4, a5⟩, ⟨a6, a7, a8, a9⟩, ⟨a10, a11, a12, a13⟩, ⟨a14, a15, a16, a17⟩, a18⟩ := hc.open
  refine ⟨v1, v2, v3, v4, v, hv, hl, fun j u hj => ?_⟩
  match j, hj with
  | 0, hj => cases hj; exact a0
  | 1, hj => cases hj; exact a1
  | 2, hj => cases hj; exact a2
  | 3, hj => cases hj; exact a3
  | 4, hj => cases hj; exact a4
  | 5, hj => cases hj; exact a5
  | 6, hj => cases hj; exact a6
  | 7, hj => cases hj; exact a7
  | 8, hj => cases hj; exact a8
  | 9, hj => cases hj; exact a9
  | 10, hj => cases hj; exact a10
  | 11, hj => cases hj; exact a11
  | 12, hj => cases hj; exact a12
  | 13, hj => cases hj; exact a13
  | 14, hj => cases hj; exact a14
  | 15, hj => cases hj; exact a15
  | 16, hj => cases hj; exact a16
  | 17, hj => cases hj; exact a17
  | 18, hj => cases hj; exact a18
  | j + 19, hj => simp [scells, xcells] at hj
end Go.Proofs.YtjdpddcnogdekaaGreat
/-
  Ranges of cells from world to world; blocks that were just laid.
-/
namespace Go.Proofs.YtjdpddcnogdekaaGreat
open Go.RowKit Go.Lib
set_option linter.unusedSimpArgs false
set_option linter.unusedVariables false

theorem rangeAt_later {w w' : World} {b o : Nat} {cs : List Value} (h : w.rangeAt b o cs) (hb : Below w.heap.size w w') : w'.rangeAt b o cs := fun j v hv => keeps hb (h j v hv)
theorem there_later {w w' : World} {b o n : Nat} (h : w.there b o n) (hb : Below w.heap.size w w') : w'.there b o n := fun j hj => by
  obtain ⟨h1, h2⟩ := h j hj
  obtain ⟨u, hu⟩ := Option.isSome_iff_exists.1 h1
  refine ⟨by rw [keeps hb hu]; rfl, ?_⟩
  have hlt := lt_of_cellA hu
  have e := hb.block b hlt
  unfold World.frozen? at h2 ⊢
  simp only [e]
  exact h2
theorem rangeAt_app {w : World} {b o : Nat} {cs ds : List Value} (h1 : w.rangeAt b o cs) (h2 : w.rangeAt b (o + cs.length) ds) : w.rangeAt b o (cs ++ ds) := fun j v hv => by
  rcases Nat.lt_or_ge j cs.length with h | h
  · rw [List.getElem?_append_left h] at hv; exact h1 j v hv
  · rw [List.getElem?_append_right h] at hv
    have := h2 _ v hv
    rwa [show o + cs.length + (j - cs.length) = o + j by omega] at this
theorem rangeAt_part {w : World} {b o : Nat} {cs ds es fs : List Value} (h : w.rangeAt b o cs) (e : cs = ds ++ (es ++ fs)) : w.rangeAt b (o + ds.length) es := fun j v hv => by
  have hj : j < es.length := (List.getElem?_eq_some_iff.1 hv).1
  have := h (ds.length + j) v (by rw [e, List.getElem?_append_right (by omega), Nat.add_sub_cancel_left, List.getElem?_append_left hj]; exact hv)
  rwa [show o + (ds.length + j) = o + ds.length + j by omega] at this
theorem there_part {w : World} {b o n : Nat} (h : w.there b o n) (i m : Nat) (hm : i + m ≤ n) : w.there b (o + i) m := fun j hj => by
  have := h (i + j) (by omega)
  rwa [show o + (i + j) = o + i + j by omega] at this
theorem blk_range {w : World} {b : Nat} {arr : Array Value} {t : TypeId} {fr : Nat × Nat} (h : w.heap[b]? = some (.cells arr t fr)) : w.rangeAt b 0 arr.toList := fun j v hv => by
  simp only [World.cell?, h, Nat.zero_add]; simpa using hv
theorem blk_there {w : World} {b n : Nat} {arr : Array Value} {t : TypeId} (h : w.heap[b]? = some (.cells arr t (0, 0))) (hn : n ≤ arr.size) : w.there b 0 n := fun j hj => by
  refine ⟨?_, by simp [World.frozen?, h]⟩
  simp only [World.cell?, h, Nat.zero_add]
  rw [Array.getElem?_eq_getElem (by omega)]; rfl
/-- Whatever lies at lo or above stays. -/
def Keeps (lo : Nat) (w w' : World) : Prop := ∀ (a : Addr) v, lo ≤ a.block → w.cell? a = some v → w'.cell? a = some v
theorem Keeps.refl (lo : Nat) (w : World) : Keeps lo w w := fun _ _ _ h => h
theorem Keeps.trans {lo : Nat} {w w1 w2 : World} (h : Keeps lo w w1) (g : Keeps lo w1 w2) : Keeps lo w w2 := fun a v hl hc => g a v hl (h a v hl hc)
theorem Keeps.later {lo : Nat} {w w' : World} (hb : Below w.heap.size w w') : Keeps lo w w' := fun _ _ _ hc => keeps hb hc
theorem Keeps.sets {lo g : Nat} (w : World) (hg : g < lo) (o : Nat) (vs : List Value) : Keeps lo w (w.setCells g o vs) := fun a v hl hc => by
  rw [World.cell?_setCells_out g vs o w a (fun hb _ => by omega)]; exact hc
theorem Keeps.set {lo : Nat} (w : World) (p : Addr) (hg : p.block < lo) (u : Value) : Keeps lo w (w.setCell p u) := fun a v hl hc => by
  rw [World.cell?_setCell_other _ _ _ _ (fun e => by subst e; omega)]; exact hc
theorem below_sets {B g : Nat} {w : World} : ∀ (vs : List Value) (o : Nat) {w1 : World}, Below B w w1 → B ≤ g → Below B w (w1.setCells g o vs)
  | [], _, _, h, _ => h
  | v :: vs, o, _, h, hg => by rw [World.setCells]; exact below_sets vs (o + 1) (h.setCell (p := ⟨g, o, Option.none⟩) hg v) hg
theorem size_sets (g : Nat) : ∀ (vs : List Value) (o : Nat) (w : World), (w.setCells g o vs).heap.size = w.heap.size
  | [], _, _ => rfl
  | v :: vs, o, w => by rw [World.setCells, size_sets g vs]; simp
theorem EIn_lower {w : World} {lo lo' : Nat} (hlo : lo' ≤ lo) : ∀ (F : EF) (b o : Nat), EIn w lo F b o → EIn w lo' F b o
  | .nil, _, _, _ => trivial
  | .node _ _ h l r, b, o, hc => by
    obtain ⟨⟨h0, h1, h2, v, h3, h4⟩, h5⟩ := EIn_node.1 hc
    exact EIn_node.2 ⟨⟨h0, h1, h2, v, h3, h4.lower hlo⟩, EIn_lower hlo r b _ h5⟩
theorem XC.lower {w : World} {lo lo' : Nat} {x : X} {b o : Nat} (hlo : lo' ≤ lo) (h : XC w lo x b o) : XC w lo' x b o := by
  obtain ⟨h0, h1, h2, v, h3, h4⟩ := h
  exact ⟨h0, h1, h2, v, h3, h4.lower hlo⟩
theorem SIn_lower {w : World} {lo lo' : Nat} (hlo : lo' ≤ lo) : ∀ (F : SF) (b o : Nat), SIn w lo F b o → SIn w lo' F b o
  | .nil, _, _, _ => trivial
  | .node _ _ h l r, b, o, hc => by
    obtain ⟨⟨h0, h1, h2, h3, h4, h5, v, h6, h7⟩, h8⟩ := SIn_node.1 hc
    exact SIn_node.2 ⟨⟨h0, h1, h2.lower hlo, h3.lower hlo, h4.lower hlo, h5.lower hlo, v, h6, h7.lower hlo⟩, SIn_lower hlo r b _ h8⟩
theorem EV.laid {w : World} {lo g : Nat} {F : EF} {xs : List Value} (h : ERow w lo F xs) (hr : w.rangeAt g 0 xs) (c : Nat) (hlo : g ≤ lo) : EV w g F (.slice (some ⟨g, 0, Option.none⟩) (elen F) c) :=
  ⟨g, 0, _, c, rfl, .inl rfl, Nat.le_refl _, EIn_lower hlo _ _ _ (ERow.laid 0 h (by simpa [World.rangeAt] using hr))⟩
theorem SV.laid {w : World} {lo g : Nat} {F : SF} {xs : List Value} (h : SRow w lo F xs) (hr : w.rangeAt g 0 xs) (c : Nat) (hlo : g ≤ lo) : SV w g F (.slice (some ⟨g, 0, Option.none⟩) (slen F) c) :=
  ⟨g, 0, _, c, rfl, .inl rfl, Nat.le_refl _, SIn_lower hlo _ _ _ (SRow.laid 0 h (by simpa [World.rangeAt] using hr))⟩
theorem EV.isOne {w : World} {lo : Nat} {F : EF} {v : Value} (h : EV w lo F v) : v.oneCell' = true := by obtain ⟨a, c, rfl⟩ := h.shape; rfl
theorem SV.isOne {w : World} {lo : Nat} {F : SF} {v : Value} (h : SV w lo F v) : v.oneCell' = true := by obtain ⟨a, c, rfl⟩ := h.shape; rfl
theorem own_block {w : World} {B sz n g cap : Nat} {e : TypeId} {xs : List Value} (h : w.ownsRow B e sz (.slice (some ⟨g, 0, Option.none⟩) n cap) n xs) : ∃ cur, w.heap[g]? = some (.cells cur e (0, 0)) ∧ B ≤ g ∧ cur.size = cap * sz ∧ n ≤ cap := by
  rcases h.2 with ⟨h0, _⟩ | ⟨g', cap', cur, h1, h2, h3, h4, h5, h6, h7⟩
  · cases h0
  · injection h1 with e1 e2 e3
    injection e1 with e1
    injection e1 with e1
    subst e1; subst e3
    exact ⟨cur, h3, h2, h6, h4⟩
theorem heap3 (w : World) (a b c : Obj) : (((w.alloc a).alloc b).alloc c).heap[w.heap.size]? = some a ∧ (((w.alloc a).alloc b).alloc c).heap[w.heap.size + 1]? = some b ∧ (((w.alloc a).alloc b).alloc c).heap[w.heap.size + 2]? = some c := by
  have e : ∀ (v : World) (o : Obj), (v.alloc o).heap = v.heap.push o := fun _ _ => rfl
  have last : ∀ (v : World) (o : Obj), (v.alloc o).heap[v.heap.size]? = some o := fun v o => by rw [e]; simp
  refine ⟨?_, ?_, ?_⟩
  · rw [Below.heap_alloc _ _ _ (by simp; omega), Below.heap_alloc _ _ _ (by simp), e]; simp
  · rw [Below.heap_alloc _ _ _ (by simp)]
    exact (congrArg (fun n => ((w.alloc a).alloc b).heap[n]?) (show w.heap.size + 1 = (w.alloc a).heap.size by simp)).trans (last _ _)
  · exact (congrArg (fun n => (((w.alloc a).alloc b).alloc c).heap[n]?) (show w.heap.size + 2 = ((w.alloc a).alloc b).heap.size by simp)).trans (last _ _)
end Go.Proofs.YtjdpddcnogdekaaGreat
