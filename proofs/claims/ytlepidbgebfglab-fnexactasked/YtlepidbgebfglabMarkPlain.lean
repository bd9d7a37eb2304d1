/-
  Trees in cells that are not frozen: a copy of the call's own, which may be written over.
-/
import Derived.Test.YtlepidbgebfglabAstToS
namespace Go.Proofs.Ytlepidbgebfglab
open Go.RowKit Go.Lib
set_option linter.unusedSimpArgs false
set_option linter.unusedVariables false

/-- What stands in a cell that may be written. -/
def rdF (w : World) (a : Addr) : Option Value := if w.frozen? a = true then Option.none else w.cell? a
theorem rdF_iff {w : World} {a : Addr} {v : Value} : rdF w a = some v ↔ w.frozen? a = false ∧ w.cell? a = some v := by
  unfold rdF
  cases h : w.frozen? a <;> simp
theorem keepsF {w w' : World} (hb : Below w.heap.size w w') {a : Addr} {v : Value} (h : rdF w a = some v) : rdF w' a = some v := by
  obtain ⟨h1, h2⟩ := rdF_iff.1 h
  refine rdF_iff.2 ⟨?_, keeps hb h2⟩
  have := hb.block a.block (lt_of_cellA h2)
  unfold World.frozen? at h1 ⊢
  simp only [this]; exact h1
def KeepsF (lo : Nat) (w w' : World) : Prop := ∀ (a : Addr) v, lo ≤ a.block → rdF w a = some v → rdF w' a = some v
theorem KeepsF.refl (lo : Nat) (w : World) : KeepsF lo w w := fun _ _ _ h => h
theorem KeepsF.trans {lo : Nat} {w w1 w2 : World} (h : KeepsF lo w w1) (g : KeepsF lo w1 w2) : KeepsF lo w w2 := fun a v hl hc => g a v hl (h a v hl hc)
theorem KeepsF.later {lo : Nat} {w w' : World} (hb : Below w.heap.size w w') : KeepsF lo w w' := fun _ _ _ hc => keepsF hb hc
theorem KeepsF.set {lo : Nat} (w : World) (p : Addr) (hg : p.block < lo) (u : Value) : KeepsF lo w (w.setCell p u) := fun a v hl hc => by
  obtain ⟨h1, h2⟩ := rdF_iff.1 hc
  exact rdF_iff.2 ⟨by simpa using h1, by rw [World.cell?_setCell_other _ _ _ _ (fun e => by subst e; omega)]; exact h2⟩
theorem KeepsF.sets {lo g : Nat} (hg : g < lo) : ∀ (vs : List Value) (w : World) (o : Nat), KeepsF lo w (w.setCells g o vs)
  | [], w, o => KeepsF.refl _ _
  | v :: vs, w, o => by rw [World.setCells]; exact (KeepsF.set w ⟨g, o, Option.none⟩ hg v).trans (KeepsF.sets hg vs _ _)
def rgF (w : World) (b o : Nat) (cs : List Value) : Prop := ∀ j v, cs[j]? = some v → rdF w ⟨b, o + j, Option.none⟩ = some v
theorem rgF_of {w : World} {b o n : Nat} {cs : List Value} (h : w.rangeAt b o cs) (t : w.there b o n) (hn : cs.length ≤ n) : rgF w b o cs := fun j v hj =>
  rdF_iff.2 ⟨(t j (Nat.lt_of_lt_of_le (List.getElem?_eq_some_iff.1 hj).1 hn)).2, h j v hj⟩
/-- A row of expressions lies at b, o; all that stands under them lies at lo or above. -/
def EInF (w : World) (lo : Nat) : EF → Nat → Nat → Prop
  | .nil, _, _ => True
  | .node _ _ h l r, b, o =>
    (rdF w ⟨b, o, Option.none⟩ = some (.int .i64 h.k) ∧ rdF w ⟨b, o + 1, Option.none⟩ = some (.int .i64 h.n) ∧ rdF w ⟨b, o + 2, Option.none⟩ = some (.string h.s) ∧
      ∃ v, rdF w ⟨b, o + 3, Option.none⟩ = some v ∧ ∃ b' o' a' c', v = .slice a' (elen l) c' ∧ (a' = some ⟨b', o', Option.none⟩ ∨ l = .nil) ∧ lo ≤ b' ∧ EInF w lo l b' o') ∧ EInF w lo r b (o + 4)
/-- A slice that holds a row of expressions. -/
def EVF (w : World) (lo : Nat) (F : EF) (v : Value) : Prop := ∃ b o a c, v = .slice a (elen F) c ∧ (a = some ⟨b, o, Option.none⟩ ∨ F = .nil) ∧ lo ≤ b ∧ EInF w lo F b o
/-- An expression in four cells. -/
def XCF (w : World) (lo : Nat) (x : X) (b o : Nat) : Prop :=
  rdF w ⟨b, o, Option.none⟩ = some (.int .i64 x.h.k) ∧ rdF w ⟨b, o + 1, Option.none⟩ = some (.int .i64 x.h.n) ∧ rdF w ⟨b, o + 2, Option.none⟩ = some (.string x.h.s) ∧
    ∃ v, rdF w ⟨b, o + 3, Option.none⟩ = some v ∧ EVF w lo x.l v
theorem EInF_node {w : World} {lo b o p q : Nat} {h : EH} {l r : EF} : EInF w lo (.node p q h l r) b o ↔ XCF w lo ⟨h, l⟩ b o ∧ EInF w lo r b (o + 4) := Iff.rfl
theorem EInF_same {w w' : World} {lo lo' : Nat} (hlo : lo' ≤ lo) (hs : ∀ (a : Addr) v, lo ≤ a.block → rdF w a = some v → rdF w' a = some v) : ∀ (F : EF) (b o : Nat), lo ≤ b → EInF w lo F b o → EInF w' lo' F b o
  | .nil, _, _, _, _ => trivial
  | .node _ _ h l r, b, o, hb, ⟨⟨h0, h1, h2, v, h3, b', o', a', c', e1, e2, e3, h4⟩, h5⟩ =>
    ⟨⟨hs _ _ hb h0, hs _ _ hb h1, hs _ _ hb h2, v, hs _ _ hb h3, b', o', a', c', e1, e2, Nat.le_trans hlo e3, EInF_same hlo hs l b' o' e3 h4⟩, EInF_same hlo hs r b _ hb h5⟩
theorem EVF.same {w w' : World} {lo lo' : Nat} {F : EF} {v : Value} (hlo : lo' ≤ lo) (h : EVF w lo F v) (hs : ∀ (a : Addr) v, lo ≤ a.block → rdF w a = some v → rdF w' a = some v) : EVF w' lo' F v := by
  obtain ⟨b, o, a, c, h1, h2, h3, h4⟩ := h
  exact ⟨b, o, a, c, h1, h2, Nat.le_trans hlo h3, EInF_same hlo hs F b o h3 h4⟩
theorem EVF.low {w : World} {lo : Nat} {F : EF} {v : Value} (h : EVF w lo F v) : EVF w 0 F v := h.same (Nat.zero_le _) fun _ _ _ h => h
theorem EVF.lower {w : World} {lo lo' : Nat} {F : EF} {v : Value} (h : EVF w lo F v) (hlo : lo' ≤ lo) : EVF w lo' F v := h.same hlo fun _ _ _ h => h
theorem EVF.later {w w' : World} {lo : Nat} {F : EF} {v : Value} (h : EVF w lo F v) (hb : Below w.heap.size w w') : EVF w' lo F v := h.same (Nat.le_refl _) fun _ _ _ hc => keepsF hb hc
theorem XCF.later {w w' : World} {lo : Nat} {x : X} {b o : Nat} (h : XCF w lo x b o) (hb : Below w.heap.size w w') : XCF w' lo x b o := by
  obtain ⟨h0, h1, h2, v, h3, h4⟩ := h
  exact ⟨keepsF hb h0, keepsF hb h1, keepsF hb h2, v, keepsF hb h3, h4.later hb⟩
theorem EInF_later {w w' : World} {lo : Nat} (hb : Below w.heap.size w w') : ∀ (F : EF) (b o : Nat), EInF w lo F b o → EInF w' lo F b o
  | .nil, _, _, _ => trivial
  | .node _ _ _ _ r, b, o, ⟨h1, h2⟩ => ⟨XCF.later (x := ⟨_, _⟩) h1 hb, EInF_later hb r b _ h2⟩
theorem EVF.shape {w : World} {lo : Nat} {F : EF} {v : Value} (h : EVF w lo F v) : ∃ a c, v = .slice a (elen F) c := by
  obtain ⟨b, o, a, c, h1, _⟩ := h; exact ⟨a, c, h1⟩
theorem EVF.nil (w : World) (lo : Nat) (a : Option Addr) (c : Nat) : EVF w lo .nil (.slice a 0 c) := ⟨lo, 0, a, c, rfl, .inr rfl, Nat.le_refl _, trivial⟩

/-- A row of statements lies at b, o. -/
def SInF (w : World) (lo : Nat) : SF → Nat → Nat → Prop
  | .nil, _, _ => True
  | .node _ _ h l r, b, o =>
    (rdF w ⟨b, o, Option.none⟩ = some (.int .i64 h.k) ∧ rdF w ⟨b, o + 1, Option.none⟩ = some (.string h.s) ∧ XCF w lo h.x1 b (o + 2) ∧ XCF w lo h.x2 b (o + 6) ∧ XCF w lo h.x3 b (o + 10) ∧ XCF w lo h.x4 b (o + 14) ∧
      ∃ v, rdF w ⟨b, o + 18, Option.none⟩ = some v ∧ ∃ b' o' a' c', v = .slice a' (slen l) c' ∧ (a' = some ⟨b', o', Option.none⟩ ∨ l = .nil) ∧ lo ≤ b' ∧ SInF w lo l b' o') ∧ SInF w lo r b (o + 19)
def SVF (w : World) (lo : Nat) (F : SF) (v : Value) : Prop := ∃ b o a c, v = .slice a (slen F) c ∧ (a = some ⟨b, o, Option.none⟩ ∨ F = .nil) ∧ lo ≤ b ∧ SInF w lo F b o
/-- A statement in nineteen cells. -/
def SCF (w : World) (lo : Nat) (h : SH) (l : SF) (b o : Nat) : Prop :=
  rdF w ⟨b, o, Option.none⟩ = some (.int .i64 h.k) ∧ rdF w ⟨b, o + 1, Option.none⟩ = some (.string h.s) ∧ XCF w lo h.x1 b (o + 2) ∧ XCF w lo h.x2 b (o + 6) ∧ XCF w lo h.x3 b (o + 10) ∧ XCF w lo h.x4 b (o + 14) ∧
      ∃ v, rdF w ⟨b, o + 18, Option.none⟩ = some v ∧ SVF w lo l v
theorem SInF_node {w : World} {lo b o p q : Nat} {h : SH} {l r : SF} : SInF w lo (.node p q h l r) b o ↔ SCF w lo h l b o ∧ SInF w lo r b (o + 19) := Iff.rfl
theorem XCF.same {w w' : World} {lo lo' : Nat} {x : X} {b o : Nat} (hlo : lo' ≤ lo) (hb : lo ≤ b) (h : XCF w lo x b o) (hs : ∀ (a : Addr) v, lo ≤ a.block → rdF w a = some v → rdF w' a = some v) : XCF w' lo' x b o := by
  obtain ⟨h0, h1, h2, v, h3, h4⟩ := h
  exact ⟨hs _ _ hb h0, hs _ _ hb h1, hs _ _ hb h2, v, hs _ _ hb h3, h4.same hlo hs⟩
theorem SInF_same {w w' : World} {lo lo' : Nat} (hlo : lo' ≤ lo) (hs : ∀ (a : Addr) v, lo ≤ a.block → rdF w a = some v → rdF w' a = some v) : ∀ (F : SF) (b o : Nat), lo ≤ b → SInF w lo F b o → SInF w' lo' F b o
  | .nil, _, _, _, _ => trivial
  | .node _ _ h l r, b, o, hb, ⟨⟨h0, h1, h2, h3, h4, h5, v, h6, b', o', a', c', e1, e2, e3, h7⟩, h8⟩ =>
    ⟨⟨hs _ _ hb h0, hs _ _ hb h1, h2.same hlo hb hs, h3.same hlo hb hs, h4.same hlo hb hs, h5.same hlo hb hs, v, hs _ _ hb h6, b', o', a', c', e1, e2, Nat.le_trans hlo e3, SInF_same hlo hs l b' o' e3 h7⟩, SInF_same hlo hs r b _ hb h8⟩
theorem SVF.same {w w' : World} {lo lo' : Nat} {F : SF} {v : Value} (hlo : lo' ≤ lo) (h : SVF w lo F v) (hs : ∀ (a : Addr) v, lo ≤ a.block → rdF w a = some v → rdF w' a = some v) : SVF w' lo' F v := by
  obtain ⟨b, o, a, c, h1, h2, h3, h4⟩ := h
  exact ⟨b, o, a, c, h1, h2, Nat.le_trans hlo h3, SInF_same hlo hs F b o h3 h4⟩
theorem SVF.low {w : World} {lo : Nat} {F : SF} {v : Value} (h : SVF w lo F v) : SVF w 0 F v := h.same (Nat.zero_le _) fun _ _ _ h => h
theorem SVF.lower {w : World} {lo lo' : Nat} {F : SF} {v : Value} (h : SVF w lo F v) (hlo : lo' ≤ lo) : SVF w lo' F v := h.same hlo fun _ _ _ h => h
theorem SVF.later {w w' : World} {lo : Nat} {F : SF} {v : Value} (h : SVF w lo F v) (hb : Below w.heap.size w w') : SVF w' lo F v := h.same (Nat.le_refl _) fun _ _ _ hc => keepsF hb hc
theorem SCF.later {w w' : World} {lo : Nat} {h : SH} {l : SF} {b o : Nat} (hc : SCF w lo h l b o) (hb : Below w.heap.size w w') : SCF w' lo h l b o := by
  obtain ⟨h0, h1, h2, h3, h4, h5, v, h6, h7⟩ := hc
  exact ⟨keepsF hb h0, keepsF hb h1, h2.later hb, h3.later hb, h4.later hb, h5.later hb, v, keepsF hb h6, h7.later hb⟩
theorem SInF_later {w w' : World} {lo : Nat} (hb : Below w.heap.size w w') : ∀ (F : SF) (b o : Nat), SInF w lo F b o → SInF w' lo F b o
  | .nil, _, _, _ => trivial
  | .node _ _ h l r, b, o, hc => ⟨SCF.later (SInF_node.1 hc).1 hb, SInF_later hb r b _ (SInF_node.1 hc).2⟩
theorem SVF.shape {w : World} {lo : Nat} {F : SF} {v : Value} (h : SVF w lo F v) : ∃ a c, v = .slice a (slen F) c := by
  obtain ⟨b, o, a, c, h1, _⟩ := h; exact ⟨a, c, h1⟩
theorem SVF.nil (w : World) (lo : Nat) (a : Option Addr) (c : Nat) : SVF w lo .nil (.slice a 0 c) := ⟨lo, 0, a, c, rfl, .inr rfl, Nat.le_refl _, trivial⟩

/-- The cells that hold a row of expressions. -/
def ERowF (w : World) (lo : Nat) : EF → List Value → Prop
  | .nil, xs => xs = []
  | .node _ _ h l r, xs => ∃ v ys, xs = .int .i64 h.k :: .int .i64 h.n :: .string h.s :: v :: ys ∧ EVF w lo l v ∧ ERowF w lo r ys
theorem ERowF.length {w : World} {lo : Nat} : ∀ {F : EF} {xs : List Value}, ERowF w lo F xs → xs.length = elen F * 4
  | .nil, xs, h => by rw [h]; rfl
  | .node _ _ _ _ r, xs, ⟨v, ys, e, _, h⟩ => by have := ERowF.length h; subst e; simp only [List.length_cons, elen]; omega
theorem ERowF.app {w : World} {lo : Nat} : ∀ {P R : EF} {xs ys : List Value}, ERowF w lo P xs → ERowF w lo R ys → ERowF w lo (eapp P R) (xs ++ ys)
  | .nil, _, _, _, h, g => by rw [show _ = [] from h]; exact g
  | .node _ _ _ _ r, _, _, _, ⟨v, zs, e, hv, h⟩, g => ⟨v, _, by rw [e]; rfl, hv, ERowF.app h g⟩
theorem ERowF.one {w : World} {lo p q : Nat} {h : EH} {l : EF} {v : Value} (hv : EVF w lo l v) : ERowF w lo (.node p q h l .nil) [.int .i64 h.k, .int .i64 h.n, .string h.s, v] := ⟨v, [], rfl, hv, rfl⟩
theorem ERowF.same {w w' : World} {lo lo' : Nat} (hlo : lo' ≤ lo) (hs : ∀ (a : Addr) v, lo ≤ a.block → rdF w a = some v → rdF w' a = some v) : ∀ {F : EF} {xs : List Value}, ERowF w lo F xs → ERowF w' lo' F xs
  | .nil, _, h => h
  | .node _ _ _ _ r, _, ⟨v, zs, e, hv, h⟩ => ⟨v, zs, e, hv.same hlo hs, ERowF.same hlo hs h⟩
theorem ERowF.laid {w : World} {lo g : Nat} : ∀ {F : EF} {xs : List Value} (o : Nat), ERowF w lo F xs → (∀ j u, xs[j]? = some u → rdF w ⟨g, o + j, Option.none⟩ = some u) → EInF w lo F g o
  | .nil, _, _, _, _ => trivial
  | .node _ _ _ _ r, _, o, ⟨v, zs, e, hv, h⟩, hc => by
    subst e
    refine EInF_node.2 ⟨⟨hc 0 _ rfl, hc 1 _ rfl, hc 2 _ rfl, v, hc 3 _ rfl, hv⟩, ERowF.laid (o + 4) h fun j u hj => ?_⟩
    have := hc (j + 4) u (by simpa using hj)
    rwa [show o + (j + 4) = o + 4 + j by omega] at this
/-- The cells that hold a row of statements. -/
def SRowF (w : World) (lo : Nat) : SF → List Value → Prop
  | .nil, xs => xs = []
  | .node _ _ h l r, xs => ∃ v1 v2 v3 v4 v ys, xs = scells h v1 v2 v3 v4 v ++ ys ∧ EVF w lo h.x1.l v1 ∧ EVF w lo h.x2.l v2 ∧ EVF w lo h.x3.l v3 ∧ EVF w lo h.x4.l v4 ∧ SVF w lo l v ∧ SRowF w lo r ys
theorem SRowF.length {w : World} {lo : Nat} : ∀ {F : SF} {xs : List Value}, SRowF w lo F xs → xs.length = slen F * 19
  | .nil, xs, h => by rw [h]; rfl
  | .node _ _ _ _ r, xs, ⟨_, _, _, _, v, ys, e, _, _, _, _, _, h⟩ => by have := SRowF.length h; subst e; simp only [scells, xcells, List.length_cons, List.length_append, List.length_nil, slen]; omega
theorem SRowF.app {w : World} {lo : Nat} : ∀ {P R : SF} {xs ys : List Value}, SRowF w lo P xs → SRowF w lo R ys → SRowF w lo (sapp P R) (xs ++ ys)
  | .nil, _, _, _, h, g => by rw [show _ = [] from h]; exact g
  | .node _ _ _ _ r, _, _, _, ⟨v1, v2, v3, v4, v, zs, e, h1, h2, h3, h4, hv, h⟩, g => ⟨v1, v2, v3, v4, v, _, by rw [e, List.append_assoc], h1, h2, h3, h4, hv, SRowF.app h g⟩
theorem SRowF.one {w : World} {lo p q : Nat} {h : SH} {l : SF} {v1 v2 v3 v4 v : Value} (h1 : EVF w lo h.x1.l v1) (h2 : EVF w lo h.x2.l v2) (h3 : EVF w lo h.x3.l v3) (h4 : EVF w lo h.x4.l v4) (hv : SVF w lo l v) : SRowF w lo (.node p q h l .nil) (scells h v1 v2 v3 v4 v) :=
  ⟨v1, v2, v3, v4, v, [], by rw [List.append_nil], h1, h2, h3, h4, hv, rfl⟩
theorem SRowF.same {w w' : World} {lo lo' : Nat} (hlo : lo' ≤ lo) (hs : ∀ (a : Addr) v, lo ≤ a.block → rdF w a = some v → rdF w' a = some v) : ∀ {F : SF} {xs : List Value}, SRowF w lo F xs → SRowF w' lo' F xs
  | .nil, _, h => h
  | .node _ _ _ _ r, _, ⟨v1, v2, v3, v4, v, zs, e, h1, h2, h3, h4, hv, h⟩ => ⟨v1, v2, v3, v4, v, zs, e, h1.same hlo hs, h2.same hlo hs, h3.same hlo hs, h4.same hlo hs, hv.same hlo hs, SRowF.same hlo hs h⟩
theorem SRowF.laid {w : World} {lo g : Nat} : ∀ {F : SF} {xs : List Value} (o : Nat), SRowF w lo F xs → (∀ j u, xs[j]? = some u → rdF w ⟨g, o + j, Option.none⟩ = some u) → SInF w lo F g o
  | .nil, _, _, _, _ => trivial
  | .node _ _ _ _ r, _, o, ⟨v1, v2, v3, v4, v, zs, e, h1, h2, h3, h4, hv, h⟩, hc => by
    subst e
    have hx : ∀ (x : X) (u : Value) (i : Nat), EVF w lo x.l u → rdF w ⟨g, o + i, Option.none⟩ = some (.int .i64 x.h.k) → rdF w ⟨g, o + (i + 1), Option.none⟩ = some (.int .i64 x.h.n) → rdF w ⟨g, o + (i + 2), Option.none⟩ = some (.string x.h.s) → rdF w ⟨g, o + (i + 3), Option.none⟩ = some u → XCF w lo x g (o + i) :=
      fun x u i he a0 a1 a2 a3 => ⟨a0, by rw [Nat.add_assoc]; exact a1, by rw [Nat.add_assoc]; exact a2, u, by rw [Nat.add_assoc]; exact a3, he⟩
    refine SInF_node.2 ⟨⟨hc 0 _ rfl, hc 1 _ rfl, hx _ v1 2 h1 (hc 2 _ rfl) (hc 3 _ rfl) (hc 4 _ rfl) (hc 5 _ rfl), hx _ v2 6 h2 (hc 6 _ rfl) (hc 7 _ rfl) (hc 8 _ rfl) (hc 9 _ rfl), hx _ v3 10 h3 (hc 10 _ rfl) (hc 11 _ rfl) (hc 12 _ rfl) (hc 13 _ rfl), hx _ v4 14 h4 (hc 14 _ rfl) (hc 15 _ rfl) (hc 16 _ rfl) (hc 17 _ rfl), v, hc 18 _ rfl, hv⟩, SRowF.laid (o + 19) h fun j u hj => ?_⟩
    have := hc (j + 19) u (by simpa [scells, xcells] using hj)
    rwa [show o + (j + 19) = o + 19 + j by omega] at this
theorem EInF_lower {w : World} {lo lo' : Nat} (hlo : lo' ≤ lo) : ∀ (F : EF) (b o : Nat), EInF w lo F b o → EInF w lo' F b o
  | .nil, _, _, _ => trivial
  | .node _ _ h l r, b, o, hc => by
    obtain ⟨⟨h0, h1, h2, v, h3, h4⟩, h5⟩ := EInF_node.1 hc
    exact EInF_node.2 ⟨⟨h0, h1, h2, v, h3, h4.lower hlo⟩, EInF_lower hlo r b _ h5⟩
theorem XCF.lower {w : World} {lo lo' : Nat} {x : X} {b o : Nat} (hlo : lo' ≤ lo) (h : XCF w lo x b o) : XCF w lo' x b o := by
  obtain ⟨h0, h1, h2, v, h3, h4⟩ := h
  exact ⟨h0, h1, h2, v, h3, h4.lower hlo⟩
theorem SInF_lower {w : World} {lo lo' : Nat} (hlo : lo' ≤ lo) : ∀ (F : SF) (b o : Nat), SInF w lo F b o → SInF w lo' F b o
  | .nil, _, _, _ => trivial
  | .node _ _ h l r, b, o, hc => by
    obtain ⟨⟨h0, h1, h2, h3, h4, h5, v, h6, h7⟩, h8⟩ := SInF_node.1 hc
    exact SInF_node.2 ⟨⟨h0, h1, h2.lower hlo, h3.lower hlo, h4.lower hlo, h5.lower hlo, v, h6, h7.lower hlo⟩, SInF_lower hlo r b _ h8⟩
theorem EVF.laid {w : World} {lo g : Nat} {F : EF} {xs : List Value} (h : ERowF w lo F xs) (hr : rgF w g 0 xs) (c : Nat) (hlo : g ≤ lo) : EVF w g F (.slice (some ⟨g, 0, Option.none⟩) (elen F) c) :=
  ⟨g, 0, _, c, rfl, .inl rfl, Nat.le_refl _, EInF_lower hlo _ _ _ (ERowF.laid 0 h (by simpa [rgF] using hr))⟩
theorem SVF.laid {w : World} {lo g : Nat} {F : SF} {xs : List Value} (h : SRowF w lo F xs) (hr : rgF w g 0 xs) (c : Nat) (hlo : g ≤ lo) : SVF w g F (.slice (some ⟨g, 0, Option.none⟩) (slen F) c) :=
  ⟨g, 0, _, c, rfl, .inl rfl, Nat.le_refl _, SInF_lower hlo _ _ _ (SRowF.laid 0 h (by simpa [rgF] using hr))⟩
theorem EVF.isOne {w : World} {lo : Nat} {F : EF} {v : Value} (h : EVF w lo F v) : v.oneCell' = true := by obtain ⟨a, c, rfl⟩ := h.shape; rfl
theorem SVF.isOne {w : World} {lo : Nat} {F : SF} {v : Value} (h : SVF w lo F v) : v.oneCell' = true := by obtain ⟨a, c, rfl⟩ := h.shape; rfl
structure HVF (w : World) (lo : Nat) (h : SH) (v1 v2 v3 v4 : Value) : Prop where
  e1 : EVF w lo h.x1.l v1
  e2 : EVF w lo h.x2.l v2
  e3 : EVF w lo h.x3.l v3
  e4 : EVF w lo h.x4.l v4
theorem HVF.later {w w' : World} {lo : Nat} {h : SH} {v1 v2 v3 v4 : Value} (hv : HVF w lo h v1 v2 v3 v4) (hb : Below w.heap.size w w') : HVF w' lo h v1 v2 v3 v4 := ⟨hv.e1.later hb, hv.e2.later hb, hv.e3.later hb, hv.e4.later hb⟩
theorem HVF.lower {w : World} {lo lo' : Nat} {h : SH} {v1 v2 v3 v4 : Value} (hv : HVF w lo h v1 v2 v3 v4) (hlo : lo' ≤ lo) : HVF w lo' h v1 v2 v3 v4 := ⟨hv.e1.lower hlo, hv.e2.lower hlo, hv.e3.lower hlo, hv.e4.lower hlo⟩
theorem HVF.same {w w' : World} {lo lo' : Nat} {h : SH} {v1 v2 v3 v4 : Value} (hv : HVF w lo h v1 v2 v3 v4) (hlo : lo' ≤ lo) (hs : KeepsF lo w w') : HVF w' lo' h v1 v2 v3 v4 := ⟨hv.e1.same hlo hs, hv.e2.same hlo hs, hv.e3.same hlo hs, hv.e4.same hlo hs⟩
theorem EInF.plain {w : World} {lo : Nat} : ∀ (F : EF) (b o : Nat), EInF w lo F b o → EIn w lo F b o
  | .nil, _, _, _ => trivial
  | .node _ _ h l r, b, o, ⟨⟨h0, h1, h2, v, h3, b', o', a', c', e1, e2, e3, h4⟩, h5⟩ => ⟨⟨(rdF_iff.1 h0).2, (rdF_iff.1 h1).2, (rdF_iff.1 h2).2, v, (rdF_iff.1 h3).2, b', o', a', c', e1, e2, e3, EInF.plain l b' o' h4⟩, EInF.plain r b _ h5⟩
theorem EVF.plain {w : World} {lo : Nat} {F : EF} {v : Value} (h : EVF w lo F v) : EV w lo F v := by
  obtain ⟨b, o, a, c, h1, h2, h3, h4⟩ := h
  exact ⟨b, o, a, c, h1, h2, h3, EInF.plain F b o h4⟩
theorem XCF.plain {w : World} {lo : Nat} {x : X} {b o : Nat} (h : XCF w lo x b o) : XC w lo x b o := by
  obtain ⟨h0, h1, h2, v, h3, h4⟩ := h
  exact ⟨(rdF_iff.1 h0).2, (rdF_iff.1 h1).2, (rdF_iff.1 h2).2, v, (rdF_iff.1 h3).2, h4.plain⟩
theorem SInF.plain {w : World} {lo : Nat} : ∀ (F : SF) (b o : Nat), SInF w lo F b o → SIn w lo F b o
  | .nil, _, _, _ => trivial
  | .node _ _ h l r, b, o, ⟨⟨h0, h1, h2, h3, h4, h5, v, h6, b', o', a', c', e1, e2, e3, h7⟩, h8⟩ => ⟨⟨(rdF_iff.1 h0).2, (rdF_iff.1 h1).2, h2.plain, h3.plain, h4.plain, h5.plain, v, (rdF_iff.1 h6).2, b', o', a', c', e1, e2, e3, SInF.plain l b' o' h7⟩, SInF.plain r b _ h8⟩
theorem SVF.plain {w : World} {lo : Nat} {F : SF} {v : Value} (h : SVF w lo F v) : SV w lo F v := by
  obtain ⟨b, o, a, c, h1, h2, h3, h4⟩ := h
  exact ⟨b, o, a, c, h1, h2, h3, SInF.plain F b o h4⟩
end Go.Proofs.Ytlepidbgebfglab
