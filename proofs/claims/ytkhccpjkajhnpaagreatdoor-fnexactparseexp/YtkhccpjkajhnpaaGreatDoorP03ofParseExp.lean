/-
  Texts in one: MarkPlain, MarkTo, MarkTree, HeldTree, TokPlain.
-/
import Derived.Test.YtkhccpjkajhnpaaGreatDoorP02ofParseExp
import Derived.Test.YtkhccpjkajhnpaaGreatDoorP01ofParseExp
import Derived.Deep.RegionWith
import Derived.Deep.Cut
import Derived.Deep.CutRange
import Derived.Test.YtkhccpjkajhnpaaGreatDoorP00ofParseExp
import Derived.Laws.RangeAny
import Derived.Stop.FmtRuneSmall
/-
  Trees in cells that are not frozen: a copy of the call's own, which may be written over.
-/
namespace Go.Proofs.YtkhccpjkajhnpaaGreatDoor
open Go.RowKit Go.Lib
set_option linter.unusedSimpArgs false
set_option linter.unusedVariables false

/-- What stands in a cell that may be written. -/
def rdF (w : World) (a : Addr) : Option Value := if w.frozen? a = true then Option.none else w.cell? a
theorem rdF_iff {w : World} {a : Addr} {v : Value} : rdF w a = some v ↔ w.frozen? a = false ∧ w.cell? a = some v := by
  unfold rdF
  cases h : w.frozen? a <;> simp
theorem keepsF {w w' : World} (hb : Below w.heap.size w w') {a : Addr} {v : Value} (h : rdF w a = some v) : rdF w' a = some v := by
  obtain ⟨h1, h2⟩ := rdF_iff.1 h
  refine rdF_iff.2 ⟨?_, keeps hb h2⟩
  have := hb.block a.block (lt_of_cellA h2)
  unfold World.frozen? at h1 ⊢
  simp only [this]; exact h1
def KeepsF (lo : Nat) (w w' : World) : Prop := ∀ (a : Addr) v, lo ≤ a.block → rdF w a = some v → rdF w' a = some v
theorem KeepsF.refl (lo : Nat) (w : World) : KeepsF lo w w := fun _ _ _ h => h
theorem KeepsF.trans {lo : Nat} {w w1 w2 : World} (h : KeepsF lo w w1) (g : KeepsF lo w1 w2) : KeepsF lo w w2 := fun a v hl hc => g a v hl (h a v hl hc)
theorem KeepsF.later {lo : Nat} {w w' : World} (hb : Below w.heap.size w w') : KeepsF lo w w' := fun _ _ _ hc => keepsF hb hc
theorem KeepsF.set {lo : Nat} (w : World) (p : Addr) (hg : p.block < lo) (u : Value) : KeepsF lo w (w.setCell p u) := fun a v hl hc => by
  obtain ⟨h1, h2⟩ := rdF_iff.1 hc
  exact rdF_iff.2 ⟨by simpa using h1, by rw [World.cell?_setCell_other _ _ _ _ (fun e => by subst e; omega)]; exact h2⟩
theorem KeepsF.sets {lo g : Nat} (hg : g < lo) : ∀ (vs : List Value) (w : World) (o : Nat), KeepsF lo w (w.setCells g o vs)
  | [], w, o => KeepsF.refl _ _
  | v :: vs, w, o => by rw [World.setCells]; exact (KeepsF.set w ⟨g, o, Option.none⟩ hg v).trans (KeepsF.sets hg vs _ _)
def rgF (w : World) (b o : Nat) (cs : List Value) : Prop := ∀ j v, cs[j]? = some v → rdF w ⟨b, o + j, Option.none⟩ = some v
theorem rgF_of {w : World} {b o n : Nat} {cs : List Value} (h : w.rangeAt b o cs) (t : w.there b o n) (hn : cs.length ≤ n) : rgF w b o cs := fun j v hj =>
  rdF_iff.2 ⟨(t j (Nat.lt_of_lt_of_le (List.getElem?_eq_some_iff.1 hj).1 hn)).2, h j v hj⟩
/-- A row of expressions lies at b, o; all that stands under them lies at lo or above. -/
def EInF (w : World) (lo : Nat) : EF → Nat → Nat → Prop
  | .nil, _, _ => True
  | .node _ _ h l r, b, o =>
    (rdF w ⟨b, o, Option.none⟩ = some (.int .i64 h.k) ∧ rdF w ⟨b, o + 1, Option.none⟩ = some (.int .i64 h.n) ∧ rdF w ⟨b, o + 2, Option.none⟩ = some (.string h.s) ∧
      ∃ v, rdF w ⟨b, o + 3, Option.none⟩ = some v ∧ ∃ b' o' a' c', v = .slice a' (elen l) c' ∧ (a' = some ⟨b', o', Option.none⟩ ∨ l = .nil) ∧ lo ≤ b' ∧ EInF w lo l b' o') ∧ EInF w lo r b (o + 4)
/-- A slice that holds a row of expressions. -/
def EVF (w : World) (lo : Nat) (F : EF) (v : Value) : Prop := ∃ b o a c, v = .slice a (elen F) c ∧ (a = some ⟨b, o, Option.none⟩ ∨ F = .nil) ∧ lo ≤ b ∧ EInF w lo F b o
/-- An expression in four cells. -/
def XCF (w : World) (lo : Nat) (x : X) (b o : Nat) : Prop :=
  rdF w ⟨b, o, Option.none⟩ = some (.int .i64 x.h.k) ∧ rdF w ⟨b, o + 1, Option.none⟩ = some (.int .i64 x.h.n) ∧ rdF w ⟨b, o + 2, Option.none⟩ = some (.string x.h.s) ∧
    ∃ v, rdF w ⟨b, o + 3, Option.none⟩ = some v ∧ EVF w lo x.l v
theorem EInF_node {w : World} {lo b o p q : Nat} {h : EH} {l r : EF} : EInF w lo (.node p q h l r) b o ↔ XCF w lo ⟨h, l⟩ b o ∧ EInF w lo r b (o + 4) := Iff.rfl
theorem EInF_same {w w' : World} {lo lo' : Nat} (hlo : lo' ≤ lo) (hs : ∀ (a : Addr) v, lo ≤ a.block → rdF w a = some v → rdF w' a = some v) : ∀ (F : EF) (b o : Nat), lo ≤ b → EInF w lo F b o → EInF w' lo' F b o
  | .nil, _, _, _, _ => trivial
  | .node _ _ h l r, b, o, hb, ⟨⟨h0, h1, h2, v, h3, b', o', a', c', e1, e2, e3, h4⟩, h5⟩ =>
    ⟨⟨hs _ _ hb h0, hs _ _ hb h1, hs _ _ hb h2, v, hs _ _ hb h3, b', o', a', c', e1, e2, Nat.le_trans hlo e3, EInF_same hlo hs l b' o' e3 h4⟩, EInF_same hlo hs r b _ hb h5⟩
theorem EVF.same {w w' : World} {lo lo' : Nat} {F : EF} {v : Value} (hlo : lo' ≤ lo) (h : EVF w lo F v) (hs : ∀ (a : Addr) v, lo ≤ a.block → rdF w a = some v → rdF w' a = some v) : EVF w' lo' F v := by
  obtain ⟨b, o, a, c, h1, h2, h3, h4⟩ := h
  exact ⟨b, o, a, c, h1, h2, Nat.le_trans hlo h3, EInF_same hlo hs F b o h3 h4⟩
theorem EVF.low {w : World} {lo : Nat} {F : EF} {v : Value} (h : EVF w lo F v) : EVF w 0 F v := h.same (Nat.zero_le _) fun _ _ _ h => h
theorem EVF.lower {w : World} {lo lo' : Nat} {F : EF} {v : Value} (h : EVF w lo F v) (hlo : lo' ≤ lo) : EVF w lo' F v := h.same hlo fun _ _ _ h => h
theorem EVF.later {w w' : World} {lo : Nat} {F : EF} {v : Value} (h : EVF w lo F v) (hb : Below w.heap.size w w') : EVF w' lo F v := h.same (Nat.le_refl _) fun _ _ _ hc => keepsF hb hc
theorem XCF.later {w w' : World} {lo : Nat} {x : X} {b o : Nat} (h : XCF w lo x b o) (hb : Below w.heap.size w w') : XCF w' lo x b o := by
  obtain ⟨h0, h1, h2, v, h3, h4⟩ := h
  exact ⟨keepsF hb h0, keepsF hb h1, keepsF hb h2, v, keepsF hb h3, h4.later hb⟩
theorem EInF_later {w w' : World} {lo : Nat} (hb : Below w.heap.size w w') : ∀ (F : EF) (b o : Nat), EInF w lo F b o → EInF w' lo F b o
  | .nil, _, _, _ => trivial
  | .node _ _ _ _ r, b, o, ⟨h1, h2⟩ => ⟨XCF.later (x := ⟨_, _⟩) h1 hb, EInF_later hb r b _ h2⟩
theorem EVF.shape {w : World} {lo : Nat} {F : EF} {v : Value} (h : EVF w lo F v) : ∃ a c, v = .slice a (elen F) c := by
  obtain ⟨b, o, a, c, h1, _⟩ := h; exact ⟨a, c, h1⟩
theorem EVF.nil (w : World) (lo : Nat) (a : Option Addr) (c : Nat) : EVF w lo .nil (.slice a 0 c) := ⟨lo, 0, a, c, rfl, .inr rfl, Nat.le_refl _, trivial⟩

/-- A row of statements lies at b, o. -/
def SInF (w : World) (lo : Nat) : SF → Nat → Nat → Prop
  | .nil, _, _ => True
  | .node _ _ h l r, b, o =>
    (rdF w ⟨b, o, Option.none⟩ = some (.int .i64 h.k) ∧ rdF w ⟨b, o + 1, Option.none⟩ = some (.string h.s) ∧ XCF w lo h.x1 b (o + 2) ∧ XCF w lo h.x2 b (o + 6) ∧ XCF w lo h.x3 b (o + 10) ∧ XCF w lo h.x4 b (o + 14) ∧
      ∃ v, rdF w ⟨b, o + 18, Option.none⟩ = some v ∧ ∃ b' o' a' c', v = .slice a' (slen l) c' ∧ (a' = some ⟨b', o', Option.none⟩ ∨ l = .nil) ∧ lo ≤ b' ∧ SInF w lo l b' o') ∧ SInF w lo r b (o + 19)
def SVF (w : World) (lo : Nat) (F : SF) (v : Value) : Prop := ∃ b o a c, v = .slice a (slen F) c ∧ (a = some ⟨b, o, Option.none⟩ ∨ F = .nil) ∧ lo ≤ b ∧ SInF w lo F b o
/-- A statement in nineteen cells. -/
def SCF (w : World) (lo : Nat) (h : SH) (l : SF) (b o : Nat) : Prop :=
  rdF w ⟨b, o, Option.none⟩ = some (.int .i64 h.k) ∧ rdF w ⟨b, o + 1, Option.none⟩ = some (.string h.s) ∧ XCF w lo h.x1 b (o + 2) ∧ XCF w lo h.x2 b (o + 6) ∧ XCF w lo h.x3 b (o + 10) ∧ XCF w lo h.x4 b (o + 14) ∧
      ∃ v, rdF w ⟨b, o + 18, Option.none⟩ = some v ∧ SVF w lo l v
theorem SInF_node {w : World} {lo b o p q : Nat} {h : SH} {l r : SF} : SInF w lo (.node p q h l r) b o ↔ SCF w lo h l b o ∧ SInF w lo r b (o + 19) := Iff.rfl
theorem XCF.same {w w' : World} {lo lo' : Nat} {x : X} {b o : Nat} (hlo : lo' ≤ lo) (hb : lo ≤ b) (h : XCF w lo x b o) (hs : ∀ (a : Addr) v, lo ≤ a.block → rdF w a = some v → rdF w' a = some v) : XCF w' lo' x b o := by
  obtain ⟨h0, h1, h2, v, h3, h4⟩ := h
  exact ⟨hs _ _ hb h0, hs _ _ hb h1, hs _ _ hb h2, v, hs _ _ hb h3, h4.same hlo hs⟩
theorem SInF_same {w w' : World} {lo lo' : Nat} (hlo : lo' ≤ lo) (hs : ∀ (a : Addr) v, lo ≤ a.block → rdF w a = some v → rdF w' a = some v) : ∀ (F : SF) (b o : Nat), lo ≤ b → SInF w lo F b o → SInF w' lo' F b o
  | .nil, _, _, _, _ => trivial
  | .node _ _ h l r, b, o, hb, ⟨⟨h0, h1, h2, h3, h4, h5, v, h6, b', o', a', c', e1, e2, e3, h7⟩, h8⟩ =>
    ⟨⟨hs _ _ hb h0, hs _ _ hb h1, h2.same hlo hb hs, h3.same hlo hb hs, h4.same hlo hb hs, h5.same hlo hb hs, v, hs _ _ hb h6, b', o', a', c', e1, e2, Nat.le_trans hlo e3, SInF_same hlo hs l b' o' e3 h7⟩, SInF_same hlo hs r b _ hb h8⟩
theorem SVF.same {w w' : World} {lo lo' : Nat} {F : SF} {v : Value} (hlo : lo' ≤ lo) (h : SVF w lo F v) (hs : ∀ (a : Addr) v, lo ≤ a.block → rdF w a = some v → rdF w' a = some v) : SVF w' lo' F v := by
  obtain ⟨b, o, a, c, h1, h2, h3, h4⟩ := h
  exact ⟨b, o, a, c, h1, h2, Nat.le_trans hlo h3, SInF_same hlo hs F b o h3 h4⟩
theorem SVF.low {w : World} {lo : Nat} {F : SF} {v : Value} (h : SVF w lo F v) : SVF w 0 F v := h.same (Nat.zero_le _) fun _ _ _ h => h
theorem SVF.lower {w : World} {lo lo' : Nat} {F : SF} {v : Value} (h : SVF w lo F v) (hlo : lo' ≤ lo) : SVF w lo' F v := h.same hlo fun _ _ _ h => h
theorem SVF.later {w w' : World} {lo : Nat} {F : SF} {v : Value} (h : SVF w lo F v) (hb : Below w.heap.size w w') : SVF w' lo F v := h.same (Nat.le_refl _) fun _ _ _ hc => keepsF hb hc
theorem SCF.later {w w' : World} {lo : Nat} {h : SH} {l : SF} {b o : Nat} (hc : SCF w lo h l b o) (hb : Below w.heap.size w w') : SCF w' lo h l b o := by
  obtain ⟨h0, h1, h2, h3, h4, h5, v, h6, h7⟩ := hc
  exact ⟨keepsF hb h0, keepsF hb h1, h2.later hb, h3.later hb, h4.later hb, h5.later hb, v, keepsF hb h6, h7.later hb⟩
theorem SInF_later {w w' : World} {lo : Nat} (hb : Below w.heap.size w w') : ∀ (F : SF) (b o : Nat), SInF w lo F b o → SInF w' lo F b o
  | .nil, _, _, _ => trivial
  | .node _ _ h l r, b, o, hc => ⟨SCF.later (SInF_node.1 hc).1 hb, SInF_later hb r b _ (SInF_node.1 hc).2⟩
theorem SVF.shape {w : World} {lo : Nat} {F : SF} {v : Value} (h : SVF w lo F v) : ∃ a c, v = .slice a (slen F) c := by
  obtain ⟨b, o, a, c, h1, _⟩ := h; exact ⟨a, c, h1⟩
theorem SVF.nil (w : World) (lo : Nat) (a : Option Addr) (c : Nat) : SVF w lo .nil (.slice a 0 c) := ⟨lo, 0, a, c, rfl, .inr rfl, Nat.le_refl _, trivial⟩

/-- The cells that hold a row of expressions. -/
def ERowF (w : World) (lo : Nat) : EF → List Value → Prop
  | .nil, xs => xs = []
  | .node _ _ h l r, xs => ∃ v ys, xs = .int .i64 h.k :: .int .i64 h.n :: .string h.s :: v :: ys ∧ EVF w lo l v ∧ ERowF w lo r ys
theorem ERowF.length {w : World} {lo : Nat} : ∀ {F : EF} {xs : List Value}, ERowF w lo F xs → xs.length = elen F * 4
  | .nil, xs, h => by rw [h]; rfl
  | .node _ _ _ _ r, xs, ⟨v, ys, e, _, h⟩ => by have := ERowF.length h; subst e; simp only [List.length_cons, elen]; omega
theorem ERowF.app {w : World} {lo : Nat} : ∀ {P R : EF} {xs ys : List Value}, ERowF w lo P xs → ERowF w lo R ys → ERowF w lo (eapp P R) (xs ++ ys)
  | .nil, _, _, _, h, g => by rw [show _ = [] from h]; exact g
  | .node _ _ _ _ r, _, _, _, ⟨v, zs, e, hv, h⟩, g => ⟨v, _, by rw [e]; rfl, hv, ERowF.app h g⟩
theorem ERowF.one {w : World} {lo p q : Nat} {h : EH} {l : EF} {v : Value} (hv : EVF w lo l v) : ERowF w lo (.node p q h l .nil) [.int .i64 h.k, .int .i64 h.n, .string h.s, v] := ⟨v, [], rfl, hv, rfl⟩
theorem ERowF.same {w w' : World} {lo lo' : Nat} (hlo : lo' ≤ lo) (hs : ∀ (a : Addr) v, lo ≤ a.block → rdF w a = some v → rdF w' a = some v) : ∀ {F : EF} {xs : List Value}, ERowF w lo F xs → ERowF w' lo' F xs
  | .nil, _, h => h
  | .node _ _ _ _ r, _, ⟨v, zs, e, hv, h⟩ => ⟨v, zs, e, hv.same hlo hs, ERowF.same hlo hs h⟩
theorem ERowF.laid {w : World} {lo g : Nat} : ∀ {F : EF} {xs : List Value} (o : Nat), ERowF w lo F xs → (∀ j u, xs[j]? = some u → rdF w ⟨g, o + j, Option.none⟩ = some u) → EInF w lo F g o
  | .nil, _, _, _, _ => trivial
  | .node _ _ _ _ r, _, o, ⟨v, zs, e, hv, h⟩, hc => by
    subst e
    refine EInF_node.2 ⟨⟨hc 0 _ rfl, hc 1 _ rfl, hc 2 _ rfl, v, hc 3 _ rfl, hv⟩, ERowF.laid (o + 4) h fun j u hj => ?_⟩
    have := hc (j + 4) u (by simpa using hj)
    rwa [show o + (j + 4) = o + 4 + j by omega] at this
/-- The cells that hold a row of statements. -/
def SRowF (w : World) (lo : Nat) : SF → List Value → Prop
  | .nil, xs => xs = []
  | .node _ _ h l r, xs => ∃ v1 v2 v3 v4 v ys, xs = scells h v1 v2 v3 v4 v ++ ys ∧ EVF w lo h.x1.l v1 ∧ EVF w lo h.x2.l v2 ∧ EVF w lo h.x3.l v3 ∧ EVF w lo h.x4.l v4 ∧ SVF w lo l v ∧ SRowF w lo r ys
theorem SRowF.length {w : World} {lo : Nat} : ∀ {F : SF} {xs : List Value}, SRowF w lo F xs → xs.length = slen F * 19
  | .nil, xs, h => by rw [h]; rfl
  | .node _ _ _ _ r, xs, ⟨_, _, _, _, v, ys, e, _, _, _, _, _, h⟩ => by have := SRowF.length h; subst e; simp only [scells, xcells, List.length_cons, List.length_append, List.length_nil, slen]; omega
theorem SRowF.app {w : World} {lo : Nat} : ∀ {P R : SF} {xs ys : List Value}, SRowF w lo P xs → SRowF w lo R ys → SRowF w lo (sapp P R) (xs ++ ys)
  | .nil, _, _, _, h, g => by rw [show _ = [] from h]; exact g
  | .node _ _ _ _ r, _, _, _, ⟨v1, v2, v3, v4, v, zs, e, h1, h2, h3, h4, hv, h⟩, g => ⟨v1, v2, v3, v4, v, _, by rw [e, List.append_assoc], h1, h2, h3, h4, hv, SRowF.app h g⟩
theorem SRowF.one {w : World} {lo p q : Nat} {h : SH} {l : SF} {v1 v2 v3 v4 v : Value} (h1 : EVF w lo h.x1.l v1) (h2 : EVF w lo h.x2.l v2) (h3 : EVF w lo h.x3.l v3) (h4 : EVF w lo h.x4.l v4) (hv : SVF w lo l v) : SRowF w lo (.node p q h l .nil) (scells h v1 v2 v3 v4 v) :=
  ⟨v1, v2, v3, v4, v, [], by rw [List.append_nil], h1, h2, h3, h4, hv, rfl⟩
theorem SRowF.same {w w' : World} {lo lo' : Nat} (hlo : lo' ≤ lo) (hs : ∀ (a : Addr) v, lo ≤ a.block → rdF w a = some v → rdF w' a = some v) : ∀ {F : SF} {xs : List Value}, SRowF w lo F xs → SRowF w' lo' F xs
  | .nil, _, h => h
  | .node _ _ _ _ r, _, ⟨v1, v2, v3, v4, v, zs, e, h1, h2, h3, h4, hv, h⟩ => ⟨v1, v2, v3, v4, v, zs, e, h1.same hlo hs, h2.same hlo hs, h3.same hlo hs, h4.same hlo hs, hv.same hlo hs, SRowF.same hlo hs h⟩
theorem SRowF.laid {w : World} {lo g : Nat} : ∀ {F : SF} {xs : List Value} (o : Nat), SRowF w lo F xs → (∀ j u, xs[j]? = some u → rdF w ⟨g, o + j, Option.none⟩ = some u) → SInF w lo F g o
  | .nil, _, _, _, _ => trivial
  | .node _ _ _ _ r, _, o, ⟨v1, v2, v3, v4, v, zs, e, h1, h2, h3, h4, hv, h⟩, hc => by
    subst e
    have hx : ∀ (x : X) (u : Value) (i : Nat), EVF w lo x.l u → rdF w ⟨g, o + i, Option.none⟩ = some (.int .i64 x.h.k) → rdF w ⟨g, o + (i + 1), Option.none⟩ = some (.int .i64 x.h.n) → rdF w ⟨g, o + (i + 2), Option.none⟩ = some (.string x.h.s) → rdF w ⟨g, o + (i + 3), Option.none⟩ = some u → XCF w lo x g (o + i) :=
      fun x u i he a0 a1 a2 a3 => ⟨a0, by rw [Nat.add_assoc]; exact a1, by rw [Nat.add_assoc]; exact a2, u, by rw [Nat.add_assoc]; exact a3, he⟩
    refine SInF_node.2 ⟨⟨hc 0 _ rfl, hc 1 _ rfl, hx _ v1 2 h1 (hc 2 _ rfl) (hc 3 _ rfl) (hc 4 _ rfl) (hc 5 _ rfl), hx _ v2 6 h2 (hc 6 _ rfl) (hc 7 _ rfl) (hc 8 _ rfl) (hc 9 _ rfl), hx _ v3 10 h3 (hc 10 _ rfl) (hc 11 _ rfl) (hc 12 _ rfl) (hc 13 _ rfl), hx _ v4 14 h4 (hc 14 _ rfl) (hc 15 _ rfl) (hc 16 _ rfl) (hc 17 _ rfl), v, hc 18 _ rfl, hv⟩, SRowF.laid (o + 19) h fun j u hj => ?_⟩
    have := hc (j + 19) u (by simpa [scells, xcells] using hj)
    rwa [show o + (j + 19) = o + 19 + j by omega] at this
theorem EInF_lower {w : World} {lo lo' : Nat} (hlo : lo' ≤ lo) : ∀ (F : EF) (b o : Nat), EInF w lo F b o → EInF w lo' F b o
  | .nil, _, _, _ => trivial
  | .node _ _ h l r, b, o, hc => by
    obtain ⟨⟨h0, h1, h2, v, h3, h4⟩, h5⟩ := EInF_node.1 hc
    exact EInF_node.2 ⟨⟨h0, h1, h2, v, h3, h4.lower hlo⟩, EInF_lower hlo r b _ h5⟩
theorem XCF.lower {w : World} {lo lo' : Nat} {x : X} {b o : Nat} (hlo : lo' ≤ lo) (h : XCF w lo x b o) : XCF w lo' x b o := by
  obtain ⟨h0, h1, h2, v, h3, h4⟩ := h
  exact ⟨h0, h1, h2, v, h3, h4.lower hlo⟩
theorem SInF_lower {w : World} {lo lo' : Nat} (hlo : lo' ≤ lo) : ∀ (F : SF) (b o : Nat), SInF w lo F b o → SInF w lo' F b o
  | .nil, _, _, _ => trivial
  | .node _ _ h l r, b, o, hc => by
    obtain ⟨⟨h0, h1, h2, h3, h4, h5, v, h6, h7⟩, h8⟩ := SInF_node.1 hc
    exact SInF_node.2 ⟨⟨h0, h1, h2.lower hlo, h3.lower hlo, h4.lower hlo, h5.lower hlo, v, h6, h7.lower hlo⟩, SInF_lower hlo r b _ h8⟩
theorem EVF.laid {w : World} {lo g : Nat} {F : EF} {xs : List Value} (h : ERowF w lo F xs) (hr : rgF w g 0 xs) (c : Nat) (hlo : g ≤ lo) : EVF w g F (.slice (some ⟨g, 0, Option.none⟩) (elen F) c) :=
  ⟨g, 0, _, c, rfl, .inl rfl, Nat.le_refl _, EInF_lower hlo _ _ _ (ERowF.laid 0 h (by simpa [rgF] using hr))⟩
theorem SVF.laid {w : World} {lo g : Nat} {F : SF} {xs : List Value} (h : SRowF w lo F xs) (hr : rgF w g 0 xs) (c : Nat) (hlo : g ≤ lo) : SVF w g F (.slice (some ⟨g, 0, Option.none⟩) (slen F) c) :=
  ⟨g, 0, _, c, rfl, .inl rfl, Nat.le_refl _, SInF_lower hlo _ _ _ (SRowF.laid 0 h (by simpa [rgF] using hr))⟩
theorem EVF.isOne {w : World} {lo : Nat} {F : EF} {v : Value} (h : EVF w lo F v) : v.oneCell' = true := by obtain ⟨a, c, rfl⟩ := h.shape; rfl
theorem SVF.isOne {w : World} {lo : Nat} {F : SF} {v : Value} (h : SVF w lo F v) : v.oneCell' = true := by obtain ⟨a, c, rfl⟩ := h.shape; rfl
structure HVF (w : World) (lo : Nat) (h : SH) (v1 v2 v3 v4 : Value) : Prop where
  e1 : EVF w lo h.x1.l v1
  e2 : EVF w lo h.x2.l v2
  e3 : EVF w lo h.x3.l v3
  e4 : EVF w lo h.x4.l v4
theorem HVF.later {w w' : World} {lo : Nat} {h : SH} {v1 v2 v3 v4 : Value} (hv : HVF w lo h v1 v2 v3 v4) (hb : Below w.heap.size w w') : HVF w' lo h v1 v2 v3 v4 := ⟨hv.e1.later hb, hv.e2.later hb, hv.e3.later hb, hv.e4.later hb⟩
theorem HVF.lower {w : World} {lo lo' : Nat} {h : SH} {v1 v2 v3 v4 : Value} (hv : HVF w lo h v1 v2 v3 v4) (hlo : lo' ≤ lo) : HVF w lo' h v1 v2 v3 v4 := ⟨hv.e1.lower hlo, hv.e2.lower hlo, hv.e3.lower hlo, hv.e4.lower hlo⟩
theorem HVF.same {w w' : World} {lo lo' : Nat} {h : SH} {v1 v2 v3 v4 : Value} (hv : HVF w lo h v1 v2 v3 v4) (hlo : lo' ≤ lo) (hs : KeepsF lo w w') : HVF w' lo' h v1 v2 v3 v4 := ⟨hv.e1.same hlo hs, hv.e2.same hlo hs, hv.e3.same hlo hs, hv.e4.same hlo hs⟩
theorem EInF.plain {w : World} {lo : Nat} : ∀ (F : EF) (b o : Nat), EInF w lo F b o → EIn w lo F b o
  | .nil, _, _, _ => trivial
  | .node _ _ h l r, b, o, ⟨⟨h0, h1, h2, v, h3, b', o', a', c', e1, e2, e3, h4⟩, h5⟩ => ⟨⟨(rdF_iff.1 h0).2, (rdF_iff.1 h1).2, (rdF_iff.1 h2).2, v, (rdF_iff.1 h3).2, b', o', a', c', e1, e2, e3, EInF.plain l b' o' h4⟩, EInF.plain r b _ h5⟩
theorem EVF.plain {w : World} {lo : Nat} {F : EF} {v : Value} (h : EVF w lo F v) : EV w lo F v := by
  obtain ⟨b, o, a, c, h1, h2, h3, h4⟩ := h
  exact ⟨b, o, a, c, h1, h2, h3, EInF.plain F b o h4⟩
theorem XCF.plain {w : World} {lo : Nat} {x : X} {b o : Nat} (h : XCF w lo x b o) : XC w lo x b o := by
  obtain ⟨h0, h1, h2, v, h3, h4⟩ := h
  exact ⟨(rdF_iff.1 h0).2, (rdF_iff.1 h1).2, (rdF_iff.1 h2).2, v, (rdF_iff.1 h3).2, h4.plain⟩
theorem SInF.plain {w : World} {lo : Nat} : ∀ (F : SF) (b o : Nat), SInF w lo F b o → SIn w lo F b o
  | .nil, _, _, _ => trivial
  | .node _ _ h l r, b, o, ⟨⟨h0, h1, h2, h3, h4, h5, v, h6, b', o', a', c', e1, e2, e3, h7⟩, h8⟩ => ⟨⟨(rdF_iff.1 h0).2, (rdF_iff.1 h1).2, h2.plain, h3.plain, h4.plain, h5.plain, v, (rdF_iff.1 h6).2, b', o', a', c', e1, e2, e3, SInF.plain l b' o' h7⟩, SInF.plain r b _ h8⟩
theorem SVF.plain {w : World} {lo : Nat} {F : SF} {v : Value} (h : SVF w lo F v) : SV w lo F v := by
  obtain ⟨b, o, a, c, h1, h2, h3, h4⟩ := h
  exact ⟨b, o, a, c, h1, h2, h3, SInF.plain F b o h4⟩
end Go.Proofs.YtkhccpjkajhnpaaGreatDoor
/-
  The contracts of toExp, toExpS, toStmt, toStmtS: a copy in memory of its own, which may be written over.
-/
namespace Go.Proofs.YtkhccpjkajhnpaaGreatDoor
open Go.RowKit Go.Lib
set_option linter.unusedSimpArgs false
set_option linter.unusedVariables false

theorem set5F {w w1 : World} {N : Nat} (hb : Below w.heap.size w w1) (hN : w.heap.size = N) (p x y z u : Value) : Below w.heap.size w (((((w1.setCell ⟨N + 2, 3, Option.none⟩ p).setCell ⟨N + 1, 0, Option.none⟩ x).setCell ⟨N + 1, 1, Option.none⟩ y).setCell ⟨N + 1, 2, Option.none⟩ z).setCell ⟨N + 1, 3, Option.none⟩ u) ∧
    KeepsF (w.heap.size + 3) w1 (((((w1.setCell ⟨N + 2, 3, Option.none⟩ p).setCell ⟨N + 1, 0, Option.none⟩ x).setCell ⟨N + 1, 1, Option.none⟩ y).setCell ⟨N + 1, 2, Option.none⟩ z).setCell ⟨N + 1, 3, Option.none⟩ u) := by
  subst hN
  exact ⟨((((hb.setCell (p := ⟨w.heap.size + 2, 3, Option.none⟩) (by simp) _).setCell (p := ⟨w.heap.size + 1, 0, Option.none⟩) (by simp) _).setCell (p := ⟨w.heap.size + 1, 1, Option.none⟩) (by simp) _).setCell (p := ⟨w.heap.size + 1, 2, Option.none⟩) (by simp) _).setCell (p := ⟨w.heap.size + 1, 3, Option.none⟩) (by simp) _,
    ((((KeepsF.set _ _ (by simp) _).trans (KeepsF.set _ _ (by simp) _)).trans (KeepsF.set _ _ (by simp) _)).trans (KeepsF.set _ _ (by simp) _)).trans (KeepsF.set _ _ (by simp) _)⟩
/-- One more expression behind those that are laid. -/
theorem ERowF.next {w w' : World} {lo g : Nat} {P : EF} {xs : List Value} {h : EH} {l : EF} {v : Value} (p q : Nat) (hP : ERowF w lo P xs) (hk : KeepsF lo w w') (hv : EVF w' lo l v) (hr : w'.rangeAt g 0 xs) (h4 : w'.rangeAt g (elen P * 4) [.int .i64 h.k, .int .i64 h.n, .string h.s, v]) :
    ERowF w' lo (eapp P (.node p q h l .nil)) (xs ++ [.int .i64 h.k, .int .i64 h.n, .string h.s, v]) ∧ w'.rangeAt g 0 (xs ++ [.int .i64 h.k, .int .i64 h.n, .string h.s, v]) :=
  ⟨(ERowF.same (Nat.le_refl _) hk hP).app (ERowF.one hv), rangeAt_app hr (by rw [hP.length, Nat.zero_add]; exact h4)⟩
/-- A part that is laid: its four cells, and what stands under it. -/
structure GotF (w : World) (N o : Nat) (x : X) (u : Value) : Prop where
  rg : w.rangeAt (N + 2) o (xcells x u)
  ev : EVF w (N + 3) x.l u
theorem GotF.later {w w' : World} {N o : Nat} {x : X} {u : Value} (g : GotF w N o x u) (hb : Below w.heap.size w w') : GotF w' N o x u := ⟨rangeAt_later g.rg hb, g.ev.later hb⟩
theorem GotF.sets {w W : World} {N o o' : Nat} {x : X} {u : Value} {vs : List Value} (g : GotF w N o x u) (ho : o + 4 ≤ o') (hW : w.setCells (N + 2) o' vs = W) : GotF W N o x u := by
  subst hW
  exact ⟨World.rangeAt_setCells_apart g.rg _ _ _ (.inr (.inl ho)), g.ev.same (Nat.le_refl _) (KeepsF.sets (by omega) _ _ _)⟩
theorem GotF.new {w W : World} {N o lo : Nat} {x : X} {u : Value} (ht : w.there (N + 2) o 4) (hu : EVF w lo x.l u) (hlo : N + 3 ≤ lo) (hW : w.setCells (N + 2) o (xcells x u) = W) : GotF W N o x u := by
  subst hW
  exact ⟨World.rangeAt_setCells_same _ _ _ _ ht, (hu.lower hlo).same (Nat.le_refl _) (KeepsF.sets (by omega) _ _ _)⟩
/-- One more statement behind those that are laid. -/
theorem SRowF.next {w w' : World} {lo g : Nat} {P : SF} {xs : List Value} {h : SH} {l : SF} {v1 v2 v3 v4 v : Value} (p q : Nat) (hP : SRowF w lo P xs) (hk : KeepsF lo w w') (h1 : HVF w' lo h v1 v2 v3 v4) (hv : SVF w' lo l v) (hr : w'.rangeAt g 0 xs) (h4 : w'.rangeAt g (slen P * 19) (scells h v1 v2 v3 v4 v)) :
    SRowF w' lo (sapp P (.node p q h l .nil)) (xs ++ scells h v1 v2 v3 v4 v) ∧ w'.rangeAt g 0 (xs ++ scells h v1 v2 v3 v4 v) :=
  ⟨(SRowF.same (Nat.le_refl _) hk hP).app (SRowF.one h1.e1 h1.e2 h1.e3 h1.e4 hv), rangeAt_app hr (by rw [hP.length, Nat.zero_add]; exact h4)⟩
end Go.Proofs.YtkhccpjkajhnpaaGreatDoor
/-
  The contracts of markExpS and markStmtS: every number and every text of a tree is written over, nothing else.
-/
namespace Go.Proofs.YtkhccpjkajhnpaaGreatDoor
open Go.RowKit Go.Lib
set_option linter.unusedSimpArgs false
set_option linter.unusedVariables false

/-- A number stays a number, a text a text, all else as it is. -/
def likeV : Value → Value → Prop
  | .int .i64 _, u => ∃ n, u = .int .i64 n
  | .string _, u => ∃ s, u = .string s
  | v, u => u = v
theorem likeV.refl (v : Value) : likeV v v := by
  unfold likeV; split
  · exact ⟨_, rfl⟩
  · exact ⟨_, rfl⟩
  · rfl
theorem likeV.trans {a b c : Value} (h : likeV a b) (g : likeV b c) : likeV a c := by
  unfold likeV at h
  split at h
  · obtain ⟨n, rfl⟩ := h; exact g
  · obtain ⟨n, rfl⟩ := h; exact g
  · subst h; exact g
/-- What marking does to memory: only blocks from lo up to hi turn, numbers and texts alone, and nothing is frozen or thawed. -/
structure Mk (lo hi : Nat) (w w' : World) : Prop where
  gap : Gap lo hi w w'
  like : ∀ (a : Addr) v, w.cell? a = some v → ∃ u, w'.cell? a = some u ∧ likeV v u
  free : ∀ (a : Addr), (∃ v, w.cell? a = some v) → w.frozen? a = false → w'.frozen? a = false
theorem Mk.refl (lo hi : Nat) (w : World) : Mk lo hi w w := ⟨Gap.refl _ _ _, fun a v h => ⟨v, h, likeV.refl v⟩, fun _ _ h => h⟩
theorem Mk.trans {lo hi : Nat} {w w1 w2 : World} (h : Mk lo hi w w1) (g : Mk lo hi w1 w2) : Mk lo hi w w2 := by
  refine ⟨h.gap.trans g.gap, fun a v ha => ?_, fun a ⟨v, ha⟩ hf => ?_⟩
  · obtain ⟨u, hu, h1⟩ := h.like a v ha
    obtain ⟨x, hx, h2⟩ := g.like a u hu
    exact ⟨x, hx, h1.trans h2⟩
  · obtain ⟨u, hu, _⟩ := h.like a v ha
    exact g.free a ⟨u, hu⟩ (h.free a ⟨v, ha⟩ hf)
theorem Mk.of {lo hi : Nat} {w w' : World} (h : Below w.heap.size w w') : Mk lo hi w w' :=
  ⟨Gap.of _ _ h, fun a v ha => ⟨v, keeps h ha, likeV.refl v⟩, fun a ⟨v, ha⟩ hf => by
    have := h.block a.block (lt_of_cellA ha)
    unfold World.frozen? at hf ⊢
    simp only [this]; exact hf⟩
theorem Mk.int {lo hi : Nat} {w : World} {p : Addr} {n : Int} (hp : w.cell? p = some (.int .i64 n)) (h1 : lo ≤ p.block) (h2 : p.block < hi) (m : Int) : Mk lo hi w (w.setCell p (.int .i64 m)) := by
  refine ⟨⟨rfl, rfl, rfl, by simp, fun k hk hc => Below.heap_setCell _ _ _ _ (by omega)⟩, fun a v ha => ?_, fun a _ hf => by simpa using hf⟩
  by_cases e : a = p
  · subst e
    rw [hp] at ha; injection ha with ha; subst ha
    exact ⟨_, World.cell?_setCell_same _ _ _ hp, ⟨m, rfl⟩⟩
  · exact ⟨v, by rw [World.cell?_setCell_other _ _ _ _ (fun e' => e e'.symm)]; exact ha, likeV.refl v⟩
theorem Mk.str {lo hi : Nat} {w : World} {p : Addr} {s : ByteArray} (hp : w.cell? p = some (.string s)) (h1 : lo ≤ p.block) (h2 : p.block < hi) (t : ByteArray) : Mk lo hi w (w.setCell p (.string t)) := by
  refine ⟨⟨rfl, rfl, rfl, by simp, fun k hk hc => Below.heap_setCell _ _ _ _ (by omega)⟩, fun a v ha => ?_, fun a _ hf => by simpa using hf⟩
  by_cases e : a = p
  · subst e
    rw [hp] at ha; injection ha with ha; subst ha
    exact ⟨_, World.cell?_setCell_same _ _ _ hp, ⟨t, rfl⟩⟩
  · exact ⟨v, by rw [World.cell?_setCell_other _ _ _ _ (fun e' => e e'.symm)]; exact ha, likeV.refl v⟩
/-- A number, a text that may be written over, in a block from lo up to hi. -/
def IntC (w : World) (lo hi b o : Nat) : Prop := (lo ≤ b ∧ b < hi) ∧ w.frozen? ⟨b, o, Option.none⟩ = false ∧ ∃ n, w.cell? ⟨b, o, Option.none⟩ = some (.int .i64 n)
def StrC (w : World) (lo hi b o : Nat) : Prop := (lo ≤ b ∧ b < hi) ∧ w.frozen? ⟨b, o, Option.none⟩ = false ∧ ∃ n, w.cell? ⟨b, o, Option.none⟩ = some (.string n)
theorem IntC.mk {w w' : World} {lo hi b o : Nat} (h : IntC w lo hi b o) (m : Mk lo hi w w') : IntC w' lo hi b o := by
  obtain ⟨h1, h2, n, h3⟩ := h
  obtain ⟨u, hu, hl⟩ := m.like _ _ h3
  obtain ⟨k, rfl⟩ := hl
  exact ⟨h1, m.free _ ⟨_, h3⟩ h2, k, hu⟩
theorem StrC.mk {w w' : World} {lo hi b o : Nat} (h : StrC w lo hi b o) (m : Mk lo hi w w') : StrC w' lo hi b o := by
  obtain ⟨h1, h2, n, h3⟩ := h
  obtain ⟨u, hu, hl⟩ := m.like _ _ h3
  obtain ⟨k, rfl⟩ := hl
  exact ⟨h1, m.free _ ⟨_, h3⟩ h2, k, hu⟩
theorem slice_mk {w w' : World} {lo hi n c : Nat} {a : Addr} {p : Option Addr} (h : w.cell? a = some (.slice p n c)) (m : Mk lo hi w w') : w'.cell? a = some (.slice p n c) := by
  obtain ⟨u, hu, hl⟩ := m.like _ _ h
  have : u = .slice p n c := hl
  rw [← this]; exact hu
/-- A tree that may be written over, whatever its numbers and texts are. -/
def EK (w : World) (lo hi : Nat) : EF → Nat → Nat → Prop
  | .nil, _, _ => True
  | .node _ _ h l r, b, o =>
    (IntC w lo hi b o ∧ IntC w lo hi b (o + 1) ∧ StrC w lo hi b (o + 2) ∧ ∃ b' o' a' c', w.cell? ⟨b, o + 3, Option.none⟩ = some (.slice a' (elen l) c') ∧ (a' = some ⟨b', o', Option.none⟩ ∨ l = .nil) ∧ EK w lo hi l b' o') ∧ EK w lo hi r b (o + 4)
def EKV (w : World) (lo hi : Nat) (F : EF) (v : Value) : Prop := ∃ b o a c, v = .slice a (elen F) c ∧ (a = some ⟨b, o, Option.none⟩ ∨ F = .nil) ∧ EK w lo hi F b o
theorem EK.mk {w w' : World} {lo hi : Nat} (m : Mk lo hi w w') : ∀ (F : EF) (b o : Nat), EK w lo hi F b o → EK w' lo hi F b o
  | .nil, _, _, _ => trivial
  | .node _ _ h l r, b, o, ⟨⟨h0, h1, h2, b', o', a', c', h3, e2, h4⟩, h5⟩ => ⟨⟨h0.mk m, h1.mk m, h2.mk m, b', o', a', c', slice_mk h3 m, e2, EK.mk m l b' o' h4⟩, EK.mk m r b _ h5⟩
theorem EKV.mk {w w' : World} {lo hi : Nat} {F : EF} {v : Value} (h : EKV w lo hi F v) (m : Mk lo hi w w') : EKV w' lo hi F v := by
  obtain ⟨b, o, a, c, h1, h2, h3⟩ := h
  exact ⟨b, o, a, c, h1, h2, EK.mk m F b o h3⟩
theorem int_of {w : World} {lo b o : Nat} {n : Int} (h : rdF w ⟨b, o, Option.none⟩ = some (.int .i64 n)) (hb : lo ≤ b) : IntC w lo w.heap.size b o := ⟨⟨hb, lt_of_cellA (rdF_iff.1 h).2⟩, (rdF_iff.1 h).1, n, (rdF_iff.1 h).2⟩
theorem str_of {w : World} {lo b o : Nat} {n : ByteArray} (h : rdF w ⟨b, o, Option.none⟩ = some (.string n)) (hb : lo ≤ b) : StrC w lo w.heap.size b o := ⟨⟨hb, lt_of_cellA (rdF_iff.1 h).2⟩, (rdF_iff.1 h).1, n, (rdF_iff.1 h).2⟩
theorem EK.of {w : World} {lo : Nat} : ∀ (F : EF) (b o : Nat), lo ≤ b → EInF w lo F b o → EK w lo w.heap.size F b o
  | .nil, _, _, _, _ => trivial
  | .node _ _ h l r, b, o, hb, ⟨⟨h0, h1, h2, v, h3, b', o', a', c', e1, e2, e3, h4⟩, h5⟩ =>
    ⟨⟨int_of h0 hb, int_of h1 hb, str_of h2 hb, b', o', a', c', by rw [← e1]; exact (rdF_iff.1 h3).2, e2, EK.of l b' o' e3 h4⟩, EK.of r b _ hb h5⟩
theorem EKV.of {w : World} {lo : Nat} {F : EF} {v : Value} (h : EVF w lo F v) : EKV w lo w.heap.size F v := by
  obtain ⟨b, o, a, c, h1, h2, h3, h4⟩ := h
  exact ⟨b, o, a, c, h1, h2, EK.of F b o h3 h4⟩
theorem markTextI (k : Int) (h1 : 1 ≤ k) (h2 : k ≤ 100000000) (w : World) : Calls Tryz.prog 145 #[.int .i64 k] w fun e w' => ∃ s, e = .returned (.string s) ∧ Below w.heap.size w w' := by
  obtain ⟨n, rfl⟩ : ∃ n : Nat, k = (n : Int) := ⟨k.toNat, by omega⟩
  refine (markText_is n (by omega) (by omega) w).mono ?_
  rintro e w' ⟨rfl, hb⟩
  exact ⟨_, rfl, hb⟩
theorem run_store1 {P : Program} (w : World) (b o : Nat) (ty : TypeId) (v : Value) (hc : v.cells = #[v]) (hv : v.oneCell' = true) (hs : ∃ u, w.cell? ⟨b, o, Option.none⟩ = some u) (hf : w.frozen? ⟨b, o, Option.none⟩ = false) (hi : (P.info? ty).map (·.size) = some 1) :
    (storeVar ty ⟨b, o, Option.none⟩ v).run P w = .ok () (w.setCell ⟨b, o, Option.none⟩ v) := by
  have := run_storeCells_cells (P := P) b o [v] 0 w (fun j hj => by simp at hj; subst hj; obtain ⟨u, hu⟩ := hs; simp [hu]) (fun j hj => by simp at hj; subst hj; simpa using hf) (fun x hx => by simp at hx; subst hx; exact hv)
  cases hq : P.info? ty with
  | none => simp [hq] at hi
  | some i =>
    have hs : i.size = 1 := by simpa [hq] using hi
    simp only [Nat.add_zero, World.setCells] at this
    simp [storeVar, sizeOf, typeInfo, hq, hc, hs, this]
theorem store_int {P : Program} {ops : Array Oper} {rest : List Oper} {op : Oper} {a : Act} {w : World} {Q : Exit → Act → World → Prop} {lo hi : Nat} (hgd : op.guard = none) (x y : Operand) (ty : TypeId) (ho : op.op = .store ty x y)
    (b o : Nat) (n : Int) (hx : a.eval x = .pointer (some ⟨b, o, Option.none⟩)) (hy : a.eval y = .int .i64 n) (hsz : (P.info? ty).map (·.size) = some 1) (hc : IntC w lo hi b o)
    (h : ∀ W, Mk lo hi w W → wpList P ops Q rest (a.put op.dst undef) W) : wpList P ops Q (op :: rest) a w := by
  obtain ⟨⟨h1, h2⟩, hf, n0, hc⟩ := hc
  refine wpList_plain hgd fun K hK => ?_
  unfold Oper.wp execOp
  simp only [ho, hx, hy, Instr.storeAt, Instr.sureAddr, Sem.run_bind, Sem.run_pure, Result.andThen_ok, run_store1 w b o ty (.int .i64 n) rfl rfl ⟨_, hc⟩ hf hsz]
  exact hK _ _ (h _ (Mk.int hc h1 h2 n))
theorem store_str {P : Program} {ops : Array Oper} {rest : List Oper} {op : Oper} {a : Act} {w : World} {Q : Exit → Act → World → Prop} {lo hi : Nat} (hgd : op.guard = none) (x y : Operand) (ty : TypeId) (ho : op.op = .store ty x y)
    (b o : Nat) (n : ByteArray) (hx : a.eval x = .pointer (some ⟨b, o, Option.none⟩)) (hy : a.eval y = .string n) (hsz : (P.info? ty).map (·.size) = some 1) (hc : StrC w lo hi b o)
    (h : ∀ W, Mk lo hi w W → wpList P ops Q rest (a.put op.dst undef) W) : wpList P ops Q (op :: rest) a w := by
  obtain ⟨⟨h1, h2⟩, hf, n0, hc⟩ := hc
  refine wpList_plain hgd fun K hK => ?_
  unfold Oper.wp execOp
  simp only [ho, hx, hy, Instr.storeAt, Instr.sureAddr, Sem.run_bind, Sem.run_pure, Result.andThen_ok, run_store1 w b o ty (.string n) rfl rfl ⟨_, hc⟩ hf hsz]
  exact hK _ _ (h _ (Mk.str hc h1 h2 n))
theorem sizeI1 : (Tryz.prog.info? 3).map (·.size) = some 1 := by kernel_rfl
theorem sizeT1 : (Tryz.prog.info? 9).map (·.size) = some 1 := by kernel_rfl
/-- One expression that may be written over. -/
structure XK (w : World) (lo hi : Nat) (l : EF) (b o : Nat) (v : Value) : Prop where
  i0 : IntC w lo hi b o
  i1 : IntC w lo hi b (o + 1)
  s2 : StrC w lo hi b (o + 2)
  c3 : w.cell? ⟨b, o + 3, Option.none⟩ = some v
  ev : EKV w lo hi l v
theorem XK.on {w w' : World} {lo hi : Nat} {l : EF} {b o : Nat} {v : Value} (h : XK w lo hi l b o v) (m : Mk lo hi w w') : XK w' lo hi l b o v := by
  refine ⟨h.i0.mk m, h.i1.mk m, h.s2.mk m, ?_, h.ev.mk m⟩
  obtain ⟨b', o', a, c, rfl, _⟩ := h.ev
  exact slice_mk h.c3 m
theorem EK.open {w : World} {lo hi p q b o : Nat} {h : EH} {l r : EF} (hk : EK w lo hi (.node p q h l r) b o) : (∃ v, XK w lo hi l b o v) ∧ EK w lo hi r b (o + 4) := by
  obtain ⟨⟨h0, h1, h2, b', o', a', c', h3, e2, h4⟩, h5⟩ := hk
  exact ⟨⟨_, h0, h1, h2, h3, b', o', a', c', rfl, e2, h4⟩, h5⟩
theorem EKV.shape {w : World} {lo hi : Nat} {F : EF} {v : Value} (h : EKV w lo hi F v) : ∃ a c, v = .slice a (elen F) c := by obtain ⟨b, o, a, c, h1, _⟩ := h; exact ⟨a, c, h1⟩
set_option maxHeartbeats 2000000 in
set_option maxRecDepth 100000 in
theorem markExpS_step (lo hi : Nat) (F : EF)
    (ih : ∀ l : EF, enodes l < enodes F → ∀ (m : Int) (w : World) (v : Value), 1 ≤ m → m + 3 * (enodes l : Int) ≤ 20000000 → EKV w lo hi l v → Calls Tryz.prog 87 #[v, .int .i64 m] w fun e w' => ∃ r : Int, e = .returned (.int .i64 r) ∧ m ≤ r ∧ r ≤ m + 3 * (enodes l : Int) ∧ Mk lo hi w w')
    (m : Int) (w : World) (v : Value) (h1 : 1 ≤ m) (hm : m + 3 * (enodes F : Int) ≤ 20000000) (hv : EKV w lo hi F v) :
    Calls Tryz.prog 87 #[v, .int .i64 m] w fun e w' => ∃ r : Int, e = .returned (.int .i64 r) ∧ m ≤ r ∧ r ≤ m + 3 * (enodes F : Int) ∧ Mk lo hi w w' := by
  obtain ⟨b, o, ao, cap, rfl, hao, hin⟩ := hv
  have Hih := Lib.hid ih
  have hlenF := elen_le F
  clear ih
  go_enter Tryz.func87, Tryz.ntmps87
  go_wp2
  go_loopw [1, 5] (fun x i wr => ∃ (R : EF) (j : Nat) (c : Int), i = .int .i64 (j : Int) ∧ x = .int .i64 c ∧ Hid (j + elen R = elen F ∧ c + 3 * (enodes R : Int) ≤ m + 3 * (enodes F : Int) ∧ enodes R ≤ enodes F ∧ m ≤ c) ∧ Hid (EK wr lo hi R b (o + j * 4)) ∧ Hid (Mk lo hi w wr)) (fun _ i _ => elen F - (RowKit.intOf i).toNat)
  case atStart => exact ⟨F, 0, m, rfl, rfl, ⟨by omega, by omega, by omega, by omega⟩, (by show EK w lo hi F b (o + 0 * 4); simpa using hin), Mk.refl _ _ _⟩
  case round =>
    obtain ⟨R, j, c, rfl, rfl, hr, hek, MK⟩ := hrel
    obtain ⟨e1, e2, e3, e4⟩ := hr.out
    cases R with
    | nil =>
      have hk : ¬ (j : Int) < (elen F : Int) := by simp only [elen] at e1; omega
      simp only [enodes] at e2
      go_wp2
      go_ret
      exact ⟨_, rfl, e4, by omega, MK.out⟩
    | node p q h l r =>
      have hlt : (j : Int) < (elen F : Int) := by simp only [elen] at e1; omega
      have hne : ¬ F = .nil := by intro e; subst e; simp only [elen] at e1; omega
      obtain rfl : ao = some ⟨b, o, Option.none⟩ := hao.resolve_right hne
      obtain ⟨⟨u, hx⟩, hrr⟩ := EK.open hek.out
      simp only [enodes] at e2 e3
      have Hl := Lib.hid (Hih.out l (by omega))
      have He : Hid (j + 1 + elen r = elen F ∧ enodes r ≤ enodes F) := ⟨by simp only [elen] at e1; omega, by omega⟩
      have hcI : c + 3 + 3 * (enodes l : Int) + 3 * (enodes r : Int) ≤ m + 3 * (enodes F : Int) := by omega
      have SK := Lib.hid hx
      have RK := Lib.hid hrr
      clear hr e1 e2 e3 hin hne hao hek hx hrr
      go_wp2_with (refine store_int rfl _ _ 3 rfl b _ _ rfl rfl sizeI1 (by first | exact SK.out.i0 | exact SK.out.i1) ?_; intro W hW; have SK := Lib.hid (SK.out.on hW); have RK := Lib.hid (EK.mk hW _ _ _ RK.out); have MK := Lib.hid (MK.out.trans hW); clear hW)
      refine (markTextI (c + 1 + 1) (by omega) (by omega) _).mono ?_
      rintro e w4 ⟨t4, rfl, hb4⟩
      have m4 : Mk lo hi _ w4 := Mk.of hb4
      have SK := Lib.hid (SK.out.on m4)
      have RK := Lib.hid (EK.mk m4 _ _ _ RK.out)
      have MK := Lib.hid (MK.out.trans m4)
      clear hb4 m4
      go_wp2_with (refine store_str rfl _ _ 9 rfl b _ _ rfl rfl sizeT1 SK.out.s2 ?_; intro W5 hW; have SK := Lib.hid (SK.out.on hW); have RK := Lib.hid (EK.mk hW _ _ _ RK.out); have MK := Lib.hid (MK.out.trans hW); have c3 := SK.out.c3; clear hW)
      refine (Hl.out (c + 1 + 1 + 1) _ u (by omega) (by omega) SK.out.ev).mono ?_
      rintro e w6 ⟨r6, rfl, g1, g2, m6⟩
      have RK := Lib.hid (EK.mk m6 _ _ _ RK.out)
      have MK := Lib.hid (MK.out.trans m6)
      clear m6 SK c3
      go_wp2
      go_roundw
      case rel => exact ⟨r, j + 1, r6, by go_num, rfl, ⟨He.out.1, by omega, He.out.2, by omega⟩, (by rw [show o + (j + 1) * 4 = o + j * 4 + 4 by omega]; exact RK.out), MK.out⟩
      case measure => simp [RowKit.intOf]; omega
theorem markExpS_all (lo hi : Nat) : ∀ (n : Nat) (F : EF), enodes F < n → ∀ (m : Int) (w : World) (v : Value), 1 ≤ m → m + 3 * (enodes F : Int) ≤ 20000000 → EKV w lo hi F v → Calls Tryz.prog 87 #[v, .int .i64 m] w fun e w' => ∃ r : Int, e = .returned (.int .i64 r) ∧ m ≤ r ∧ r ≤ m + 3 * (enodes F : Int) ∧ Mk lo hi w w'
  | 0, _, h, _, _, _, _, _, _ => absurd h (by omega)
  | n + 1, F, h, m, w, v, h1, h2, hv => markExpS_step lo hi F (fun l hl m w v h1 h2 hv => markExpS_all lo hi n l (by omega) m w v h1 h2 hv) m w v h1 h2 hv
theorem markExpS_is (lo hi : Nat) (F : EF) (m : Int) (w : World) (v : Value) (h1 : 1 ≤ m) (h2 : m + 3 * (enodes F : Int) ≤ 20000000) (hv : EKV w lo hi F v) :
    Calls Tryz.prog 87 #[v, .int .i64 m] w fun e w' => ∃ r : Int, e = .returned (.int .i64 r) ∧ m ≤ r ∧ r ≤ m + 3 * (enodes F : Int) ∧ Mk lo hi w w' := markExpS_all lo hi _ F (Nat.lt_succ_self _) m w v h1 h2 hv
end Go.Proofs.YtkhccpjkajhnpaaGreatDoor
/-
  Trees of marks; laws.heldExpS, heldExp over them.
-/
namespace Go.Proofs.YtkhccpjkajhnpaaGreatDoor
open Go.RowKit Go.Lib
set_option linter.unusedSimpArgs false
set_option linter.unusedVariables false

/-- The tree with marks in it, from m on. -/
def markF : Nat → EF → EF
  | _, .nil => .nil
  | m, .node p q _ l r => .node p q ⟨(m : Int), (m : Int) + 1, ⟨(mtext (m + 2)).toArray⟩⟩ (markF (m + 3) l) (markF (m + 3 + 3 * enodes l) r)
theorem elen_markF : ∀ (F : EF) (m : Nat), elen (markF m F) = elen F
  | .nil, _ => rfl
  | .node _ _ _ _ r, m => by show elen (markF _ r) + 1 = elen r + 1; rw [elen_markF r]
theorem markF_nil {F : EF} {m : Nat} (h : markF m F = .nil) : F = .nil := by
  cases F with
  | nil => rfl
  | node => cases h
theorem markTextE (k : Int) (n : Nat) (hk : k = (n : Int)) (h1 : 1 ≤ n) (h2 : n ≤ 100000000) (w : World) : Calls Tryz.prog 145 #[.int .i64 k] w fun e w' => e = .returned (.string ⟨(mtext n).toArray⟩) ∧ Below w.heap.size w w' := by subst hk; exact markText_is n h1 h2 w
set_option maxHeartbeats 2000000 in
set_option maxRecDepth 100000 in
theorem heldExpS_step (F : EF)
    (ih : ∀ l : EF, enodes l < enodes F → ∀ (mi : Int) (m : Nat) (w : World) (v : Value), mi = (m : Int) → 1 ≤ m → m + 3 * enodes l ≤ 20000000 → EV w 0 (markF m l) v → Calls Tryz.prog 88 #[v, .int .i64 mi] w fun e w' => e = .returned (.int .i64 ((m : Int) + 3 * (enodes l : Int))) ∧ Below w.heap.size w w')
    (m : Nat) (w : World) (v : Value) (h1 : 1 ≤ m) (hm : m + 3 * enodes F ≤ 20000000) (hv : EV w 0 (markF m F) v) :
    Calls Tryz.prog 88 #[v, .int .i64 (m : Int)] w fun e w' => e = .returned (.int .i64 ((m : Int) + 3 * (enodes F : Int))) ∧ Below w.heap.size w w' := by
  obtain ⟨b, o, ao, cap, rfl, hao, _, hin⟩ := hv
  rw [elen_markF]
  have Hih := Lib.hid ih
  have hlenF := elen_le F
  clear ih
  go_enter Tryz.func88, Tryz.ntmps88
  go_wp2
  go_loopw [1, 5] (fun x i wr => ∃ (R : EF) (j c : Nat), i = .int .i64 (j : Int) ∧ x = .int .i64 (c : Int) ∧ Hid (j + elen R = elen F ∧ c + 3 * enodes R = m + 3 * enodes F ∧ enodes R ≤ enodes F ∧ m ≤ c) ∧ Hid (EIn w 0 (markF c R) b (o + j * 4)) ∧ Below w.heap.size w wr) (fun _ i _ => elen F - (RowKit.intOf i).toNat)
  case atStart => exact ⟨F, 0, m, rfl, rfl, ⟨by omega, by omega, by omega, by omega⟩, (by show EIn w 0 (markF m F) b (o + 0 * 4); simpa using hin), Below.refl _ _⟩
  case round =>
    obtain ⟨R, j, c, rfl, rfl, hr, hek, hbw⟩ := hrel
    obtain ⟨e1, e2, e3, e4⟩ := hr.out
    cases R with
    | nil =>
      have hk : ¬ (j : Int) < (elen F : Int) := by simp only [elen] at e1; omega
      simp only [enodes] at e2
      have HC : Hid ((c : Int) = (m : Int) + 3 * (enodes F : Int)) := Lib.hid (by omega)
      go_wp2
      go_ret
      exact ⟨congrArg (fun z => Ending.returned (.int .i64 z)) HC.out, hbw⟩
    | node p q h l r =>
      have hlt : (j : Int) < (elen F : Int) := by simp only [elen] at e1; omega
      have hne : ¬ F = .nil := by intro e; subst e; simp only [elen] at e1; omega
      obtain rfl : ao = some ⟨b, o, Option.none⟩ := hao.resolve_right (fun e => hne (markF_nil e))
      obtain ⟨⟨c0, c1, c2, u, c3, hu⟩, hrr⟩ := EIn_node.1 hek.out
      simp only [enodes] at e2 e3
      have Hl := Lib.hid (Hih.out l (by omega))
      have He : Hid (j + 1 + elen r = elen F ∧ enodes r ≤ enodes F ∧ c + 3 + 3 * enodes l + 3 * enodes r = m + 3 * enodes F) := ⟨by simp only [elen] at e1; omega, by omega, by omega⟩
      have hcI : (c : Int) ≤ 20000000 - 3 - 3 * (enodes l : Int) := by omega
      have q0 : wr.cell? ⟨b, o + j * 4, Option.none⟩ = some (.int .i64 (c : Int)) := keeps hbw c0
      have q1 : wr.cell? ⟨b, o + j * 4 + 1, Option.none⟩ = some (.int .i64 ((c : Int) + 1)) := keeps hbw c1
      have q2 : wr.cell? ⟨b, o + j * 4 + 2, Option.none⟩ = some (.string ⟨(mtext (c + 2)).toArray⟩) := keeps hbw c2
      have C2 := Lib.hid q2
      have C3 := Lib.hid (show wr.cell? ⟨b, o + j * 4 + 3, Option.none⟩ = some u from keeps hbw c3)
      have HU := Lib.hid (hu.later hbw)
      have HR := Lib.hid hrr
      clear hr e1 e2 e3 hin hne hao hek hrr hu c0 c1 c2 c3
      go_wp2_with fail
      go_cut [37] from 30 to 37 (fun x wx => x = .bool false ∧ Below wr.heap.size wr wx)
      case first =>
        go_region_with (go_at_call 145; refine (markTextE ((c : Int) + 1 + 1) (c + 2) (by omega) (by omega) (by omega) _).mono ?_; rintro e w1 ⟨rfl, hb1⟩; have A1' := keeps hb1 C2.out)
        all_goals (try go_wp2_with fail)
        all_goals go_meet
        all_goals exact ⟨by simp, ⟨hb1.os, hb1.tape, hb1.output, hb1.size, hb1.block⟩⟩
      case rest =>
        obtain ⟨rfl, hb1⟩ := hcut
        have hbw2 := hbw.trans (hb1.mono hbw.size)
        have q3 := keeps hb1 C3.out
        have HU2 := Lib.hid (HU.out.later hb1)
        clear q0 q1 q2 C2 C3 HU hb1
        go_wp2_with fail
        refine (Hl.out ((c : Int) + 1 + 1 + 1) (c + 3) _ u (by omega) (by omega) (by omega) HU2.out).mono ?_
        rintro e w6 ⟨rfl, hb6⟩
        have hbw3 := hbw2.trans (hb6.mono hbw2.size)
        have hn0 : ¬ ((c + 3 : Nat) : Int) + 3 * (enodes l : Int) < 0 := by omega
        clear hb6 hbw2 q3 HU2
        go_wp2
        go_roundw
        case rel => exact ⟨r, j + 1, c + 3 + 3 * enodes l, by go_num, by go_num, ⟨He.out.1, He.out.2.2, He.out.2.1, by omega⟩, (by rw [show o + (j + 1) * 4 = o + j * 4 + 4 by omega]; exact HR.out), hbw3⟩
        case measure => simp [RowKit.intOf]; omega
theorem heldExpS_all : ∀ (n : Nat) (F : EF), enodes F < n → ∀ (mi : Int) (m : Nat) (w : World) (v : Value), mi = (m : Int) → 1 ≤ m → m + 3 * enodes F ≤ 20000000 → EV w 0 (markF m F) v → Calls Tryz.prog 88 #[v, .int .i64 mi] w fun e w' => e = .returned (.int .i64 ((m : Int) + 3 * (enodes F : Int))) ∧ Below w.heap.size w w'
  | 0, _, h, _, _, _, _, _, _, _, _ => absurd h (by omega)
  | n + 1, F, h, mi, m, w, v, hmi, h1, h2, hv => by subst hmi; exact heldExpS_step F (fun l hl mi m w v h0 h1 h2 hv => heldExpS_all n l (by omega) mi m w v h0 h1 h2 hv) m w v h1 h2 hv
set_option maxRecDepth 100000 in
theorem heldExp_is (x : X) (w : World) (v : Value) (hn : enodes x.l ≤ 5000000) (hv : EV w 0 (markF 1 x.l) v) :
    Calls Tryz.prog 31 #[.agg (xcells x v).toArray, .int .i64 1] w fun e w' => e = .returned (.int .i64 (1 + 3 * (enodes x.l : Int))) ∧ Below w.heap.size w w' := by
  have b0 := alloc_below w (.cells (xcells x v).toArray 33)
  have HV := Lib.hid (hv.later b0)
  have B0 := Lib.hid b0
  have C := Lib.hid (heldExpS_all _ x.l (Nat.lt_succ_self _) 1 1 _ v rfl (Nat.le_refl _) (by omega) HV.out)
  have hn0 : ¬ (1 : Int) + 3 * (enodes x.l : Int) < 0 := by omega
  clear b0 hv
  show Calls Tryz.prog 31 #[.agg #[.int .i64 x.h.k, .int .i64 x.h.n, .string x.h.s, v], .int .i64 1] w _
  go_enter Tryz.func31, Tryz.ntmps31
  go_wp2_with fail
  refine C.out.mono ?_
  rintro e w1 ⟨rfl, hb1⟩
  have B1 := Lib.hid (B0.out.trans (hb1.mono B0.out.size))
  clear hb1 C
  go_wp2
  go_ret
  exact ⟨rfl, B1.out⟩
end Go.Proofs.YtkhccpjkajhnpaaGreatDoor
/-
  Plain facts on signs: what a text is made of, and that signs come back of their own text: no Go in sight.
-/
namespace Go.Proofs.YtkhccpjkajhnpaaGreatDoor
open Go.Lib Go.RowKit

def marksL : List UInt8 := [59, 61, 91, 93, 40, 41, 123, 125, 43, 45, 42, 44]
def keptL : List (List UInt8) := [[97, 114, 114, 97, 121], [102, 111, 114], [116, 111], [112, 114, 105, 110, 116], [109, 105, 110], [109, 97, 120]]
/-- What a byte is: 0 a gap, 1 a letter, 2 a digit, 3 a mark, 4 none of these. -/
def kind (b : UInt8) : Nat :=
  if b.toNat = 32 ∨ b.toNat = 10 then 0 else if 97 ≤ b.toNat ∧ b.toNat ≤ 122 then 1 else if 48 ≤ b.toNat ∧ b.toNat ≤ 57 then 2 else if b ∈ marksL then 3 else 4
def goes (k : Nat) : Bool := k == 1 || k == 2
structure T where
  k : Int
  s : List UInt8
  n : Int
/-- The sign that a piece of one kind is, where it is one. -/
def tok (k : Nat) (p : List UInt8) : Option T :=
  if k = 1 then (if p ∈ keptL then some ⟨3, p, 0⟩ else if p.length ≤ 6 then some ⟨1, p, 0⟩ else none)
  else if k = 2 then (match parseNum p with | some n => if n ≤ 999999 then some ⟨2, [], n⟩ else none | none => none)
  else if k = 3 then some ⟨4, p, 0⟩
  else none
/-- The signs of what is left, where a piece p of kind k stands open; what is open at the end is dropped. -/
def pend : Nat → List UInt8 → List UInt8 → Option (List T)
  | _, _, [] => some []
  | k, p, b :: r =>
    if kind b = k ∧ goes k = true then pend k (p ++ [b]) r
    else if k = 0 then pend (kind b) [b] r
    else match tok k p with
      | some t => (match pend (kind b) [b] r with | some ts => some (t :: ts) | none => none)
      | none => none
def cut (done : List T) : Option (List T) → Option (List T)
  | some ts => if done.length + ts.length ≤ 600 then some (done ++ ts) else none
  | none => none
/-- What Lex answers of a text's bytes. -/
def lex (l : List UInt8) : Option (List T) := if 3000 < l.length then none else cut [] (pend 0 [] (l ++ [32]))
def nameOk (l : List UInt8) : Bool := decide (1 ≤ l.length) && decide (l.length ≤ 6) && l.all (fun b => kind b == 1) && !(keptL.contains l)

theorem kind_lt (b : UInt8) : kind b ≤ 4 := by unfold kind; repeat' split <;> try omega
theorem pend_gap (p r : List UInt8) : pend 0 p r = pend 0 [] r := by
  cases r with
  | nil => rfl
  | cons b r => simp [pend, goes]
theorem pend_start (p r : List UInt8) (b : UInt8) : pend 0 p (b :: r) = pend (kind b) [b] r := by simp [pend, goes]
theorem pend_on {k : Nat} (p r : List UInt8) {b : UInt8} (hk : kind b = k) (hg : goes k = true) : pend k p (b :: r) = pend k (p ++ [b]) r := by
  rw [pend, if_pos ⟨hk, hg⟩]
theorem pend_run {k : Nat} (hg : goes k = true) : ∀ (v p r : List UInt8), (∀ b ∈ v, kind b = k) → pend k p (v ++ r) = pend k (p ++ v) r
  | [], p, r, _ => by simp
  | b :: v, p, r, h => by
    rw [List.cons_append, pend_on _ _ (h b (by simp)) hg, pend_run hg v _ r (fun c hc => h c (by simp [hc]))]
    simp
def put (t : T) : Option (List T) → Option (List T)
  | some ts => some (t :: ts)
  | none => none
theorem pend_end {k : Nat} (p r : List UInt8) {b : UInt8} (h0 : k ≠ 0) (h : ¬ (kind b = k ∧ goes k = true)) :
    pend k p (b :: r) = match tok k p with | some t => put t (pend 0 [] (b :: r)) | none => none := by
  rw [pend, if_neg h, if_neg h0, pend_start]
  cases tok k p <;> rfl
theorem pend_other (p r : List UInt8) (b : UInt8) : pend 4 p (b :: r) = none := by
  simp [pend, goes, tok]
theorem cut_put {done : List T} {t : T} (o : Option (List T)) : cut done (put t o) = cut (done ++ [t]) o := by
  cases o with
  | none => rfl
  | some ts =>
    simp only [put, cut, List.length_cons, List.length_append, List.length_nil]
    by_cases h : done.length + (ts.length + 1) ≤ 600
    · rw [if_pos h, if_pos (by omega)]; simp
    · rw [if_neg h, if_neg (by omega)]
theorem cut_full {done : List T} {t : T} (h : done.length = 600) (o : Option (List T)) : cut done (put t o) = none := by
  cases o with
  | none => rfl
  | some ts => simp only [put, cut, List.length_cons]; rw [if_neg (by omega)]
theorem cut_nil {done : List T} (h : done.length ≤ 600) : cut done (some []) = some done := by
  simp only [cut, List.length_nil]; rw [if_pos (by omega)]; simp

/-! ### signs come back of their own text -/
def text1 (t : T) : List UInt8 := if t.k = 2 then itoa t.n else t.s
def textFrom : List T → List UInt8
  | [] => []
  | t :: ts => 32 :: (text1 t ++ textFrom ts)
def text : List T → List UInt8
  | [] => []
  | t :: ts => text1 t ++ textFrom ts
/-- A sign that a piece of one kind is, and its own text is that piece. -/
def Good (t : T) : Prop := ∃ k p, (k = 1 ∨ k = 2 ∨ k = 3) ∧ p ≠ [] ∧ (∀ b ∈ p, kind b = k) ∧ (goes k = true ∨ p.length = 1) ∧ tok k p = some t
theorem tok_text {k : Nat} {p : List UInt8} {t : T} (h : tok k p = some t) : text1 t = p := by
  unfold tok at h
  split at h
  · split at h
    · injection h with h; subst h; simp [text1]
    · split at h
      · injection h with h; subst h; simp [text1]
      · cases h
  · split at h
    · split at h
      · rename_i n hn
        split at h
        · injection h with h; subst h
          simp only [text1, if_true]
          rw [itoa_nonneg, (parseNum_some.1 hn).2]
        · cases h
      · cases h
    · split at h
      · injection h with h; subst h; simp [text1]
      · cases h
theorem pend_good : ∀ (r p : List UInt8) (k : Nat) (ts : List T), (k = 0 ∨ (p ≠ [] ∧ (∀ b ∈ p, kind b = k) ∧ (goes k = true ∨ p.length = 1))) → pend k p r = some ts → ∀ t ∈ ts, Good t
  | [], p, k, ts, _, h => by
    rw [pend] at h; injection h with h; subst h; intro t ht; cases ht
  | b :: r, p, k, ts, hp, h => by
    rw [pend] at h
    split at h
    · rename_i hk
      refine pend_good r (p ++ [b]) k ts ?_ h
      rcases hp with h0 | ⟨h1, h2, h3⟩
      · exact .inl h0
      · refine .inr ⟨by simp, ?_, .inl hk.2⟩
        intro c hc
        rcases List.mem_append.1 hc with hc | hc
        · exact h2 c hc
        · simp at hc; subst hc; exact hk.1
    · have hs : kind b = 0 ∨ ([b] ≠ [] ∧ (∀ c ∈ [b], kind c = kind b) ∧ (goes (kind b) = true ∨ [b].length = 1)) := .inr ⟨by simp, by intro c hc; simp at hc; subst hc; rfl, .inr rfl⟩
      split at h
      · exact pend_good r [b] (kind b) ts hs h
      · rename_i h0
        split at h
        · rename_i t ht
          split at h
          · rename_i ts' hts
            injection h with h; subst h
            intro u hu
            rcases List.mem_cons.1 hu with hu | hu
            · subst hu
              rcases hp with hp | ⟨h1, h2, h3⟩
              · exact absurd hp h0
              · refine ⟨k, p, ?_, h1, h2, h3, ht⟩
                by_cases e1 : k = 1
                · exact .inl e1
                · by_cases e2 : k = 2
                  · exact .inr (.inl e2)
                  · by_cases e3 : k = 3
                    · exact .inr (.inr e3)
                    · simp [tok, e1, e2, e3] at ht
            · exact pend_good r [b] (kind b) ts' hs hts u hu
          · cases h
        · cases h
theorem kind32 : kind 32 = 0 := by decide
/-- One good sign's text, and a blank behind. -/
theorem pend_text1 {t : T} (h : Good t) (r : List UInt8) : pend 0 [] (text1 t ++ 32 :: r) = put t (pend 0 [] r) := by
  obtain ⟨k, p, hk, hp, hall, hg, ht⟩ := h
  rw [tok_text ht]
  have hk0 : k ≠ 0 := by omega
  have hend : ∀ q, pend k q (32 :: r) = match tok k q with | some t => put t (pend 0 [] r) | none => none := by
    intro q
    rw [pend_end q r hk0 (by rw [kind32]; omega), pend_start, kind32, pend_gap]
  cases p with
  | nil => exact absurd rfl hp
  | cons b v =>
    have hb : kind b = k := hall b (by simp)
    rw [List.cons_append, pend_start, hb]
    rcases hg with hg | hg
    · rw [pend_run hg v [b] _ (fun c hc => hall c (by simp [hc])), hend]
      simp only [List.cons_append, List.nil_append, ht]
    · have : v = [] := by simpa using hg
      subst this
      rw [List.nil_append, hend, ht]
theorem pend_textFrom : ∀ (ts : List T), (∀ t ∈ ts, Good t) → pend 0 [] (textFrom ts ++ [32]) = some ts
  | [], _ => by simp [textFrom, pend_start, pend]
  | t :: ts, h => by
    have ih := pend_textFrom ts (fun u hu => h u (by simp [hu]))
    rw [textFrom, List.cons_append, pend_start, kind32, pend_gap, List.append_assoc]
    cases ts with
    | nil =>
      simp only [textFrom, List.nil_append]
      rw [pend_text1 (h t (by simp))]
      rfl
    | cons u us =>
      rw [textFrom, List.cons_append, pend_text1 (h t (by simp))]
      rw [textFrom, List.cons_append, pend_start, kind32, pend_gap] at ih
      rw [ih]
      rfl
theorem pend_text (ts : List T) (h : ∀ t ∈ ts, Good t) : pend 0 [] (text ts ++ [32]) = some ts := by
  cases ts with
  | nil => simp [text, pend_start, pend]
  | cons t ts =>
    have := pend_textFrom (t :: ts) h
    rw [textFrom, List.cons_append, pend_start, kind32, pend_gap] at this
    exact this
theorem lex_good {l : List UInt8} {ts : List T} (h : lex l = some ts) : (∀ t ∈ ts, Good t) ∧ ts.length ≤ 600 := by
  unfold lex at h
  split at h
  · cases h
  · cases hp : pend 0 [] (l ++ [32]) with
    | none => rw [hp] at h; cases h
    | some us =>
      rw [hp] at h
      simp only [cut, List.length_nil, List.nil_append] at h
      split at h
      · injection h with h; subst h
        exact ⟨pend_good _ _ _ _ (.inl rfl) hp, by omega⟩
      · cases h
/-- What is read of its own text is the list again, wherever that text is short enough. -/
theorem lex_text {ts : List T} (hg : ∀ t ∈ ts, Good t) (hn : ts.length ≤ 600) : lex (text ts) = if 3000 < (text ts).length then none else some ts := by
  unfold lex
  split
  · rfl
  · rw [pend_text ts hg]
    exact (by simp only [cut, List.length_nil, List.nil_append]; rw [if_pos (by omega)])
/-! ### runes of a text -/
theorem get_bang (s : ByteArray) (k : Nat) (h : k < s.size) : s.get! k = s[k]'h := by
  show s.data[k]! = _
  rw [getElem!_pos s.data k h]; rfl
/-- A rune of more than one byte ends ahead of a byte below 128 that is the last one. -/
theorem decode_inside (s : ByteArray) (pos : Nat) (h : pos < s.size) (hl : ∀ k, k + 1 = s.size → (s.get! k).toNat < 128) (hh : 128 ≤ (s.get! pos).toNat) : pos + (Utf8.decode s pos).2 < s.size := by
  have one : pos + 1 < s.size := by
    rcases Nat.lt_or_ge (pos + 1) s.size with h1 | h1
    · exact h1
    · have := hl pos (by omega); omega
  have more : ∀ k, (decide (pos + k < s.size) && (s.get! (pos + k)).toNat / 64 == 2) = true → pos + (k + 1) < s.size := by
    intro k hk
    simp only [Bool.and_eq_true, decide_eq_true_eq, beq_iff_eq] at hk
    rcases Nat.lt_or_ge (pos + k + 1) s.size with h1 | h1
    · exact h1
    · have := hl (pos + k) (by omega); omega
  unfold Utf8.decode
  simp only [Nat.add_zero]
  rw [if_neg (by omega)]
  split
  · rename_i hc
    rw [Bool.and_eq_true] at hc
    have := more 1 hc.2
    split <;> simp only <;> omega
  · split
    · rename_i hc
      rw [Bool.and_eq_true] at hc
      have := more 2 hc.2
      split <;> simp only <;> omega
    · split
      · rename_i hc
        rw [Bool.and_eq_true] at hc
        have := more 3 hc.2
        split <;> simp only <;> omega
      · simp only; omega
/-- A byte below 128 is its own rune. -/
theorem decode_low (s : ByteArray) (pos : Nat) (h : pos < s.size) (hk : (s[pos]'h).toNat < 128) : Utf8.decode s pos = ((s[pos]'h).toNat, 1) := decode_ascii s pos h hk
theorem kind_high {b : UInt8} (h : 128 ≤ b.toNat) : kind b = 4 := by
  unfold kind
  rw [if_neg (by omega), if_neg (by omega), if_neg (by omega), if_neg]
  intro hm
  simp only [marksL, List.mem_cons, List.not_mem_nil, or_false] at hm
  rcases hm with rfl | rfl | rfl | rfl | rfl | rfl | rfl | rfl | rfl | rfl | rfl | rfl <;> revert h <;> decide
theorem kind_low {b : UInt8} (h : kind b ≠ 4) : b.toNat < 128 := by
  rcases Nat.lt_or_ge b.toNat 128 with h1 | h1
  · exact h1
  · exact absurd (kind_high h1) h
end Go.Proofs.YtkhccpjkajhnpaaGreatDoor
