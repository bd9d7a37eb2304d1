/-
  Texts in one: MarkPlain, MarkTo, NumPlain, MarkText.
-/
import Derived.Test.YtfoghiminlbdaaaGreatP01ofRun
import Derived.RowKit
import Derived.Lib.Atoi
import Derived.Lib.AtoiAll
import Derived.Lib.AtoiAllCases
import Derived.Lib.AtoiTie
import Derived.Lib.ItoaNum
import Derived.Lib.ItoaMem
import Derived.Test.YtfoghiminlbdaaaGreatRows
import Derived.WalkKit
import Derived.WalkLawsBesides
import Derived.Lib.SmallJoins
import Derived.Lib.ItoaLen
import Derived.Below
import Derived.Lib.Hide
namespace Go.Proofs.YtfoghiminlbdaaaGreat
open Go.RowKit Go.Lib
set_option linter.unusedSimpArgs false
set_option linter.unusedVariables false
def rdF (w : World) (a : Addr) : Option Value := if w.frozen? a = true then Option.none else w.cell? a
theorem rdF_iff {w : World} {a : Addr} {v : Value} : rdF w a = some v ↔ w.frozen? a = false ∧ w.cell? a = some v := by
  unfold rdF
  cases h : w.frozen? a <;> simp
theorem keepsF {w w' : World} (hb : Below w.heap.size w w') {a : Addr} {v : Value} (h : rdF w a = some v) : rdF w' a = some v := by
  obtain ⟨h1, h2⟩ := rdF_iff.1 h
  refine rdF_iff.2 ⟨?_, keeps hb h2⟩
  have := hb.block a.block (lt_of_cellA h2)
  unfold World.frozen? at h1 ⊢
  simp only [this]; exact h1
def KeepsF (lo : Nat) (w w' : World) : Prop := ∀ (a : Addr) v, lo ≤ a.block → rdF w a = some v → rdF w' a = some v
theorem KeepsF.refl (lo : Nat) (w : World) : KeepsF lo w w := fun _ _ _ h => h
theorem KeepsF.trans {lo : Nat} {w w1 w2 : World} (h : KeepsF lo w w1) (g : KeepsF lo w1 w2) : KeepsF lo w w2 := fun a v hl hc => g a v hl (h a v hl hc)
theorem KeepsF.later {lo : Nat} {w w' : World} (hb : Below w.heap.size w w') : KeepsF lo w w' := fun _ _ _ hc => keepsF hb hc
theorem KeepsF.set {lo : Nat} (w : World) (p : Addr) (hg : p.block < lo) (u : Value) : KeepsF lo w (w.setCell p u) := fun a v hl hc => by
  obtain ⟨h1, h2⟩ := rdF_iff.1 hc
  exact rdF_iff.2 ⟨by simpa using h1, by rw [World.cell?_setCell_other _ _ _ _ (fun e => by subst e; omega)]; exact h2⟩
theorem KeepsF.sets {lo g : Nat} (hg : g < lo) : ∀ (vs : List Value) (w : World) (o : Nat), KeepsF lo w (w.setCells g o vs)
  | [], w, o => KeepsF.refl _ _
  | v :: vs, w, o => by rw [World.setCells]; exact (KeepsF.set w ⟨g, o, Option.none⟩ hg v).trans (KeepsF.sets hg vs _ _)
def rgF (w : World) (b o : Nat) (cs : List Value) : Prop := ∀ j v, cs[j]? = some v → rdF w ⟨b, o + j, Option.none⟩ = some v
theorem rgF_of {w : World} {b o n : Nat} {cs : List Value} (h : w.rangeAt b o cs) (t : w.there b o n) (hn : cs.length ≤ n) : rgF w b o cs := fun j v hj =>
  rdF_iff.2 ⟨(t j (Nat.lt_of_lt_of_le (List.getElem?_eq_some_iff.1 hj).1 hn)).2, h j v hj⟩
def EInF (w : World) (lo : Nat) : EF → Nat → Nat → Prop
  | .nil, _, _ => True
  | .node _ _ h l r, b, o =>
    (rdF w ⟨b, o, Option.none⟩ = some (.int .i64 h.k) ∧ rdF w ⟨b, o + 1, Option.none⟩ = some (.int .i64 h.n) ∧ rdF w ⟨b, o + 2, Option.none⟩ = some (.string h.s) ∧
      ∃ v, rdF w ⟨b, o + 3, Option.none⟩ = some v ∧ ∃ b' o' a' c', v = .slice a' (elen l) c' ∧ (a' = some ⟨b', o', Option.none⟩ ∨ l = .nil) ∧ lo ≤ b' ∧ EInF w lo l b' o') ∧ EInF w lo r b (o + 4)
def EVF (w : World) (lo : Nat) (F : EF) (v : Value) : Prop := ∃ b o a c, v = .slice a (elen F) c ∧ (a = some ⟨b, o, Option.none⟩ ∨ F = .nil) ∧ lo ≤ b ∧ EInF w lo F b o
def XCF (w : World) (lo : Nat) (x : X) (b o : Nat) : Prop :=
  rdF w ⟨b, o, Option.none⟩ = some (.int .i64 x.h.k) ∧ rdF w ⟨b, o + 1, Option.none⟩ = some (.int .i64 x.h.n) ∧ rdF w ⟨b, o + 2, Option.none⟩ = some (.string x.h.s) ∧
    ∃ v, rdF w ⟨b, o + 3, Option.none⟩ = some v ∧ EVF w lo x.l v
theorem EInF_node {w : World} {lo b o p q : Nat} {h : EH} {l r : EF} : EInF w lo (.node p q h l r) b o ↔ XCF w lo ⟨h, l⟩ b o ∧ EInF w lo r b (o + 4) := Iff.rfl
theorem EInF_same {w w' : World} {lo lo' : Nat} (hlo : lo' ≤ lo) (hs : ∀ (a : Addr) v, lo ≤ a.block → rdF w a = some v → rdF w' a = some v) : ∀ (F : EF) (b o : Nat), lo ≤ b → EInF w lo F b o → EInF w' lo' F b o
  | .nil, _, _, _, _ => trivial
  | .node _ _ h l r, b, o, hb, ⟨⟨h0, h1, h2, v, h3, b', o', a', c', e1, e2, e3, h4⟩, h5⟩ =>
    ⟨⟨hs _ _ hb h0, hs _ _ hb h1, hs _ _ hb h2, v, hs _ _ hb h3, b', o', a', c', e1, e2, Nat.le_trans hlo e3, EInF_same hlo hs l b' o' e3 h4⟩, EInF_same hlo hs r b _ hb h5⟩
theorem EVF.same {w w' : World} {lo lo' : Nat} {F : EF} {v : Value} (hlo : lo' ≤ lo) (h : EVF w lo F v) (hs : ∀ (a : Addr) v, lo ≤ a.block → rdF w a = some v → rdF w' a = some v) : EVF w' lo' F v := by
  obtain ⟨b, o, a, c, h1, h2, h3, h4⟩ := h
  exact ⟨b, o, a, c, h1, h2, Nat.le_trans hlo h3, EInF_same hlo hs F b o h3 h4⟩
theorem EVF.low {w : World} {lo : Nat} {F : EF} {v : Value} (h : EVF w lo F v) : EVF w 0 F v := h.same (Nat.zero_le _) fun _ _ _ h => h
theorem EVF.lower {w : World} {lo lo' : Nat} {F : EF} {v : Value} (h : EVF w lo F v) (hlo : lo' ≤ lo) : EVF w lo' F v := h.same hlo fun _ _ _ h => h
theorem EVF.later {w w' : World} {lo : Nat} {F : EF} {v : Value} (h : EVF w lo F v) (hb : Below w.heap.size w w') : EVF w' lo F v := h.same (Nat.le_refl _) fun _ _ _ hc => keepsF hb hc
theorem XCF.later {w w' : World} {lo : Nat} {x : X} {b o : Nat} (h : XCF w lo x b o) (hb : Below w.heap.size w w') : XCF w' lo x b o := by
  obtain ⟨h0, h1, h2, v, h3, h4⟩ := h
  exact ⟨keepsF hb h0, keepsF hb h1, keepsF hb h2, v, keepsF hb h3, h4.later hb⟩
theorem EVF.shape {w : World} {lo : Nat} {F : EF} {v : Value} (h : EVF w lo F v) : ∃ a c, v = .slice a (elen F) c := by
  obtain ⟨b, o, a, c, h1, _⟩ := h; exact ⟨a, c, h1⟩
theorem EVF.nil (w : World) (lo : Nat) (a : Option Addr) (c : Nat) : EVF w lo .nil (.slice a 0 c) := ⟨lo, 0, a, c, rfl, .inr rfl, Nat.le_refl _, trivial⟩
def SInF (w : World) (lo : Nat) : SF → Nat → Nat → Prop
  | .nil, _, _ => True
  | .node _ _ h l r, b, o =>
    (rdF w ⟨b, o, Option.none⟩ = some (.int .i64 h.k) ∧ rdF w ⟨b, o + 1, Option.none⟩ = some (.string h.s) ∧ XCF w lo h.x1 b (o + 2) ∧ XCF w lo h.x2 b (o + 6) ∧ XCF w lo h.x3 b (o + 10) ∧ XCF w lo h.x4 b (o + 14) ∧
      ∃ v, rdF w ⟨b, o + 18, Option.none⟩ = some v ∧ ∃ b' o' a' c', v = .slice a' (slen l) c' ∧ (a' = some ⟨b', o', Option.none⟩ ∨ l = .nil) ∧ lo ≤ b' ∧ SInF w lo l b' o') ∧ SInF w lo r b (o + 19)
def SVF (w : World) (lo : Nat) (F : SF) (v : Value) : Prop := ∃ b o a c, v = .slice a (slen F) c ∧ (a = some ⟨b, o, Option.none⟩ ∨ F = .nil) ∧ lo ≤ b ∧ SInF w lo F b o
def SCF (w : World) (lo : Nat) (h : SH) (l : SF) (b o : Nat) : Prop :=
  rdF w ⟨b, o, Option.none⟩ = some (.int .i64 h.k) ∧ rdF w ⟨b, o + 1, Option.none⟩ = some (.string h.s) ∧ XCF w lo h.x1 b (o + 2) ∧ XCF w lo h.x2 b (o + 6) ∧ XCF w lo h.x3 b (o + 10) ∧ XCF w lo h.x4 b (o + 14) ∧
      ∃ v, rdF w ⟨b, o + 18, Option.none⟩ = some v ∧ SVF w lo l v
theorem SInF_node {w : World} {lo b o p q : Nat} {h : SH} {l r : SF} : SInF w lo (.node p q h l r) b o ↔ SCF w lo h l b o ∧ SInF w lo r b (o + 19) := Iff.rfl
theorem XCF.same {w w' : World} {lo lo' : Nat} {x : X} {b o : Nat} (hlo : lo' ≤ lo) (hb : lo ≤ b) (h : XCF w lo x b o) (hs : ∀ (a : Addr) v, lo ≤ a.block → rdF w a = some v → rdF w' a = some v) : XCF w' lo' x b o := by
  obtain ⟨h0, h1, h2, v, h3, h4⟩ := h
  exact ⟨hs _ _ hb h0, hs _ _ hb h1, hs _ _ hb h2, v, hs _ _ hb h3, h4.same hlo hs⟩
theorem SInF_same {w w' : World} {lo lo' : Nat} (hlo : lo' ≤ lo) (hs : ∀ (a : Addr) v, lo ≤ a.block → rdF w a = some v → rdF w' a = some v) : ∀ (F : SF) (b o : Nat), lo ≤ b → SInF w lo F b o → SInF w' lo' F b o
  | .nil, _, _, _, _ => trivial
  | .node _ _ h l r, b, o, hb, ⟨⟨h0, h1, h2, h3, h4, h5, v, h6, b', o', a', c', e1, e2, e3, h7⟩, h8⟩ =>
    ⟨⟨hs _ _ hb h0, hs _ _ hb h1, h2.same hlo hb hs, h3.same hlo hb hs, h4.same hlo hb hs, h5.same hlo hb hs, v, hs _ _ hb h6, b', o', a', c', e1, e2, Nat.le_trans hlo e3, SInF_same hlo hs l b' o' e3 h7⟩, SInF_same hlo hs r b _ hb h8⟩
theorem SVF.same {w w' : World} {lo lo' : Nat} {F : SF} {v : Value} (hlo : lo' ≤ lo) (h : SVF w lo F v) (hs : ∀ (a : Addr) v, lo ≤ a.block → rdF w a = some v → rdF w' a = some v) : SVF w' lo' F v := by
  obtain ⟨b, o, a, c, h1, h2, h3, h4⟩ := h
  exact ⟨b, o, a, c, h1, h2, Nat.le_trans hlo h3, SInF_same hlo hs F b o h3 h4⟩
theorem SVF.low {w : World} {lo : Nat} {F : SF} {v : Value} (h : SVF w lo F v) : SVF w 0 F v := h.same (Nat.zero_le _) fun _ _ _ h => h
theorem SVF.lower {w : World} {lo lo' : Nat} {F : SF} {v : Value} (h : SVF w lo F v) (hlo : lo' ≤ lo) : SVF w lo' F v := h.same hlo fun _ _ _ h => h
theorem SVF.later {w w' : World} {lo : Nat} {F : SF} {v : Value} (h : SVF w lo F v) (hb : Below w.heap.size w w') : SVF w' lo F v := h.same (Nat.le_refl _) fun _ _ _ hc => keepsF hb hc
theorem SCF.later {w w' : World} {lo : Nat} {h : SH} {l : SF} {b o : Nat} (hc : SCF w lo h l b o) (hb : Below w.heap.size w w') : SCF w' lo h l b o := by
  obtain ⟨h0, h1, h2, h3, h4, h5, v, h6, h7⟩ := hc
  exact ⟨keepsF hb h0, keepsF hb h1, h2.later hb, h3.later hb, h4.later hb, h5.later hb, v, keepsF hb h6, h7.later hb⟩
theorem SVF.shape {w : World} {lo : Nat} {F : SF} {v : Value} (h : SVF w lo F v) : ∃ a c, v = .slice a (slen F) c := by
  obtain ⟨b, o, a, c, h1, _⟩ := h; exact ⟨a, c, h1⟩
theorem SVF.nil (w : World) (lo : Nat) (a : Option Addr) (c : Nat) : SVF w lo .nil (.slice a 0 c) := ⟨lo, 0, a, c, rfl, .inr rfl, Nat.le_refl _, trivial⟩
def ERowF (w : World) (lo : Nat) : EF → List Value → Prop
  | .nil, xs => xs = []
  | .node _ _ h l r, xs => ∃ v ys, xs = .int .i64 h.k :: .int .i64 h.n :: .string h.s :: v :: ys ∧ EVF w lo l v ∧ ERowF w lo r ys
theorem ERowF.length {w : World} {lo : Nat} : ∀ {F : EF} {xs : List Value}, ERowF w lo F xs → xs.length = elen F * 4
  | .nil, xs, h => by rw [h]; rfl
  | .node _ _ _ _ r, xs, ⟨v, ys, e, _, h⟩ => by have := ERowF.length h; subst e; simp only [List.length_cons, elen]; omega
theorem ERowF.app {w : World} {lo : Nat} : ∀ {P R : EF} {xs ys : List Value}, ERowF w lo P xs → ERowF w lo R ys → ERowF w lo (eapp P R) (xs ++ ys)
  | .nil, _, _, _, h, g => by rw [show _ = [] from h]; exact g
  | .node _ _ _ _ r, _, _, _, ⟨v, zs, e, hv, h⟩, g => ⟨v, _, by rw [e]; rfl, hv, ERowF.app h g⟩
theorem ERowF.one {w : World} {lo p q : Nat} {h : EH} {l : EF} {v : Value} (hv : EVF w lo l v) : ERowF w lo (.node p q h l .nil) [.int .i64 h.k, .int .i64 h.n, .string h.s, v] := ⟨v, [], rfl, hv, rfl⟩
theorem ERowF.same {w w' : World} {lo lo' : Nat} (hlo : lo' ≤ lo) (hs : ∀ (a : Addr) v, lo ≤ a.block → rdF w a = some v → rdF w' a = some v) : ∀ {F : EF} {xs : List Value}, ERowF w lo F xs → ERowF w' lo' F xs
  | .nil, _, h => h
  | .node _ _ _ _ r, _, ⟨v, zs, e, hv, h⟩ => ⟨v, zs, e, hv.same hlo hs, ERowF.same hlo hs h⟩
theorem ERowF.laid {w : World} {lo g : Nat} : ∀ {F : EF} {xs : List Value} (o : Nat), ERowF w lo F xs → (∀ j u, xs[j]? = some u → rdF w ⟨g, o + j, Option.none⟩ = some u) → EInF w lo F g o
  | .nil, _, _, _, _ => trivial
  | .node _ _ _ _ r, _, o, ⟨v, zs, e, hv, h⟩, hc => by
    subst e
    refine EInF_node.2 ⟨⟨hc 0 _ rfl, hc 1 _ rfl, hc 2 _ rfl, v, hc 3 _ rfl, hv⟩, ERowF.laid (o + 4) h fun j u hj => ?_⟩
    have := hc (j + 4) u (by simpa using hj)
    rwa [show o + (j + 4) = o + 4 + j by omega] at this
def SRowF (w : World) (lo : Nat) : SF → List Value → Prop
  | .nil, xs => xs = []
  | .node _ _ h l r, xs => ∃ v1 v2 v3 v4 v ys, xs = scells h v1 v2 v3 v4 v ++ ys ∧ EVF w lo h.x1.l v1 ∧ EVF w lo h.x2.l v2 ∧ EVF w lo h.x3.l v3 ∧ EVF w lo h.x4.l v4 ∧ SVF w lo l v ∧ SRowF w lo r ys
theorem SRowF.length {w : World} {lo : Nat} : ∀ {F : SF} {xs : List Value}, SRowF w lo F xs → xs.length = slen F * 19
  | .nil, xs, h => by rw [h]; rfl
  | .node _ _ _ _ r, xs, ⟨_, _, _, _, v, ys, e, _, _, _, _, _, h⟩ => by have := SRowF.length h; subst e; simp only [scells, xcells, List.length_cons, List.length_append, List.length_nil, slen]; omega
theorem SRowF.app {w : World} {lo : Nat} : ∀ {P R : SF} {xs ys : List Value}, SRowF w lo P xs → SRowF w lo R ys → SRowF w lo (sapp P R) (xs ++ ys)
  | .nil, _, _, _, h, g => by rw [show _ = [] from h]; exact g
  | .node _ _ _ _ r, _, _, _, ⟨v1, v2, v3, v4, v, zs, e, h1, h2, h3, h4, hv, h⟩, g => ⟨v1, v2, v3, v4, v, _, by rw [e, List.append_assoc], h1, h2, h3, h4, hv, SRowF.app h g⟩
theorem SRowF.one {w : World} {lo p q : Nat} {h : SH} {l : SF} {v1 v2 v3 v4 v : Value} (h1 : EVF w lo h.x1.l v1) (h2 : EVF w lo h.x2.l v2) (h3 : EVF w lo h.x3.l v3) (h4 : EVF w lo h.x4.l v4) (hv : SVF w lo l v) : SRowF w lo (.node p q h l .nil) (scells h v1 v2 v3 v4 v) :=
  ⟨v1, v2, v3, v4, v, [], by rw [List.append_nil], h1, h2, h3, h4, hv, rfl⟩
theorem SRowF.same {w w' : World} {lo lo' : Nat} (hlo : lo' ≤ lo) (hs : ∀ (a : Addr) v, lo ≤ a.block → rdF w a = some v → rdF w' a = some v) : ∀ {F : SF} {xs : List Value}, SRowF w lo F xs → SRowF w' lo' F xs
  | .nil, _, h => h
  | .node _ _ _ _ r, _, ⟨v1, v2, v3, v4, v, zs, e, h1, h2, h3, h4, hv, h⟩ => ⟨v1, v2, v3, v4, v, zs, e, h1.same hlo hs, h2.same hlo hs, h3.same hlo hs, h4.same hlo hs, hv.same hlo hs, SRowF.same hlo hs h⟩
theorem SRowF.laid {w : World} {lo g : Nat} : ∀ {F : SF} {xs : List Value} (o : Nat), SRowF w lo F xs → (∀ j u, xs[j]? = some u → rdF w ⟨g, o + j, Option.none⟩ = some u) → SInF w lo F g o
  | .nil, _, _, _, _ => trivial
  | .node _ _ _ _ r, _, o, ⟨v1, v2, v3, v4, v, zs, e, h1, h2, h3, h4, hv, h⟩, hc => by
    subst e
    have hx : ∀ (x : X) (u : Value) (i : Nat), EVF w lo x.l u → rdF w ⟨g, o + i, Option.none⟩ = some (.int .i64 x.h.k) → rdF w ⟨g, o + (i + 1), Option.none⟩ = some (.int .i64 x.h.n) → rdF w ⟨g, o + (i + 2), Option.none⟩ = some (.string x.h.s) → rdF w ⟨g, o + (i + 3), Option.none⟩ = some u → XCF w lo x g (o + i) :=
      fun x u i he a0 a1 a2 a3 => ⟨a0, by rw [Nat.add_assoc]; exact a1, by rw [Nat.add_assoc]; exact a2, u, by rw [Nat.add_assoc]; exact a3, he⟩
    refine SInF_node.2 ⟨⟨hc 0 _ rfl, hc 1 _ rfl, hx _ v1 2 h1 (hc 2 _ rfl) (hc 3 _ rfl) (hc 4 _ rfl) (hc 5 _ rfl), hx _ v2 6 h2 (hc 6 _ rfl) (hc 7 _ rfl) (hc 8 _ rfl) (hc 9 _ rfl), hx _ v3 10 h3 (hc 10 _ rfl) (hc 11 _ rfl) (hc 12 _ rfl) (hc 13 _ rfl), hx _ v4 14 h4 (hc 14 _ rfl) (hc 15 _ rfl) (hc 16 _ rfl) (hc 17 _ rfl), v, hc 18 _ rfl, hv⟩, SRowF.laid (o + 19) h fun j u hj => ?_⟩
    have := hc (j + 19) u (by simpa [scells, xcells] using hj)
    rwa [show o + (j + 19) = o + 19 + j by omega] at this
theorem EInF_lower {w : World} {lo lo' : Nat} (hlo : lo' ≤ lo) : ∀ (F : EF) (b o : Nat), EInF w lo F b o → EInF w lo' F b o
  | .nil, _, _, _ => trivial
  | .node _ _ h l r, b, o, hc => by
    obtain ⟨⟨h0, h1, h2, v, h3, h4⟩, h5⟩ := EInF_node.1 hc
    exact EInF_node.2 ⟨⟨h0, h1, h2, v, h3, h4.lower hlo⟩, EInF_lower hlo r b _ h5⟩
theorem XCF.lower {w : World} {lo lo' : Nat} {x : X} {b o : Nat} (hlo : lo' ≤ lo) (h : XCF w lo x b o) : XCF w lo' x b o := by
  obtain ⟨h0, h1, h2, v, h3, h4⟩ := h
  exact ⟨h0, h1, h2, v, h3, h4.lower hlo⟩
theorem SInF_lower {w : World} {lo lo' : Nat} (hlo : lo' ≤ lo) : ∀ (F : SF) (b o : Nat), SInF w lo F b o → SInF w lo' F b o
  | .nil, _, _, _ => trivial
  | .node _ _ h l r, b, o, hc => by
    obtain ⟨⟨h0, h1, h2, h3, h4, h5, v, h6, h7⟩, h8⟩ := SInF_node.1 hc
    exact SInF_node.2 ⟨⟨h0, h1, h2.lower hlo, h3.lower hlo, h4.lower hlo, h5.lower hlo, v, h6, h7.lower hlo⟩, SInF_lower hlo r b _ h8⟩
theorem EVF.laid {w : World} {lo g : Nat} {F : EF} {xs : List Value} (h : ERowF w lo F xs) (hr : rgF w g 0 xs) (c : Nat) (hlo : g ≤ lo) : EVF w g F (.slice (some ⟨g, 0, Option.none⟩) (elen F) c) :=
  ⟨g, 0, _, c, rfl, .inl rfl, Nat.le_refl _, EInF_lower hlo _ _ _ (ERowF.laid 0 h (by simpa [rgF] using hr))⟩
theorem SVF.laid {w : World} {lo g : Nat} {F : SF} {xs : List Value} (h : SRowF w lo F xs) (hr : rgF w g 0 xs) (c : Nat) (hlo : g ≤ lo) : SVF w g F (.slice (some ⟨g, 0, Option.none⟩) (slen F) c) :=
  ⟨g, 0, _, c, rfl, .inl rfl, Nat.le_refl _, SInF_lower hlo _ _ _ (SRowF.laid 0 h (by simpa [rgF] using hr))⟩
theorem EVF.isOne {w : World} {lo : Nat} {F : EF} {v : Value} (h : EVF w lo F v) : v.oneCell' = true := by obtain ⟨a, c, rfl⟩ := h.shape; rfl
theorem SVF.isOne {w : World} {lo : Nat} {F : SF} {v : Value} (h : SVF w lo F v) : v.oneCell' = true := by obtain ⟨a, c, rfl⟩ := h.shape; rfl
structure HVF (w : World) (lo : Nat) (h : SH) (v1 v2 v3 v4 : Value) : Prop where
  e1 : EVF w lo h.x1.l v1
  e2 : EVF w lo h.x2.l v2
  e3 : EVF w lo h.x3.l v3
  e4 : EVF w lo h.x4.l v4
theorem HVF.later {w w' : World} {lo : Nat} {h : SH} {v1 v2 v3 v4 : Value} (hv : HVF w lo h v1 v2 v3 v4) (hb : Below w.heap.size w w') : HVF w' lo h v1 v2 v3 v4 := ⟨hv.e1.later hb, hv.e2.later hb, hv.e3.later hb, hv.e4.later hb⟩
theorem HVF.lower {w : World} {lo lo' : Nat} {h : SH} {v1 v2 v3 v4 : Value} (hv : HVF w lo h v1 v2 v3 v4) (hlo : lo' ≤ lo) : HVF w lo' h v1 v2 v3 v4 := ⟨hv.e1.lower hlo, hv.e2.lower hlo, hv.e3.lower hlo, hv.e4.lower hlo⟩
theorem HVF.same {w w' : World} {lo lo' : Nat} {h : SH} {v1 v2 v3 v4 : Value} (hv : HVF w lo h v1 v2 v3 v4) (hlo : lo' ≤ lo) (hs : KeepsF lo w w') : HVF w' lo' h v1 v2 v3 v4 := ⟨hv.e1.same hlo hs, hv.e2.same hlo hs, hv.e3.same hlo hs, hv.e4.same hlo hs⟩
theorem EInF.plain {w : World} {lo : Nat} : ∀ (F : EF) (b o : Nat), EInF w lo F b o → EIn w lo F b o
  | .nil, _, _, _ => trivial
  | .node _ _ h l r, b, o, ⟨⟨h0, h1, h2, v, h3, b', o', a', c', e1, e2, e3, h4⟩, h5⟩ => ⟨⟨(rdF_iff.1 h0).2, (rdF_iff.1 h1).2, (rdF_iff.1 h2).2, v, (rdF_iff.1 h3).2, b', o', a', c', e1, e2, e3, EInF.plain l b' o' h4⟩, EInF.plain r b _ h5⟩
theorem EVF.plain {w : World} {lo : Nat} {F : EF} {v : Value} (h : EVF w lo F v) : EV w lo F v := by
  obtain ⟨b, o, a, c, h1, h2, h3, h4⟩ := h
  exact ⟨b, o, a, c, h1, h2, h3, EInF.plain F b o h4⟩
theorem XCF.plain {w : World} {lo : Nat} {x : X} {b o : Nat} (h : XCF w lo x b o) : XC w lo x b o := by
  obtain ⟨h0, h1, h2, v, h3, h4⟩ := h
  exact ⟨(rdF_iff.1 h0).2, (rdF_iff.1 h1).2, (rdF_iff.1 h2).2, v, (rdF_iff.1 h3).2, h4.plain⟩
theorem SInF.plain {w : World} {lo : Nat} : ∀ (F : SF) (b o : Nat), SInF w lo F b o → SIn w lo F b o
  | .nil, _, _, _ => trivial
  | .node _ _ h l r, b, o, ⟨⟨h0, h1, h2, h3, h4, h5, v, h6, b', o', a', c', e1, e2, e3, h7⟩, h8⟩ => ⟨⟨(rdF_iff.1 h0).2, (rdF_iff.1 h1).2, h2.plain, h3.plain, h4.plain, h5.plain, v, (rdF_iff.1 h6).2, b', o', a', c', e1, e2, e3, SInF.plain l b' o' h7⟩, SInF.plain r b _ h8⟩
theorem SVF.plain {w : World} {lo : Nat} {F : SF} {v : Value} (h : SVF w lo F v) : SV w lo F v := by
  obtain ⟨b, o, a, c, h1, h2, h3, h4⟩ := h
  exact ⟨b, o, a, c, h1, h2, h3, SInF.plain F b o h4⟩
theorem set5F {w w1 : World} {N : Nat} (hb : Below w.heap.size w w1) (hN : w.heap.size = N) (p x y z u : Value) : Below w.heap.size w (((((w1.setCell ⟨N + 2, 3, Option.none⟩ p).setCell ⟨N + 1, 0, Option.none⟩ x).setCell ⟨N + 1, 1, Option.none⟩ y).setCell ⟨N + 1, 2, Option.none⟩ z).setCell ⟨N + 1, 3, Option.none⟩ u) ∧
    KeepsF (w.heap.size + 3) w1 (((((w1.setCell ⟨N + 2, 3, Option.none⟩ p).setCell ⟨N + 1, 0, Option.none⟩ x).setCell ⟨N + 1, 1, Option.none⟩ y).setCell ⟨N + 1, 2, Option.none⟩ z).setCell ⟨N + 1, 3, Option.none⟩ u) := by
  subst hN
  exact ⟨((((hb.setCell (p := ⟨w.heap.size + 2, 3, Option.none⟩) (by simp) _).setCell (p := ⟨w.heap.size + 1, 0, Option.none⟩) (by simp) _).setCell (p := ⟨w.heap.size + 1, 1, Option.none⟩) (by simp) _).setCell (p := ⟨w.heap.size + 1, 2, Option.none⟩) (by simp) _).setCell (p := ⟨w.heap.size + 1, 3, Option.none⟩) (by simp) _,
    ((((KeepsF.set _ _ (by simp) _).trans (KeepsF.set _ _ (by simp) _)).trans (KeepsF.set _ _ (by simp) _)).trans (KeepsF.set _ _ (by simp) _)).trans (KeepsF.set _ _ (by simp) _)⟩
set_option maxHeartbeats 1000000 in
theorem toExpF_of (x : X)
    (ih : ∀ (w : World) (v : Value), EV w 0 x.l v → Calls Tryz.prog 189 #[v] w fun e w' => ∃ v', e = .returned v' ∧ EVF w' w.heap.size x.l v' ∧ Below w.heap.size w w')
    (w : World) (v : Value) (hv : EV w 0 x.l v) :
    Calls Tryz.prog 163 #[.agg #[.int .i64 x.h.k, .int .i64 x.h.n, .string x.h.s, v]] w fun e w' => ∃ v', e = .returned (.agg #[.int .i64 x.h.k, .int .i64 x.h.n, .string x.h.s, v']) ∧ EVF w' w.heap.size x.l v' ∧ Below w.heap.size w w' := by
  have Hih := hid ih
  clear ih
  obtain ⟨a, c, rfl⟩ := hv.shape
  have Hv := hid hv
  clear hv
  go_enter Tryz.func163, Tryz.ntmps163
  go_wp2_with fail
  have hb3 := ((alloc_below w (.cells #[.int .i64 x.h.k, .int .i64 x.h.n, .string x.h.s, .slice a (elen x.l) c] 162)).alloc (by simp) (.cells #[.int .i64 0, .int .i64 0, .string ⟨#[]⟩, .slice Option.none 0 0] 43)).alloc (by simp; omega) (.cells #[.int .i64 x.h.k, .int .i64 x.h.n, .string x.h.s, .slice Option.none 0 0] 43)
  obtain ⟨_, q1, q2⟩ := heap3 w (.cells #[.int .i64 x.h.k, .int .i64 x.h.n, .string x.h.s, .slice a (elen x.l) c] 162) (.cells #[.int .i64 0, .int .i64 0, .string ⟨#[]⟩, .slice Option.none 0 0] 43) (.cells #[.int .i64 x.h.k, .int .i64 x.h.n, .string x.h.s, .slice Option.none 0 0] 43)
  refine (Hih.out _ _ (Hv.out.later hb3)).mono ?_
  rintro e w1 ⟨v', rfl, hv', hb1⟩
  obtain ⟨a', c', rfl⟩ := hv'.shape
  have r1 := (hb1.block _ (by simp)).trans q1
  have r2 := (hb1.block _ (by simp)).trans q2
  have hb := hb3.trans (hb1.mono hb3.size)
  obtain ⟨⟨c0, c1, c2, c3⟩, f0, f1, f2, f3⟩ := blk4 r1
  obtain ⟨⟨d0, d1, d2, d3⟩, g0, g1, g2, g3⟩ := blk4 r2
  have Hv' := hid hv'
  have Hb := hid hb
  clear hb1 hb3 hv' q1 q2 r1 r2 hb
  go_wp2
  obtain ⟨hB, hK⟩ := set5F Hb.out rfl (.slice a' (elen x.l) c') (.int .i64 x.h.k) (.int .i64 x.h.n) (.string x.h.s) (.slice a' (elen x.l) c')
  refine bodyPost_ret (v := .agg #[.int .i64 x.h.k, .int .i64 x.h.n, .string x.h.s, .slice a' (elen x.l) c']) (by simp [results, Tryz.results163, go_sem, c0, c1, c2, c3]) rfl ⟨_, rfl, (Hv'.out.same (lo' := w.heap.size) (by simp; omega) (fun a v hl hc => hK a v (by simpa using hl) hc)), hB⟩
theorem ERowF.next {w w' : World} {lo g : Nat} {P : EF} {xs : List Value} {h : EH} {l : EF} {v : Value} (p q : Nat) (hP : ERowF w lo P xs) (hk : KeepsF lo w w') (hv : EVF w' lo l v) (hr : w'.rangeAt g 0 xs) (h4 : w'.rangeAt g (elen P * 4) [.int .i64 h.k, .int .i64 h.n, .string h.s, v]) :
    ERowF w' lo (eapp P (.node p q h l .nil)) (xs ++ [.int .i64 h.k, .int .i64 h.n, .string h.s, v]) ∧ w'.rangeAt g 0 (xs ++ [.int .i64 h.k, .int .i64 h.n, .string h.s, v]) :=
  ⟨(ERowF.same (Nat.le_refl _) hk hP).app (ERowF.one hv), rangeAt_app hr (by rw [hP.length, Nat.zero_add]; exact h4)⟩
set_option maxHeartbeats 400000 in
theorem toExpSF_step (F : EF) (hF : esize F ≤ 1048576)
    (ih : ∀ l : EF, enodes l < enodes F → esize l ≤ 1048576 → ∀ (w : World) (v : Value), EV w 0 l v → Calls Tryz.prog 189 #[v] w fun e w' => ∃ v', e = .returned v' ∧ EVF w' w.heap.size l v' ∧ Below w.heap.size w w')
    (w : World) (v : Value) (hv : EV w 0 F v) :
    Calls Tryz.prog 189 #[v] w fun e w' => ∃ v', e = .returned v' ∧ EVF w' w.heap.size F v' ∧ Below w.heap.size w w' := by
  have hn : elen F ≤ 1048576 := Nat.le_trans (Nat.le_trans (elen_le F) (enodes_le F)) hF
  obtain ⟨b, o, ao, cap, rfl, hao, _, hin⟩ := hv
  obtain ⟨i0, hi, hz0, hz1, hz2⟩ := info_parts infoIE
  have Hih := hid ih
  clear ih
  go_enter Tryz.func189, Tryz.ntmps189
  go_wp2_with (refine wpList_make_full _ rfl _ _ 41 rfl w.heap.size 43 i0 _ 4 Tryz.underlying41 hi hz0 hz1 .i64 .i64 _ _ (elen F) rfl rfl rfl rfl ?c1 ?c2 ?c3 ?_)
  case c1 => rw [hz2]; omega
  case c2 => unfold maxLen; omega
  case c3 => exact Nat.le_refl _
  intro w1 hown hgrow
  obtain ⟨cur, hcur, _, hcs, _⟩ := own_block hown
  have hbw : Below w.heap.size w w1 := (Below.refl _ w).grown hgrow (Nat.le_refl _) (fun k hk => by cases hk)
  have Hth : Hid (w1.there w.heap.size 0 (elen F * 4)) := blk_there hcur (by omega)
  have hsz : w.heap.size < w1.heap.size := (Array.getElem?_eq_some_iff.1 hcur).1
  clear hown hgrow hcur hcs
  go_wp2
  go_loopw [4] (fun i wr => ∃ (P R : EF) (xs : List Value), i = .int .i64 (elen P : Int) ∧ Hid (eapp P R = F ∧ enodes R ≤ enodes F ∧ esize R ≤ 1048576) ∧ EIn w 0 R b (o + elen P * 4) ∧ Hid (wr.there w.heap.size 0 (elen F * 4) ∧ ERowF wr (w.heap.size + 1) P xs ∧ wr.rangeAt w.heap.size 0 xs ∧ w.heap.size < wr.heap.size) ∧ Below w.heap.size w wr) (fun i _ => elen F - (RowKit.intOf i).toNat)
  case atStart => exact ⟨.nil, F, [], rfl, ⟨rfl, Nat.le_refl _, hF⟩, by simpa [elen] using hin, ⟨Hth.out, rfl, (fun j v hv => by simp at hv), hsz⟩, hbw⟩
  case round =>
    obtain ⟨P, R, xs, rfl, hr, hinR, hm, hbr⟩ := hrel
    obtain ⟨e1, e2, e3⟩ := hr.out
    have eL := congrArg elen e1
    rw [elen_app] at eL
    cases R with
    | nil =>
      have hk : ¬ (elen P : Int) < (elen F : Int) := by simp only [elen] at eL; omega
      rw [eapp_nil] at e1
      subst e1
      go_wp2
      go_ret
      exact ⟨_, rfl, EVF.laid hm.out.2.1 (rgF_of hm.out.2.2.1 hm.out.1 (Nat.le_of_eq hm.out.2.1.length)) _ (by omega), hbr⟩
    | node p q h l r =>
      have hlt : (elen P : Int) < (elen F : Int) := by simp only [elen] at eL; omega
      rcases hao with rfl | hnil
      · obtain ⟨⟨a0, a1, a2, u, a3, hu⟩, hinr⟩ := EIn_node.1 (EIn_later hbr _ _ _ hinR)
        have hinr0 := (EIn_node.1 hinR).2
        simp only [enodes] at e2
        simp only [esize] at e3
        have Hl := hid (fun w v => Hih.out l (by omega) (by omega) w v)
        have He : Hid (eapp (eapp P (.node p q h l .nil)) r = F ∧ enodes r ≤ enodes F ∧ esize r ≤ 1048576) := ⟨by rw [eapp_snoc]; exact e1, by omega, by omega⟩
        have HeL : Hid (elen P + (elen r + 1) = elen F) := eL
        clear hr hinR e1 e2 e3 hinr hin eL
        go_wp2_with fail
        refine (toExpF_of ⟨h, l⟩ Hl.out _ u hu).mono ?_
        rintro e w2 ⟨v', rfl, hv', hb2⟩
        obtain ⟨t1, t2, t3, t4⟩ := hm.out
        have t1' := there_later t1 hb2
        have hbw2 := hbr.trans (hb2.mono hbr.size)
        have ht4 : w2.there w.heap.size (elen P * 4) 4 := by have := there_part t1' (elen P * 4) 4 (by have := HeL.out; omega); rwa [Nat.zero_add] at this
        obtain ⟨a', c', rfl⟩ := hv'.shape
        clear a0 a1 a2 a3
        go_wp2_with (refine wpList_store_mid rfl 43 _ _ rfl _ _ _ rfl rfl ?ht sizeIE (all4 _ _ _ _ _ _) ?_)
        case ht => exact ht4
        have hks : KeepsF (w.heap.size + 1) w2 (w2.setCells w.heap.size (elen P * 4) [.int .i64 h.k, .int .i64 h.n, .string h.s, .slice a' (elen l) c']) := KeepsF.sets (by omega) _ _ _
        obtain ⟨n1, n2⟩ := ERowF.next p q t2 ((KeepsF.later hb2).trans hks) ((hv'.lower t4).same (Nat.le_refl _) hks) (World.rangeAt_setCells_apart (rangeAt_later t3 hb2) w.heap.size (elen P * 4) [.int .i64 h.k, .int .i64 h.n, .string h.s, .slice a' (elen l) c'] (.inr (.inl (by rw [t2.length]; omega)))) (World.rangeAt_setCells_same _ _ _ _ ht4)
        have n3 := World.there_setCells t1' w.heap.size (elen P * 4) [.int .i64 h.k, .int .i64 h.n, .string h.s, .slice a' (elen l) c']
        have n4 := below_sets [.int .i64 h.k, .int .i64 h.n, .string h.s, .slice a' (elen l) c'] (elen P * 4) hbw2 (Nat.le_refl _)
        have n5 : w.heap.size < (w2.setCells w.heap.size (elen P * 4) [.int .i64 h.k, .int .i64 h.n, .string h.s, .slice a' (elen l) c']).heap.size := by rw [size_sets]; exact Nat.lt_of_lt_of_le t4 hb2.size
        have hlen : elen (eapp P (.node p q h l .nil)) = elen P + 1 := by rw [elen_app]; rfl
        have N := hid (And.intro n1 (And.intro n2 (And.intro n3 (And.intro n5 hlen))))
        clear t1 t2 t3 t1' ht4 hv' hb2 hbw2 hks n1 n2 n3 n5 hlen hm hbr
        go_wp2
        go_roundw
        case rel =>
          obtain ⟨n1, n2, n3, n5, hlen⟩ := N.out
          exact ⟨eapp P (.node p q h l .nil), r, _, by rw [hlen]; go_num, He.out, by rw [hlen, show o + (elen P + 1) * 4 = o + elen P * 4 + 4 by omega]; exact hinr0, ⟨n3, n1, n2, n5⟩, n4⟩
        case measure => simp [RowKit.intOf]; omega
      · subst hnil; simp only [elen] at eL; omega
theorem toExpSF_all : ∀ (n : Nat) (F : EF), enodes F < n → esize F ≤ 1048576 → ∀ (w : World) (v : Value), EV w 0 F v → Calls Tryz.prog 189 #[v] w fun e w' => ∃ v', e = .returned v' ∧ EVF w' w.heap.size F v' ∧ Below w.heap.size w w'
  | 0, _, h, _, _, _, _ => absurd h (by omega)
  | n + 1, F, h, hF, w, v, hv => toExpSF_step F hF (fun l hl hk w v a => toExpSF_all n l (by omega) hk w v a) w v hv
theorem toExpSF_is (F : EF) (hF : esize F ≤ 1048576) (w : World) (v : Value) (hv : EV w 0 F v) :
    Calls Tryz.prog 189 #[v] w fun e w' => ∃ v', e = .returned v' ∧ EVF w' w.heap.size F v' ∧ Below w.heap.size w w' := toExpSF_all _ F (Nat.lt_succ_self _) hF w v hv
theorem toExpF_is (x : X) (hx : xsize x ≤ 1048576) (w : World) (v : Value) (hv : EV w 0 x.l v) :
    Calls Tryz.prog 163 #[.agg #[.int .i64 x.h.k, .int .i64 x.h.n, .string x.h.s, v]] w fun e w' => ∃ v', e = .returned (.agg #[.int .i64 x.h.k, .int .i64 x.h.n, .string x.h.s, v']) ∧ EVF w' w.heap.size x.l v' ∧ Below w.heap.size w w' :=
  toExpF_of x (fun w v a => toExpSF_is x.l (by unfold xsize at hx; omega) w v a) w v hv
structure GotF (w : World) (N o : Nat) (x : X) (u : Value) : Prop where
  rg : w.rangeAt (N + 2) o (xcells x u)
  ev : EVF w (N + 3) x.l u
theorem GotF.later {w w' : World} {N o : Nat} {x : X} {u : Value} (g : GotF w N o x u) (hb : Below w.heap.size w w') : GotF w' N o x u := ⟨rangeAt_later g.rg hb, g.ev.later hb⟩
theorem GotF.sets {w W : World} {N o o' : Nat} {x : X} {u : Value} {vs : List Value} (g : GotF w N o x u) (ho : o + 4 ≤ o') (hW : w.setCells (N + 2) o' vs = W) : GotF W N o x u := by
  subst hW
  exact ⟨World.rangeAt_setCells_apart g.rg _ _ _ (.inr (.inl ho)), g.ev.same (Nat.le_refl _) (KeepsF.sets (by omega) _ _ _)⟩
theorem GotF.new {w W : World} {N o lo : Nat} {x : X} {u : Value} (ht : w.there (N + 2) o 4) (hu : EVF w lo x.l u) (hlo : N + 3 ≤ lo) (hW : w.setCells (N + 2) o (xcells x u) = W) : GotF W N o x u := by
  subst hW
  exact ⟨World.rangeAt_setCells_same _ _ _ _ ht, (hu.lower hlo).same (Nat.le_refl _) (KeepsF.sets (by omega) _ _ _)⟩
set_option maxHeartbeats 2000000 in
set_option maxRecDepth 100000 in
theorem toStmtF_of (h : SH) (l : SF) (k1 : xsize h.x1 ≤ 1048576) (k2 : xsize h.x2 ≤ 1048576) (k3 : xsize h.x3 ≤ 1048576) (k4 : xsize h.x4 ≤ 1048576)
    (ih : ∀ (w : World) (v : Value), SV w 0 l v → Calls Tryz.prog 58 #[v] w fun e w' => ∃ v', e = .returned v' ∧ SVF w' w.heap.size l v' ∧ Below w.heap.size w w')
    (w : World) (v1 v2 v3 v4 v : Value) (hv : HV w 0 h v1 v2 v3 v4) (hl : SV w 0 l v) :
    Calls Tryz.prog 114 #[sagg h v1 v2 v3 v4 v] w fun e w' => ∃ u1 u2 u3 u4 u, e = .returned (sagg h u1 u2 u3 u4 u) ∧ HVF w' w.heap.size h u1 u2 u3 u4 ∧ SVF w' w.heap.size l u ∧ Below w.heap.size w w' := by
  have Hih := hid ih
  have Hv := hid hv
  have Hl := hid hl
  have M0 := hid (Mid.start w h l v1 v2 v3 v4 v)
  clear ih hv hl
  go_enter Tryz.func114, Tryz.ntmps114
  go_wp2_with fail
  refine (toExpF_is h.x1 k1 _ v1 (Hv.out.e1.later M0.out.low)).mono ?_
  rintro e w1 ⟨u1, rfl, hu1, hb1⟩
  have m1 := M0.out.later hb1
  have o1 := hu1.isOne
  have hlo1 := M0.out.size
  go_wp2_with (first | (refine store_abs rfl 43 _ _ rfl _ _ _ rfl rfl ?ht1 sizeIE ?ho1 ?_; exact (m1.there4 2 (by omega)); exact (oneX h.x1 u1 o1); intro W1 hW; have M1 := hid (m1.at 2 (by omega) hW); have G1 := hid (GotF.new (x := h.x1) (m1.there4 2 (by omega)) hu1 hlo1 hW); have Ho1 := hid o1; clear hW m1 hu1 hb1 o1 hlo1 M0) | (refine wpList_load_mid rfl 162 _ rfl w.heap.size 6 rfl _ _ M1.out.x2 Tryz.underlying162 rfl sizeLE ?_))
  refine (toExpF_is h.x2 k2 _ v2 (Hv.out.e2.later M1.out.low)).mono ?_
  rintro e w2 ⟨u2, rfl, hu2, hb2⟩
  have m2 := M1.out.later hb2
  have o2 := hu2.isOne
  have hlo2 := M1.out.size
  have G1 := hid (G1.out.later hb2)
  go_wp2_with (first | (refine store_abs rfl 43 _ _ rfl _ _ _ rfl rfl ?ht2 sizeIE ?ho2 ?_; exact (m2.there4 6 (by omega)); exact (oneX h.x2 u2 o2); intro W2 hW; have M2 := hid (m2.at 6 (by omega) hW); have G2 := hid (GotF.new (x := h.x2) (m2.there4 6 (by omega)) hu2 hlo2 hW); have G1 := hid (G1.out.sets (o' := 6) (by omega) hW); have Ho2 := hid o2; clear hW m2 hu2 hb2 o2 hlo2 M1) | (refine wpList_load_mid rfl 162 _ rfl w.heap.size 10 rfl _ _ M2.out.x3 Tryz.underlying162 rfl sizeLE ?_))
  refine (toExpF_is h.x3 k3 _ v3 (Hv.out.e3.later M2.out.low)).mono ?_
  rintro e w3 ⟨u3, rfl, hu3, hb3⟩
  have m3 := M2.out.later hb3
  have o3 := hu3.isOne
  have hlo3 := M2.out.size
  have G1 := hid (G1.out.later hb3)
  have G2 := hid (G2.out.later hb3)
  go_wp2_with (first | (refine store_abs rfl 43 _ _ rfl _ _ _ rfl rfl ?ht3 sizeIE ?ho3 ?_; exact (m3.there4 10 (by omega)); exact (oneX h.x3 u3 o3); intro W3 hW; have M3 := hid (m3.at 10 (by omega) hW); have G3 := hid (GotF.new (x := h.x3) (m3.there4 10 (by omega)) hu3 hlo3 hW); have G1 := hid (G1.out.sets (o' := 10) (by omega) hW); have G2 := hid (G2.out.sets (o' := 10) (by omega) hW); have Ho3 := hid o3; clear hW m3 hu3 hb3 o3 hlo3 M2) | (refine wpList_load_mid rfl 162 _ rfl w.heap.size 14 rfl _ _ M3.out.x4 Tryz.underlying162 rfl sizeLE ?_))
  refine (toExpF_is h.x4 k4 _ v4 (Hv.out.e4.later M3.out.low)).mono ?_
  rintro e w4 ⟨u4, rfl, hu4, hb4⟩
  have m4 := M3.out.later hb4
  have o4 := hu4.isOne
  have hlo4 := M3.out.size
  have G1 := hid (G1.out.later hb4)
  have G2 := hid (G2.out.later hb4)
  have G3 := hid (G3.out.later hb4)
  go_wp2_with (first | (refine store_abs rfl 43 _ _ rfl _ _ _ rfl rfl ?ht4 sizeIE ?ho4 ?_; exact (m4.there4 14 (by omega)); exact (oneX h.x4 u4 o4); intro W4 hW; have M4 := hid (m4.at 14 (by omega) hW); have G4 := hid (GotF.new (x := h.x4) (m4.there4 14 (by omega)) hu4 hlo4 hW); have G1 := hid (G1.out.sets (o' := 14) (by omega) hW); have G2 := hid (G2.out.sets (o' := 14) (by omega) hW); have G3 := hid (G3.out.sets (o' := 14) (by omega) hW); have Ho4 := hid o4; clear hW m4 hu4 hb4 o4 hlo4 M3; have cb := M4.out.vb) )
  refine (Hih.out _ v (Hl.out.later M4.out.low)).mono ?_
  rintro e w5 ⟨u, rfl, hu, hb5⟩
  have m5 := M4.out.later hb5
  obtain ⟨⟨x18, c18⟩, f18⟩ := m5.cell18
  have Ho5 := hid hu.isOne
  have M5 := hid (m5.sets 18 (by omega) [u])
  have ks : KeepsF (w.heap.size + 3) w5 (w5.setCells (w.heap.size + 2) 18 [u]) := KeepsF.sets (by omega) _ _ _
  have D5 : Hid ((w5.setCells (w.heap.size + 2) 18 [u]).rangeAt (w.heap.size + 2) 18 [u] ∧ SVF (w5.setCells (w.heap.size + 2) 18 [u]) (w.heap.size + 3) l u) := ⟨World.rangeAt_setCells_same _ _ _ _ (by have := there_part m5.th2 18 1 (by omega); rwa [Nat.zero_add] at this), (hu.lower M4.out.size).same (Nat.le_refl _) ks⟩
  have G1 := hid ((G1.out.later hb5).sets (o' := 18) (vs := [u]) (by omega) rfl)
  have G2 := hid ((G2.out.later hb5).sets (o' := 18) (vs := [u]) (by omega) rfl)
  have G3 := hid ((G3.out.later hb5).sets (o' := 18) (vs := [u]) (by omega) rfl)
  have G4 := hid ((G4.out.later hb5).sets (o' := 18) (vs := [u]) (by omega) rfl)
  obtain ⟨a5, c5, rfl⟩ := hu.shape
  have RG := hid (join19 M5.out.top G1.out.rg G2.out.rg G3.out.rg G4.out.rg D5.out.1)
  have HN : Hid (HVF (w5.setCells (w.heap.size + 2) 18 [.slice a5 (slen l) c5]) (w.heap.size + 3) h u1 u2 u3 u4 ∧ SVF (w5.setCells (w.heap.size + 2) 18 [.slice a5 (slen l) c5]) (w.heap.size + 3) l (.slice a5 (slen l) c5)) := ⟨⟨G1.out.ev, G2.out.ev, G3.out.ev, G4.out.ev⟩, D5.out.2⟩
  clear hu hb5 m5 ks M4 cb G1 G2 G3 G4 D5
  go_wp2_with (first | (refine wpList_load_mid rfl 119 _ rfl (w.heap.size + 2) 0 rfl _ _ RG.out Tryz.underlying119 rfl sizeIS ?_) | (refine store_abs rfl 119 _ _ rfl _ _ _ rfl rfl ?ht9 sizeIS ?ho9 ?_; exact M5.out.th1; exact (oneS h u1 u2 u3 u4 _ Ho1.out Ho2.out Ho3.out Ho4.out Ho5.out); intro W hW))
  have ks : KeepsF (w.heap.size + 3) (w5.setCells (w.heap.size + 2) 18 [.slice a5 (slen l) c5]) W := by rw [← hW]; exact KeepsF.sets (by omega) _ _ _
  have rg : W.rangeAt (w.heap.size + 1) 0 (scells h u1 u2 u3 u4 (.slice a5 (slen l) c5)) := by rw [← hW]; exact World.rangeAt_setCells_same _ _ _ _ M5.out.th1
  have hB : Below w.heap.size w W := by rw [← hW]; exact below_sets _ 0 M5.out.low (Nat.le_succ w.heap.size)
  obtain ⟨⟨g1, g2, g3, g4⟩, g5⟩ := HN.out
  have hlv := run_loadVar_mid W (w.heap.size + 1) 0 _ _ _ rg Tryz.underlying119 rfl sizeIS
  refine bodyPost_ret (v := sagg h u1 u2 u3 u4 (.slice a5 (slen l) c5)) ?_ rfl ⟨u1, u2, u3, u4, _, rfl, ⟨g1.same (by omega) ks, g2.same (by omega) ks, g3.same (by omega) ks, g4.same (by omega) ks⟩, g5.same (by omega) ks, hB⟩
  simp [results, Tryz.results114, asAddr, hlv]
  rfl
theorem SRowF.next {w w' : World} {lo g : Nat} {P : SF} {xs : List Value} {h : SH} {l : SF} {v1 v2 v3 v4 v : Value} (p q : Nat) (hP : SRowF w lo P xs) (hk : KeepsF lo w w') (h1 : HVF w' lo h v1 v2 v3 v4) (hv : SVF w' lo l v) (hr : w'.rangeAt g 0 xs) (h4 : w'.rangeAt g (slen P * 19) (scells h v1 v2 v3 v4 v)) :
    SRowF w' lo (sapp P (.node p q h l .nil)) (xs ++ scells h v1 v2 v3 v4 v) ∧ w'.rangeAt g 0 (xs ++ scells h v1 v2 v3 v4 v) :=
  ⟨(SRowF.same (Nat.le_refl _) hk hP).app (SRowF.one h1.e1 h1.e2 h1.e3 h1.e4 hv), rangeAt_app hr (by rw [hP.length, Nat.zero_add]; exact h4)⟩
set_option maxHeartbeats 1000000 in
set_option maxRecDepth 100000 in
theorem toStmtSF_step (F : SF) (hF : ssize F ≤ 1048576)
    (ih : ∀ l : SF, snodes l < snodes F → ssize l ≤ 1048576 → ∀ (w : World) (v : Value), SV w 0 l v → Calls Tryz.prog 58 #[v] w fun e w' => ∃ v', e = .returned v' ∧ SVF w' w.heap.size l v' ∧ Below w.heap.size w w')
    (w : World) (v : Value) (hv : SV w 0 F v) :
    Calls Tryz.prog 58 #[v] w fun e w' => ∃ v', e = .returned v' ∧ SVF w' w.heap.size F v' ∧ Below w.heap.size w w' := by
  have hn : slen F ≤ 1048576 := Nat.le_trans (Nat.le_trans (slen_le F) (snodes_le F)) hF
  obtain ⟨b, o, ao, cap, rfl, hao, _, hin⟩ := hv
  obtain ⟨i0, hi, hz0, hz1, hz2⟩ := info_parts infoIS
  have Hih := hid ih
  clear ih
  go_enter Tryz.func58, Tryz.ntmps58
  go_wp2_with (refine wpList_make_full _ rfl _ _ 25 rfl w.heap.size 119 i0 _ 19 Tryz.underlying25 hi hz0 hz1 .i64 .i64 _ _ (slen F) rfl rfl rfl rfl ?c1 ?c2 ?c3 ?_)
  case c1 => rw [hz2]; omega
  case c2 => unfold maxLen; omega
  case c3 => exact Nat.le_refl _
  intro w1 hown hgrow
  obtain ⟨cur, hcur, _, hcs, _⟩ := own_block hown
  have hbw : Below w.heap.size w w1 := (Below.refl _ w).grown hgrow (Nat.le_refl _) (fun k hk => by cases hk)
  have Hth : Hid (w1.there w.heap.size 0 (slen F * 19)) := blk_there hcur (by omega)
  have hsz : w.heap.size < w1.heap.size := (Array.getElem?_eq_some_iff.1 hcur).1
  clear hown hgrow hcur hcs
  go_wp2
  go_loopw [4] (fun i wr => ∃ (P R : SF) (xs : List Value), i = .int .i64 (slen P : Int) ∧ Hid (sapp P R = F ∧ snodes R ≤ snodes F ∧ ssize R ≤ 1048576) ∧ SIn w 0 R b (o + slen P * 19) ∧ Hid (wr.there w.heap.size 0 (slen F * 19) ∧ SRowF wr (w.heap.size + 1) P xs ∧ wr.rangeAt w.heap.size 0 xs ∧ w.heap.size < wr.heap.size) ∧ Below w.heap.size w wr) (fun i _ => slen F - (RowKit.intOf i).toNat)
  case atStart => exact ⟨.nil, F, [], rfl, ⟨rfl, Nat.le_refl _, hF⟩, by simpa [slen] using hin, ⟨Hth.out, rfl, (fun j v hv => by simp at hv), hsz⟩, hbw⟩
  case round =>
    obtain ⟨P, R, xs, rfl, hr, hinR, hm, hbr⟩ := hrel
    obtain ⟨e1, e2, e3⟩ := hr.out
    have eL := congrArg slen e1
    rw [slen_app] at eL
    cases R with
    | nil =>
      have hk : ¬ (slen P : Int) < (slen F : Int) := by simp only [slen] at eL; omega
      rw [sapp_nil] at e1
      subst e1
      go_wp2
      go_ret
      exact ⟨_, rfl, SVF.laid hm.out.2.1 (rgF_of hm.out.2.2.1 hm.out.1 (Nat.le_of_eq hm.out.2.1.length)) _ (by omega), hbr⟩
    | node p q h l r =>
      have hlt : (slen P : Int) < (slen F : Int) := by simp only [slen] at eL; omega
      rcases hao with rfl | hnil
      · obtain ⟨hsc, hinr⟩ := SIn_node.1 (SIn_later hbr _ _ _ hinR)
        obtain ⟨v1, v2, v3, v4, u, hu, hul, hrg⟩ := hsc.range
        have Hrg := hid hrg
        have hinr0 := (SIn_node.1 hinR).2
        simp only [snodes] at e2
        simp only [ssize, hsize] at e3
        have Hl := hid (fun w v => Hih.out l (by omega) (by omega) w v)
        have He : Hid (sapp (sapp P (.node p q h l .nil)) r = F ∧ snodes r ≤ snodes F ∧ ssize r ≤ 1048576) := ⟨by rw [sapp_snoc]; exact e1, by omega, by omega⟩
        have HeL : Hid (slen P + (slen r + 1) = slen F) := eL
        have k1 : xsize h.x1 ≤ 1048576 := by omega
        have k2 : xsize h.x2 ≤ 1048576 := by omega
        have k3 : xsize h.x3 ≤ 1048576 := by omega
        have k4 : xsize h.x4 ≤ 1048576 := by omega
        clear hr hinR e1 e2 e3 hinr hin eL hsc hrg
        go_wp2_with (refine wpList_load_mid rfl 164 _ rfl b (o + slen P * 19) rfl _ _ Hrg.out Tryz.underlying164 rfl sizeLS ?_)
        refine (toStmtF_of h l k1 k2 k3 k4 Hl.out _ v1 v2 v3 v4 u hu hul).mono ?_
        rintro e w2 ⟨y1, y2, y3, y4, y, rfl, hy, hyl, hb2⟩
        obtain ⟨t1, t2, t3, t4⟩ := hm.out
        have t1' := there_later t1 hb2
        have hbw2 := hbr.trans (hb2.mono hbr.size)
        have ht4 : w2.there w.heap.size (slen P * 19) 19 := by have := there_part t1' (slen P * 19) 19 (by have := HeL.out; omega); rwa [Nat.zero_add] at this
        have o1 := hy.e1.isOne
        have o2 := hy.e2.isOne
        have o3 := hy.e3.isOne
        have o4 := hy.e4.isOne
        have o5 := hyl.isOne
        have HT : Hid (SRowF wr (w.heap.size + 1) P xs ∧ wr.rangeAt w.heap.size 0 xs) := ⟨t2, t3⟩
        clear Hrg hu hul k1 k2 k3 k4 Hl t2 t3
        have T4 := hid t4
        have HB2 := hid hb2
        have HBW := hid hbw2
        have HY := hid (And.intro hy hyl)
        have T1 := hid t1'
        clear hy hyl hb2 hbw2 t1' t1 t4
        go_wp2_with (refine store_abs rfl 119 _ _ rfl _ _ _ rfl rfl ?ht sizeIS ?ho ?_; exact ht4; exact (oneS h y1 y2 y3 y4 y o1 o2 o3 o4 o5); intro W hW; have HW := hid hW; clear hW)
        have hW := HW.out
        have t4 := T4.out
        have hb2 := HB2.out
        have hks : KeepsF (w.heap.size + 1) w2 W := by rw [← hW]; exact KeepsF.sets (by omega) _ _ _
        have N12 := SRowF.next (g := w.heap.size) (w' := W) p q HT.out.1 ((KeepsF.later hb2).trans hks) ((HY.out.1.lower t4).same (Nat.le_refl _) hks) ((HY.out.2.lower t4).same (Nat.le_refl _) hks) (by rw [← hW]; exact World.rangeAt_setCells_apart (rangeAt_later HT.out.2 hb2) w.heap.size (slen P * 19) _ (.inr (.inl (by rw [HT.out.1.length]; omega)))) (by rw [← hW]; exact World.rangeAt_setCells_same w2 w.heap.size (slen P * 19) (scells h y1 y2 y3 y4 y) ht4)
        have n3 : W.there w.heap.size 0 (slen F * 19) := by rw [← hW]; exact World.there_setCells T1.out _ _ _
        have n4 : Below w.heap.size w W := by rw [← hW]; exact below_sets _ _ HBW.out (Nat.le_refl _)
        have n5 : w.heap.size < W.heap.size := by rw [← hW, size_sets]; exact Nat.lt_of_lt_of_le t4 hb2.size
        have hlen : slen (sapp P (.node p q h l .nil)) = slen P + 1 := by rw [slen_app]; rfl
        go_roundw
        case rel =>
          exact ⟨sapp P (.node p q h l .nil), r, _, by rw [hlen]; go_num, He.out, by rw [hlen, show o + (slen P + 1) * 19 = o + slen P * 19 + 19 by omega]; exact hinr0, ⟨n3, N12.1, N12.2, n5⟩, n4⟩
        case measure => simp [RowKit.intOf]; omega
      · subst hnil; simp only [slen] at eL; omega
theorem toStmtSF_all : ∀ (n : Nat) (F : SF), snodes F < n → ssize F ≤ 1048576 → ∀ (w : World) (v : Value), SV w 0 F v → Calls Tryz.prog 58 #[v] w fun e w' => ∃ v', e = .returned v' ∧ SVF w' w.heap.size F v' ∧ Below w.heap.size w w'
  | 0, _, h, _, _, _, _ => absurd h (by omega)
  | n + 1, F, h, hF, w, v, hv => toStmtSF_step F hF (fun l hl hk w v a => toStmtSF_all n l (by omega) hk w v a) w v hv
theorem toStmtSF_is (F : SF) (hF : ssize F ≤ 1048576) (w : World) (v : Value) (hv : SV w 0 F v) :
    Calls Tryz.prog 58 #[v] w fun e w' => ∃ v', e = .returned v' ∧ SVF w' w.heap.size F v' ∧ Below w.heap.size w w' := toStmtSF_all _ F (Nat.lt_succ_self _) hF w v hv
end Go.Proofs.YtfoghiminlbdaaaGreat
namespace Go.Proofs.YtfoghiminlbdaaaGreat
open Go.Lib Go.RowKit
set_option linter.unusedSimpArgs false
set_option linter.unusedVariables false
theorem wrap32_bd (n : Int) : -2147483648 ≤ wrap32 n ∧ wrap32 n ≤ 2147483647 := by unfold wrap32; omega
theorem decDigits_last (u : Nat) : decDigits u = (if u / 10 = 0 then [] else decDigits (u / 10)) ++ [UInt8.ofNat (48 + u % 10)] := by
  by_cases h : u < 10
  · rw [decDigits, dif_pos h, if_pos (by omega), Nat.mod_eq_of_lt h]; rfl
  · rw [decDigits, dif_neg h, if_neg (by omega)]
def Digs (n u : Nat) (t : List UInt8) : Prop := decDigits n = (if u = 0 then [] else decDigits u) ++ t
theorem digs_start (n : Nat) (h : 1 ≤ n) : Digs n n [] := by unfold Digs; rw [if_neg (by omega)]; simp
theorem digs_step {n u : Nat} {t : List UInt8} (h : Digs n u t) (hu : u ≠ 0) : Digs n (u / 10) (UInt8.ofNat (48 + u % 10) :: t) := by
  unfold Digs at h ⊢
  rw [if_neg hu, decDigits_last u] at h
  rw [h]; simp
theorem digs_end {n : Nat} {t : List UInt8} (h : Digs n 0 t) : decDigits n = t := by
  unfold Digs at h; simpa using h
end Go.Proofs.YtfoghiminlbdaaaGreat
namespace Go.Proofs.YtfoghiminlbdaaaGreat
open Go.RowKit Go.Lib
set_option linter.unusedSimpArgs false
set_option linter.unusedVariables false
theorem conv1M (w : World) (x : Int) (h0 : 0 ≤ x) (h1 : x < 256) :
    (convert 22 9 (.slice (some ⟨w.heap.size, 0, none⟩) 1 1)).run Tryz.prog (w.alloc (.cells #[.int .u8 x] 5)) = .ok (.string ⟨[UInt8.ofNat x.toNat].toArray⟩) (w.alloc (.cells #[.int .u8 x] 5)) := by
  refine run_convert_bytes_back (P := Tryz.prog) _ 22 9 5 ⟨w.heap.size, 0, none⟩ 1 [UInt8.ofNat x.toNat] Tryz.underlying22 Tryz.underlying5 Tryz.underlying9 ?_
  intro j hj
  simp at hj
  subst hj
  have e : ((UInt8.ofNat x.toNat).toNat : Int) = x := by simp; omega
  simp only [List.getElem_cons_zero, e]
  simp [Addr.add, World.cell?_alloc_new]
theorem cat1M (a b : List UInt8) : (⟨a.toArray⟩ : ByteArray) ++ ⟨b.toArray⟩ = ⟨(a ++ b).toArray⟩ := by
  apply ByteArray.ext
  simp
theorem digs_lenM {n u : Nat} {t : List UInt8} (h : Digs n u t) (hn : n < 18446744073709551616) : t.length ≤ 20 := by
  have hl := nDigits_le20 n hn
  rw [← decDigits_length, h] at hl
  simp at hl
  omega
theorem str_stepM (u : Nat) (t : List UInt8) : (⟨#[48 + UInt8.ofNat (u % 10)]⟩ : ByteArray) ++ ⟨t.toArray⟩ = ⟨(UInt8.ofNat (48 + u % 10) :: t).toArray⟩ := by
  have e : UInt8.ofNat (48 + u % 10) = 48 + UInt8.ofNat (u % 10) := by simp
  rw [e]
  exact cat1M [_] t
theorem val_strM {a b : ByteArray} (h : a = b) : Value.string a = .string b := by rw [h]
theorem val_intM {k : IntKind} {a b : Int} (h : a = b) : Value.int k a = .int k b := by rw [h]
theorem ret_strM {a b : ByteArray} (h : a = b) : Ending.returned (.string a) = .returned (.string b) := by rw [h]
def mtext (k : Nat) : List UInt8 := 109 :: decDigits k
set_option maxHeartbeats 1000000 in
set_option maxRecDepth 100000 in
theorem markText_is (k : Nat) (h1 : 1 ≤ k) (h2 : k ≤ 100000000) (w : World) :
    Calls Tryz.prog 117 #[.int .i64 (k : Int)] w fun e w' => e = .returned (.string ⟨(mtext k).toArray⟩) ∧ Below w.heap.size w w' := by
  have hk0 : ¬ (k : Int) ≤ 0 := by omega
  go_enter Tryz.func117, Tryz.ntmps117
  go_wp2
  go_loopw [0, 3] (fun x s wr => ∃ (t : List UInt8) (u : Nat), s = .string ⟨t.toArray⟩ ∧ x = .int .i64 (u : Int) ∧ u ≤ k ∧ Hid (Digs k u t) ∧ Below w.heap.size w wr) (fun x _ _ => (RowKit.intOf x).natAbs)
  case atStart => exact ⟨[], k, rfl, rfl, Nat.le_refl _, digs_start _ h1, Below.refl _ _⟩
  case round =>
    obtain ⟨t, u, rfl, rfl, hu, hd, hb⟩ := hrel
    have hlt := digs_lenM hd.out (by omega)
    by_cases hz : u = 0
    · subst hz
      go_wp2
      go_ret
      exact ⟨ret_strM (by rw [mtext, digs_end hd.out]; exact cat1M [109] t), hb⟩
    · have hu0 : (0 : Int) < (u : Int) := by omega
      have e2 := conv1M wr (48 + ((u : Int) % 10)) (by omega) (by omega)
      go_wp2
      go_roundw
      case rel => exact ⟨_, u / 10, val_strM (str_stepM u t), val_intM (by omega), by omega, digs_step hd.out hz, hb.alloc hb.size _⟩
      case measure => simp [RowKit.intOf]; omega
end Go.Proofs.YtfoghiminlbdaaaGreat
