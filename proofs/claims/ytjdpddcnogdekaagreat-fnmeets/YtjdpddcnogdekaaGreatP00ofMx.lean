/-
  Texts in one: AstPlain, AstSz.
-/
import Derived.Test.YtjdpddcnogdekaaGreatRows
import Derived.WalkKit
import Derived.WalkLawsBesides
import Derived.Below
import Derived.OwnWalk
import Derived.Lib.Hide
import Derived.Deep.Trees
/-
  Expressions and statements as plain trees (no Go): a row of them is its first, what stands under that one, and the rest. Their lengths, sizes, and how they lie in memory.
-/
namespace Go.Proofs.YtjdpddcnogdekaaGreat
open Go.RowKit Go.Lib
set_option linter.unusedSimpArgs false
set_option linter.unusedVariables false

/-- What an expression holds beside its parts. -/
structure EH where
  k : Int
  n : Int
  s : ByteArray
/-- A row of expressions. -/
abbrev EF := Go.Deep.BT EH
/-- One expression. -/
structure X where
  h : EH
  l : EF
/-- What a statement holds beside its body. -/
structure SH where
  k : Int
  s : ByteArray
  x1 : X
  x2 : X
  x3 : X
  x4 : X
/-- A row of statements. -/
abbrev SF := Go.Deep.BT SH

def elen : EF → Nat
  | .nil => 0
  | .node _ _ _ _ r => elen r + 1
def enodes : EF → Nat
  | .nil => 0
  | .node _ _ _ l r => enodes l + enodes r + 1
def esize : EF → Nat
  | .nil => 0
  | .node _ _ h l r => h.s.size + esize l + esize r + 1
def ebulk : EF → Nat
  | .nil => 0
  | .node _ _ h l r => h.s.size + esize l + ebulk r
def xsize (x : X) : Nat := x.h.s.size + esize x.l
def eapp : EF → EF → EF
  | .nil, R => R
  | .node b o h l r, R => .node b o h l (eapp r R)
theorem esize_bulk : ∀ F : EF, esize F = elen F + ebulk F
  | .nil => rfl
  | .node _ _ h l r => by have := esize_bulk r; simp only [esize, elen, ebulk]; omega
theorem enodes_le : ∀ F : EF, enodes F ≤ esize F
  | .nil => Nat.le_refl _
  | .node _ _ h l r => by have := enodes_le l; have := enodes_le r; simp only [esize, enodes]; omega
theorem elen_le : ∀ F : EF, elen F ≤ enodes F
  | .nil => Nat.le_refl _
  | .node _ _ h l r => by have := elen_le r; simp only [elen, enodes]; omega
theorem elen_app : ∀ (P R : EF), elen (eapp P R) = elen P + elen R
  | .nil, R => by simp [eapp, elen]
  | .node _ _ h l r, R => by have := elen_app r R; simp only [eapp, elen]; omega
theorem eapp_snoc : ∀ (P : EF) (b o : Nat) (h : EH) (l r : EF), eapp (eapp P (.node b o h l .nil)) r = eapp P (.node b o h l r)
  | .nil, _, _, _, _, _ => rfl
  | .node _ _ _ _ p, b, o, h, l, r => by simp only [eapp]; rw [eapp_snoc p]
theorem eapp_nil : ∀ (P : EF), eapp P .nil = P
  | .nil => rfl
  | .node _ _ _ _ p => by simp only [eapp]; rw [eapp_nil p]

def slen : SF → Nat
  | .nil => 0
  | .node _ _ _ _ r => slen r + 1
def snodes : SF → Nat
  | .nil => 0
  | .node _ _ _ l r => snodes l + snodes r + 1
def hsize (h : SH) : Nat := h.s.size + xsize h.x1 + xsize h.x2 + xsize h.x3 + xsize h.x4
def ssize : SF → Nat
  | .nil => 0
  | .node _ _ h l r => hsize h + ssize l + ssize r + 1
def sbulk : SF → Nat
  | .nil => 0
  | .node _ _ h l r => hsize h + ssize l + sbulk r
def sapp : SF → SF → SF
  | .nil, R => R
  | .node b o h l r, R => .node b o h l (sapp r R)
theorem ssize_bulk : ∀ F : SF, ssize F = slen F + sbulk F
  | .nil => rfl
  | .node _ _ h l r => by have := ssize_bulk r; simp only [ssize, slen, sbulk]; omega
theorem snodes_le : ∀ F : SF, snodes F ≤ ssize F
  | .nil => Nat.le_refl _
  | .node _ _ h l r => by have := snodes_le l; have := snodes_le r; simp only [ssize, snodes]; omega
theorem slen_le : ∀ F : SF, slen F ≤ snodes F
  | .nil => Nat.le_refl _
  | .node _ _ h l r => by have := slen_le r; simp only [slen, snodes]; omega
theorem slen_app : ∀ (P R : SF), slen (sapp P R) = slen P + slen R
  | .nil, R => by simp [sapp, slen]
  | .node _ _ h l r, R => by have := slen_app r R; simp only [sapp, slen]; omega
theorem sapp_snoc : ∀ (P : SF) (b o : Nat) (h : SH) (l r : SF), sapp (sapp P (.node b o h l .nil)) r = sapp P (.node b o h l r)
  | .nil, _, _, _, _, _ => rfl
  | .node _ _ _ _ p, b, o, h, l, r => by simp only [sapp]; rw [sapp_snoc p]
theorem sapp_nil : ∀ (P : SF), sapp P .nil = P
  | .nil => rfl
  | .node _ _ _ _ p => by simp only [sapp]; rw [sapp_nil p]

/-- A row of expressions lies at b, o; all that stands under them lies at lo or above. -/
def EIn (w : World) (lo : Nat) : EF → Nat → Nat → Prop
  | .nil, _, _ => True
  | .node _ _ h l r, b, o =>
    (w.cell? ⟨b, o, Option.none⟩ = some (.int .i64 h.k) ∧ w.cell? ⟨b, o + 1, Option.none⟩ = some (.int .i64 h.n) ∧ w.cell? ⟨b, o + 2, Option.none⟩ = some (.string h.s) ∧
      ∃ v, w.cell? ⟨b, o + 3, Option.none⟩ = some v ∧ ∃ b' o' a' c', v = .slice a' (elen l) c' ∧ (a' = some ⟨b', o', Option.none⟩ ∨ l = .nil) ∧ lo ≤ b' ∧ EIn w lo l b' o') ∧ EIn w lo r b (o + 4)
/-- A slice that holds a row of expressions. -/
def EV (w : World) (lo : Nat) (F : EF) (v : Value) : Prop := ∃ b o a c, v = .slice a (elen F) c ∧ (a = some ⟨b, o, Option.none⟩ ∨ F = .nil) ∧ lo ≤ b ∧ EIn w lo F b o
/-- An expression in four cells. -/
def XC (w : World) (lo : Nat) (x : X) (b o : Nat) : Prop :=
  w.cell? ⟨b, o, Option.none⟩ = some (.int .i64 x.h.k) ∧ w.cell? ⟨b, o + 1, Option.none⟩ = some (.int .i64 x.h.n) ∧ w.cell? ⟨b, o + 2, Option.none⟩ = some (.string x.h.s) ∧
    ∃ v, w.cell? ⟨b, o + 3, Option.none⟩ = some v ∧ EV w lo x.l v
theorem EIn_node {w : World} {lo b o p q : Nat} {h : EH} {l r : EF} : EIn w lo (.node p q h l r) b o ↔ XC w lo ⟨h, l⟩ b o ∧ EIn w lo r b (o + 4) := Iff.rfl
theorem EIn_same {w w' : World} {lo lo' : Nat} (hlo : lo' ≤ lo) (hs : ∀ (a : Addr) v, lo ≤ a.block → w.cell? a = some v → w'.cell? a = some v) : ∀ (F : EF) (b o : Nat), lo ≤ b → EIn w lo F b o → EIn w' lo' F b o
  | .nil, _, _, _, _ => trivial
  | .node _ _ h l r, b, o, hb, ⟨⟨h0, h1, h2, v, h3, b', o', a', c', e1, e2, e3, h4⟩, h5⟩ =>
    ⟨⟨hs _ _ hb h0, hs _ _ hb h1, hs _ _ hb h2, v, hs _ _ hb h3, b', o', a', c', e1, e2, Nat.le_trans hlo e3, EIn_same hlo hs l b' o' e3 h4⟩, EIn_same hlo hs r b _ hb h5⟩
theorem EV.same {w w' : World} {lo lo' : Nat} {F : EF} {v : Value} (hlo : lo' ≤ lo) (h : EV w lo F v) (hs : ∀ (a : Addr) v, lo ≤ a.block → w.cell? a = some v → w'.cell? a = some v) : EV w' lo' F v := by
  obtain ⟨b, o, a, c, h1, h2, h3, h4⟩ := h
  exact ⟨b, o, a, c, h1, h2, Nat.le_trans hlo h3, EIn_same hlo hs F b o h3 h4⟩
theorem EV.low {w : World} {lo : Nat} {F : EF} {v : Value} (h : EV w lo F v) : EV w 0 F v := h.same (Nat.zero_le _) fun _ _ _ h => h
theorem EV.lower {w : World} {lo lo' : Nat} {F : EF} {v : Value} (h : EV w lo F v) (hlo : lo' ≤ lo) : EV w lo' F v := h.same hlo fun _ _ _ h => h
theorem lt_of_cellA {w : World} {a : Addr} {v : Value} (h : w.cell? a = some v) : a.block < w.heap.size := by
  unfold World.cell? at h
  split at h
  · rename_i e; exact (Array.getElem?_eq_some_iff.1 e).1
  · cases h
theorem keeps {w w' : World} (hb : Below w.heap.size w w') {a : Addr} {v : Value} (h : w.cell? a = some v) : w'.cell? a = some v := (hb.cell (lt_of_cellA h)).trans h
theorem EV.later {w w' : World} {lo : Nat} {F : EF} {v : Value} (h : EV w lo F v) (hb : Below w.heap.size w w') : EV w' lo F v := h.same (Nat.le_refl _) fun _ _ _ hc => keeps hb hc
theorem XC.later {w w' : World} {lo : Nat} {x : X} {b o : Nat} (h : XC w lo x b o) (hb : Below w.heap.size w w') : XC w' lo x b o := by
  obtain ⟨h0, h1, h2, v, h3, h4⟩ := h
  exact ⟨keeps hb h0, keeps hb h1, keeps hb h2, v, keeps hb h3, h4.later hb⟩
theorem EIn_later {w w' : World} {lo : Nat} (hb : Below w.heap.size w w') : ∀ (F : EF) (b o : Nat), EIn w lo F b o → EIn w' lo F b o
  | .nil, _, _, _ => trivial
  | .node _ _ _ _ r, b, o, ⟨h1, h2⟩ => ⟨XC.later (x := ⟨_, _⟩) h1 hb, EIn_later hb r b _ h2⟩
theorem EV.shape {w : World} {lo : Nat} {F : EF} {v : Value} (h : EV w lo F v) : ∃ a c, v = .slice a (elen F) c := by
  obtain ⟨b, o, a, c, h1, _⟩ := h; exact ⟨a, c, h1⟩
theorem EV.nil (w : World) (lo : Nat) (a : Option Addr) (c : Nat) : EV w lo .nil (.slice a 0 c) := ⟨lo, 0, a, c, rfl, .inr rfl, Nat.le_refl _, trivial⟩

/-- A row of statements lies at b, o. -/
def SIn (w : World) (lo : Nat) : SF → Nat → Nat → Prop
  | .nil, _, _ => True
  | .node _ _ h l r, b, o =>
    (w.cell? ⟨b, o, Option.none⟩ = some (.int .i64 h.k) ∧ w.cell? ⟨b, o + 1, Option.none⟩ = some (.string h.s) ∧ XC w lo h.x1 b (o + 2) ∧ XC w lo h.x2 b (o + 6) ∧ XC w lo h.x3 b (o + 10) ∧ XC w lo h.x4 b (o + 14) ∧
      ∃ v, w.cell? ⟨b, o + 18, Option.none⟩ = some v ∧ ∃ b' o' a' c', v = .slice a' (slen l) c' ∧ (a' = some ⟨b', o', Option.none⟩ ∨ l = .nil) ∧ lo ≤ b' ∧ SIn w lo l b' o') ∧ SIn w lo r b (o + 19)
def SV (w : World) (lo : Nat) (F : SF) (v : Value) : Prop := ∃ b o a c, v = .slice a (slen F) c ∧ (a = some ⟨b, o, Option.none⟩ ∨ F = .nil) ∧ lo ≤ b ∧ SIn w lo F b o
/-- A statement in nineteen cells. -/
def SC (w : World) (lo : Nat) (h : SH) (l : SF) (b o : Nat) : Prop :=
  w.cell? ⟨b, o, Option.none⟩ = some (.int .i64 h.k) ∧ w.cell? ⟨b, o + 1, Option.none⟩ = some (.string h.s) ∧ XC w lo h.x1 b (o + 2) ∧ XC w lo h.x2 b (o + 6) ∧ XC w lo h.x3 b (o + 10) ∧ XC w lo h.x4 b (o + 14) ∧
      ∃ v, w.cell? ⟨b, o + 18, Option.none⟩ = some v ∧ SV w lo l v
theorem SIn_node {w : World} {lo b o p q : Nat} {h : SH} {l r : SF} : SIn w lo (.node p q h l r) b o ↔ SC w lo h l b o ∧ SIn w lo r b (o + 19) := Iff.rfl
theorem XC.same {w w' : World} {lo lo' : Nat} {x : X} {b o : Nat} (hlo : lo' ≤ lo) (hb : lo ≤ b) (h : XC w lo x b o) (hs : ∀ (a : Addr) v, lo ≤ a.block → w.cell? a = some v → w'.cell? a = some v) : XC w' lo' x b o := by
  obtain ⟨h0, h1, h2, v, h3, h4⟩ := h
  exact ⟨hs _ _ hb h0, hs _ _ hb h1, hs _ _ hb h2, v, hs _ _ hb h3, h4.same hlo hs⟩
theorem SIn_same {w w' : World} {lo lo' : Nat} (hlo : lo' ≤ lo) (hs : ∀ (a : Addr) v, lo ≤ a.block → w.cell? a = some v → w'.cell? a = some v) : ∀ (F : SF) (b o : Nat), lo ≤ b → SIn w lo F b o → SIn w' lo' F b o
  | .nil, _, _, _, _ => trivial
  | .node _ _ h l r, b, o, hb, ⟨⟨h0, h1, h2, h3, h4, h5, v, h6, b', o', a', c', e1, e2, e3, h7⟩, h8⟩ =>
    ⟨⟨hs _ _ hb h0, hs _ _ hb h1, h2.same hlo hb hs, h3.same hlo hb hs, h4.same hlo hb hs, h5.same hlo hb hs, v, hs _ _ hb h6, b', o', a', c', e1, e2, Nat.le_trans hlo e3, SIn_same hlo hs l b' o' e3 h7⟩, SIn_same hlo hs r b _ hb h8⟩
theorem SV.same {w w' : World} {lo lo' : Nat} {F : SF} {v : Value} (hlo : lo' ≤ lo) (h : SV w lo F v) (hs : ∀ (a : Addr) v, lo ≤ a.block → w.cell? a = some v → w'.cell? a = some v) : SV w' lo' F v := by
  obtain ⟨b, o, a, c, h1, h2, h3, h4⟩ := h
  exact ⟨b, o, a, c, h1, h2, Nat.le_trans hlo h3, SIn_same hlo hs F b o h3 h4⟩
theorem SV.low {w : World} {lo : Nat} {F : SF} {v : Value} (h : SV w lo F v) : SV w 0 F v := h.same (Nat.zero_le _) fun _ _ _ h => h
theorem SV.lower {w : World} {lo lo' : Nat} {F : SF} {v : Value} (h : SV w lo F v) (hlo : lo' ≤ lo) : SV w lo' F v := h.same hlo fun _ _ _ h => h
theorem SV.later {w w' : World} {lo : Nat} {F : SF} {v : Value} (h : SV w lo F v) (hb : Below w.heap.size w w') : SV w' lo F v := h.same (Nat.le_refl _) fun _ _ _ hc => keeps hb hc
theorem SC.later {w w' : World} {lo : Nat} {h : SH} {l : SF} {b o : Nat} (hc : SC w lo h l b o) (hb : Below w.heap.size w w') : SC w' lo h l b o := by
  obtain ⟨h0, h1, h2, h3, h4, h5, v, h6, h7⟩ := hc
  exact ⟨keeps hb h0, keeps hb h1, h2.later hb, h3.later hb, h4.later hb, h5.later hb, v, keeps hb h6, h7.later hb⟩
theorem SIn_later {w w' : World} {lo : Nat} (hb : Below w.heap.size w w') : ∀ (F : SF) (b o : Nat), SIn w lo F b o → SIn w' lo F b o
  | .nil, _, _, _ => trivial
  | .node _ _ h l r, b, o, hc => ⟨SC.later (SIn_node.1 hc).1 hb, SIn_later hb r b _ (SIn_node.1 hc).2⟩
theorem SV.shape {w : World} {lo : Nat} {F : SF} {v : Value} (h : SV w lo F v) : ∃ a c, v = .slice a (slen F) c := by
  obtain ⟨b, o, a, c, h1, _⟩ := h; exact ⟨a, c, h1⟩
theorem SV.nil (w : World) (lo : Nat) (a : Option Addr) (c : Nat) : SV w lo .nil (.slice a 0 c) := ⟨lo, 0, a, c, rfl, .inr rfl, Nat.le_refl _, trivial⟩

/-- The cells that hold a row of expressions. -/
def ERow (w : World) (lo : Nat) : EF → List Value → Prop
  | .nil, xs => xs = []
  | .node _ _ h l r, xs => ∃ v ys, xs = .int .i64 h.k :: .int .i64 h.n :: .string h.s :: v :: ys ∧ EV w lo l v ∧ ERow w lo r ys
theorem ERow.length {w : World} {lo : Nat} : ∀ {F : EF} {xs : List Value}, ERow w lo F xs → xs.length = elen F * 4
  | .nil, xs, h => by rw [h]; rfl
  | .node _ _ _ _ r, xs, ⟨v, ys, e, _, h⟩ => by have := ERow.length h; subst e; simp only [List.length_cons, elen]; omega
theorem ERow.app {w : World} {lo : Nat} : ∀ {P R : EF} {xs ys : List Value}, ERow w lo P xs → ERow w lo R ys → ERow w lo (eapp P R) (xs ++ ys)
  | .nil, _, _, _, h, g => by rw [show _ = [] from h]; exact g
  | .node _ _ _ _ r, _, _, _, ⟨v, zs, e, hv, h⟩, g => ⟨v, _, by rw [e]; rfl, hv, ERow.app h g⟩
theorem ERow.one {w : World} {lo p q : Nat} {h : EH} {l : EF} {v : Value} (hv : EV w lo l v) : ERow w lo (.node p q h l .nil) [.int .i64 h.k, .int .i64 h.n, .string h.s, v] := ⟨v, [], rfl, hv, rfl⟩
theorem ERow.same {w w' : World} {lo lo' : Nat} (hlo : lo' ≤ lo) (hs : ∀ (a : Addr) v, lo ≤ a.block → w.cell? a = some v → w'.cell? a = some v) : ∀ {F : EF} {xs : List Value}, ERow w lo F xs → ERow w' lo' F xs
  | .nil, _, h => h
  | .node _ _ _ _ r, _, ⟨v, zs, e, hv, h⟩ => ⟨v, zs, e, hv.same hlo hs, ERow.same hlo hs h⟩
theorem ERow.laid {w : World} {lo g : Nat} : ∀ {F : EF} {xs : List Value} (o : Nat), ERow w lo F xs → (∀ j u, xs[j]? = some u → w.cell? ⟨g, o + j, Option.none⟩ = some u) → EIn w lo F g o
  | .nil, _, _, _, _ => trivial
  | .node _ _ _ _ r, _, o, ⟨v, zs, e, hv, h⟩, hc => by
    subst e
    refine EIn_node.2 ⟨⟨hc 0 _ rfl, hc 1 _ rfl, hc 2 _ rfl, v, hc 3 _ rfl, hv⟩, ERow.laid (o + 4) h fun j u hj => ?_⟩
    have := hc (j + 4) u (by simpa using hj)
    rwa [show o + (j + 4) = o + 4 + j by omega] at this
def xcells (x : X) (v : Value) : List Value := [.int .i64 x.h.k, .int .i64 x.h.n, .string x.h.s, v]
def scells (h : SH) (v1 v2 v3 v4 v : Value) : List Value := .int .i64 h.k :: .string h.s :: (xcells h.x1 v1 ++ (xcells h.x2 v2 ++ (xcells h.x3 v3 ++ (xcells h.x4 v4 ++ [v]))))
/-- The cells that hold a row of statements. -/
def SRow (w : World) (lo : Nat) : SF → List Value → Prop
  | .nil, xs => xs = []
  | .node _ _ h l r, xs => ∃ v1 v2 v3 v4 v ys, xs = scells h v1 v2 v3 v4 v ++ ys ∧ EV w lo h.x1.l v1 ∧ EV w lo h.x2.l v2 ∧ EV w lo h.x3.l v3 ∧ EV w lo h.x4.l v4 ∧ SV w lo l v ∧ SRow w lo r ys
theorem SRow.length {w : World} {lo : Nat} : ∀ {F : SF} {xs : List Value}, SRow w lo F xs → xs.length = slen F * 19
  | .nil, xs, h => by rw [h]; rfl
  | .node _ _ _ _ r, xs, ⟨_, _, _, _, v, ys, e, _, _, _, _, _, h⟩ => by have := SRow.length h; subst e; simp only [scells, xcells, List.length_cons, List.length_append, List.length_nil, slen]; omega
theorem SRow.app {w : World} {lo : Nat} : ∀ {P R : SF} {xs ys : List Value}, SRow w lo P xs → SRow w lo R ys → SRow w lo (sapp P R) (xs ++ ys)
  | .nil, _, _, _, h, g => by rw [show _ = [] from h]; exact g
  | .node _ _ _ _ r, _, _, _, ⟨v1, v2, v3, v4, v, zs, e, h1, h2, h3, h4, hv, h⟩, g => ⟨v1, v2, v3, v4, v, _, by rw [e, List.append_assoc], h1, h2, h3, h4, hv, SRow.app h g⟩
theorem SRow.one {w : World} {lo p q : Nat} {h : SH} {l : SF} {v1 v2 v3 v4 v : Value} (h1 : EV w lo h.x1.l v1) (h2 : EV w lo h.x2.l v2) (h3 : EV w lo h.x3.l v3) (h4 : EV w lo h.x4.l v4) (hv : SV w lo l v) : SRow w lo (.node p q h l .nil) (scells h v1 v2 v3 v4 v) :=
  ⟨v1, v2, v3, v4, v, [], by rw [List.append_nil], h1, h2, h3, h4, hv, rfl⟩
theorem SRow.same {w w' : World} {lo lo' : Nat} (hlo : lo' ≤ lo) (hs : ∀ (a : Addr) v, lo ≤ a.block → w.cell? a = some v → w'.cell? a = some v) : ∀ {F : SF} {xs : List Value}, SRow w lo F xs → SRow w' lo' F xs
  | .nil, _, h => h
  | .node _ _ _ _ r, _, ⟨v1, v2, v3, v4, v, zs, e, h1, h2, h3, h4, hv, h⟩ => ⟨v1, v2, v3, v4, v, zs, e, h1.same hlo hs, h2.same hlo hs, h3.same hlo hs, h4.same hlo hs, hv.same hlo hs, SRow.same hlo hs h⟩
theorem SRow.laid {w : World} {lo g : Nat} : ∀ {F : SF} {xs : List Value} (o : Nat), SRow w lo F xs → (∀ j u, xs[j]? = some u → w.cell? ⟨g, o + j, Option.none⟩ = some u) → SIn w lo F g o
  | .nil, _, _, _, _ => trivial
  | .node _ _ _ _ r, _, o, ⟨v1, v2, v3, v4, v, zs, e, h1, h2, h3, h4, hv, h⟩, hc => by
    subst e
    have hx : ∀ (x : X) (u : Value) (i : Nat), EV w lo x.l u → w.cell? ⟨g, o + i, Option.none⟩ = some (.int .i64 x.h.k) → w.cell? ⟨g, o + (i + 1), Option.none⟩ = some (.int .i64 x.h.n) → w.cell? ⟨g, o + (i + 2), Option.none⟩ = some (.string x.h.s) → w.cell? ⟨g, o + (i + 3), Option.none⟩ = some u → XC w lo x g (o + i) :=
      fun x u i he a0 a1 a2 a3 => ⟨a0, by rw [Nat.add_assoc]; exact a1, by rw [Nat.add_assoc]; exact a2, u, by rw [Nat.add_assoc]; exact a3, he⟩
    refine SIn_node.2 ⟨⟨hc 0 _ rfl, hc 1 _ rfl, hx _ v1 2 h1 (hc 2 _ rfl) (hc 3 _ rfl) (hc 4 _ rfl) (hc 5 _ rfl), hx _ v2 6 h2 (hc 6 _ rfl) (hc 7 _ rfl) (hc 8 _ rfl) (hc 9 _ rfl), hx _ v3 10 h3 (hc 10 _ rfl) (hc 11 _ rfl) (hc 12 _ rfl) (hc 13 _ rfl), hx _ v4 14 h4 (hc 14 _ rfl) (hc 15 _ rfl) (hc 16 _ rfl) (hc 17 _ rfl), v, hc 18 _ rfl, hv⟩, SRow.laid (o + 19) h fun j u hj => ?_⟩
    have := hc (j + 19) u (by simpa [scells, xcells] using hj)
    rwa [show o + (j + 19) = o + 19 + j by omega] at this
end Go.Proofs.YtjdpddcnogdekaaGreat
/-
  The contracts of szExp, szExpS, szStmt, szStmtS: how much an argument holds, or -1 where it is more than is left.
-/
namespace Go.Proofs.YtjdpddcnogdekaaGreat
open Go.RowKit Go.Lib
set_option linter.unusedSimpArgs false
set_option linter.unusedVariables false

/-- Every slice and string of what came in has a length that an int holds. -/
def eok : EF → Prop
  | .nil => True
  | .node _ _ h l r => h.s.size ≤ 9223372036854775807 ∧ elen l ≤ 9223372036854775807 ∧ eok l ∧ eok r
def xok (x : X) : Prop := x.h.s.size ≤ 9223372036854775807 ∧ elen x.l ≤ 9223372036854775807 ∧ eok x.l
def sok : SF → Prop
  | .nil => True
  | .node _ _ h l r => h.s.size ≤ 9223372036854775807 ∧ xok h.x1 ∧ xok h.x2 ∧ xok h.x3 ∧ xok h.x4 ∧ slen l ≤ 9223372036854775807 ∧ sok l ∧ sok r
theorem val_intA {a b : Int} (h : a = b) : (Value.int .i64 a) = .int .i64 b := by rw [h]
/-- What is answered where n is to be taken from what is left. -/
def Sz (n : Nat) (left : Int) (w : World) (e : Ending) (w' : World) : Prop := e = .returned (.int .i64 (if left < (n : Int) then -1 else left - n)) ∧ Below w.heap.size w w'
theorem Sz.less {n : Nat} {left : Int} {w w' : World} (h : left < (n : Int)) (hb : Below w.heap.size w w') : Sz n left w (.returned (.int .i64 (-1))) w' := ⟨by rw [if_pos h], hb⟩
theorem Sz.more {n : Nat} {left r : Int} {w w' : World} (h : ¬ left < (n : Int)) (hr : r = left - n) (hb : Below w.heap.size w w') : Sz n left w (.returned (.int .i64 r)) w' := ⟨by rw [if_neg h, hr], hb⟩
/-- A cell of a block that was just laid, behind a call that turned nothing of it. -/
theorem box_cell {w w1 : World} {arr : Array Value} {t : TypeId} {i : Nat} {v : Value} (hb : Below (w.alloc (.cells arr t)).heap.size (w.alloc (.cells arr t)) w1) (hi : arr[i]? = some v) : w1.cell? ⟨w.heap.size, i, Option.none⟩ = some v := by
  have e : (w.alloc (.cells arr t)).heap = w.heap.push (.cells arr t (0, 0)) := rfl
  have e2 : w1.heap[w.heap.size]? = some (.cells arr t (0, 0)) := by rw [hb.block w.heap.size (by rw [e]; simp), e]; simp
  simp only [World.cell?, e2]; exact hi
theorem below_alloc {w w1 : World} {o : Obj} (hb : Below (w.alloc o).heap.size (w.alloc o) w1) : Below w.heap.size w w1 :=
  ((Below.refl _ w).alloc (Nat.le_refl _) o).trans (hb.mono (by simp))
theorem alloc_below (w : World) (o : Obj) : Below w.heap.size w (w.alloc o) := (Below.refl _ w).alloc (Nat.le_refl _) o
end Go.Proofs.YtjdpddcnogdekaaGreat
