/-
  Texts in one: AstPlain, AstSz, AstSzH, AstMem, AstOpen.
-/
import Derived.Test.YtfoghiminlbdaaaGreatRows
import Derived.WalkKit
import Derived.WalkLawsBesides
import Derived.Below
import Derived.OwnWalk
import Derived.Lib.Hide
import Derived.Deep.Trees
import Derived.Deep.MidRow
import Derived.Deep.WholeRow
import Derived.ProofKit
import Derived.OpenShut
import Derived.ShutString
import Derived.ChangeOld
import Derived.Deep.Slices
namespace Go.Proofs.YtfoghiminlbdaaaGreat
open Go.RowKit Go.Lib
set_option linter.unusedSimpArgs false
set_option linter.unusedVariables false
structure EH where
  k : Int
  n : Int
  s : ByteArray
abbrev EF := Go.Deep.BT EH
structure X where
  h : EH
  l : EF
structure SH where
  k : Int
  s : ByteArray
  x1 : X
  x2 : X
  x3 : X
  x4 : X
abbrev SF := Go.Deep.BT SH
def elen : EF → Nat
  | .nil => 0
  | .node _ _ _ _ r => elen r + 1
def enodes : EF → Nat
  | .nil => 0
  | .node _ _ _ l r => enodes l + enodes r + 1
def esize : EF → Nat
  | .nil => 0
  | .node _ _ h l r => h.s.size + esize l + esize r + 1
def ebulk : EF → Nat
  | .nil => 0
  | .node _ _ h l r => h.s.size + esize l + ebulk r
def xsize (x : X) : Nat := x.h.s.size + esize x.l
def eapp : EF → EF → EF
  | .nil, R => R
  | .node b o h l r, R => .node b o h l (eapp r R)
theorem esize_bulk : ∀ F : EF, esize F = elen F + ebulk F
  | .nil => rfl
  | .node _ _ h l r => by have := esize_bulk r; simp only [esize, elen, ebulk]; omega
theorem enodes_le : ∀ F : EF, enodes F ≤ esize F
  | .nil => Nat.le_refl _
  | .node _ _ h l r => by have := enodes_le l; have := enodes_le r; simp only [esize, enodes]; omega
theorem elen_le : ∀ F : EF, elen F ≤ enodes F
  | .nil => Nat.le_refl _
  | .node _ _ h l r => by have := elen_le r; simp only [elen, enodes]; omega
theorem elen_app : ∀ (P R : EF), elen (eapp P R) = elen P + elen R
  | .nil, R => by simp [eapp, elen]
  | .node _ _ h l r, R => by have := elen_app r R; simp only [eapp, elen]; omega
theorem eapp_snoc : ∀ (P : EF) (b o : Nat) (h : EH) (l r : EF), eapp (eapp P (.node b o h l .nil)) r = eapp P (.node b o h l r)
  | .nil, _, _, _, _, _ => rfl
  | .node _ _ _ _ p, b, o, h, l, r => by simp only [eapp]; rw [eapp_snoc p]
theorem eapp_nil : ∀ (P : EF), eapp P .nil = P
  | .nil => rfl
  | .node _ _ _ _ p => by simp only [eapp]; rw [eapp_nil p]
def slen : SF → Nat
  | .nil => 0
  | .node _ _ _ _ r => slen r + 1
def snodes : SF → Nat
  | .nil => 0
  | .node _ _ _ l r => snodes l + snodes r + 1
def hsize (h : SH) : Nat := h.s.size + xsize h.x1 + xsize h.x2 + xsize h.x3 + xsize h.x4
def ssize : SF → Nat
  | .nil => 0
  | .node _ _ h l r => hsize h + ssize l + ssize r + 1
def sbulk : SF → Nat
  | .nil => 0
  | .node _ _ h l r => hsize h + ssize l + sbulk r
def sapp : SF → SF → SF
  | .nil, R => R
  | .node b o h l r, R => .node b o h l (sapp r R)
theorem ssize_bulk : ∀ F : SF, ssize F = slen F + sbulk F
  | .nil => rfl
  | .node _ _ h l r => by have := ssize_bulk r; simp only [ssize, slen, sbulk]; omega
theorem snodes_le : ∀ F : SF, snodes F ≤ ssize F
  | .nil => Nat.le_refl _
  | .node _ _ h l r => by have := snodes_le l; have := snodes_le r; simp only [ssize, snodes]; omega
theorem slen_le : ∀ F : SF, slen F ≤ snodes F
  | .nil => Nat.le_refl _
  | .node _ _ h l r => by have := slen_le r; simp only [slen, snodes]; omega
theorem slen_app : ∀ (P R : SF), slen (sapp P R) = slen P + slen R
  | .nil, R => by simp [sapp, slen]
  | .node _ _ h l r, R => by have := slen_app r R; simp only [sapp, slen]; omega
theorem sapp_snoc : ∀ (P : SF) (b o : Nat) (h : SH) (l r : SF), sapp (sapp P (.node b o h l .nil)) r = sapp P (.node b o h l r)
  | .nil, _, _, _, _, _ => rfl
  | .node _ _ _ _ p, b, o, h, l, r => by simp only [sapp]; rw [sapp_snoc p]
theorem sapp_nil : ∀ (P : SF), sapp P .nil = P
  | .nil => rfl
  | .node _ _ _ _ p => by simp only [sapp]; rw [sapp_nil p]
def EIn (w : World) (lo : Nat) : EF → Nat → Nat → Prop
  | .nil, _, _ => True
  | .node _ _ h l r, b, o =>
    (w.cell? ⟨b, o, Option.none⟩ = some (.int .i64 h.k) ∧ w.cell? ⟨b, o + 1, Option.none⟩ = some (.int .i64 h.n) ∧ w.cell? ⟨b, o + 2, Option.none⟩ = some (.string h.s) ∧
      ∃ v, w.cell? ⟨b, o + 3, Option.none⟩ = some v ∧ ∃ b' o' a' c', v = .slice a' (elen l) c' ∧ (a' = some ⟨b', o', Option.none⟩ ∨ l = .nil) ∧ lo ≤ b' ∧ EIn w lo l b' o') ∧ EIn w lo r b (o + 4)
def EV (w : World) (lo : Nat) (F : EF) (v : Value) : Prop := ∃ b o a c, v = .slice a (elen F) c ∧ (a = some ⟨b, o, Option.none⟩ ∨ F = .nil) ∧ lo ≤ b ∧ EIn w lo F b o
def XC (w : World) (lo : Nat) (x : X) (b o : Nat) : Prop :=
  w.cell? ⟨b, o, Option.none⟩ = some (.int .i64 x.h.k) ∧ w.cell? ⟨b, o + 1, Option.none⟩ = some (.int .i64 x.h.n) ∧ w.cell? ⟨b, o + 2, Option.none⟩ = some (.string x.h.s) ∧
    ∃ v, w.cell? ⟨b, o + 3, Option.none⟩ = some v ∧ EV w lo x.l v
theorem EIn_node {w : World} {lo b o p q : Nat} {h : EH} {l r : EF} : EIn w lo (.node p q h l r) b o ↔ XC w lo ⟨h, l⟩ b o ∧ EIn w lo r b (o + 4) := Iff.rfl
theorem EIn_same {w w' : World} {lo lo' : Nat} (hlo : lo' ≤ lo) (hs : ∀ (a : Addr) v, lo ≤ a.block → w.cell? a = some v → w'.cell? a = some v) : ∀ (F : EF) (b o : Nat), lo ≤ b → EIn w lo F b o → EIn w' lo' F b o
  | .nil, _, _, _, _ => trivial
  | .node _ _ h l r, b, o, hb, ⟨⟨h0, h1, h2, v, h3, b', o', a', c', e1, e2, e3, h4⟩, h5⟩ =>
    ⟨⟨hs _ _ hb h0, hs _ _ hb h1, hs _ _ hb h2, v, hs _ _ hb h3, b', o', a', c', e1, e2, Nat.le_trans hlo e3, EIn_same hlo hs l b' o' e3 h4⟩, EIn_same hlo hs r b _ hb h5⟩
theorem EV.same {w w' : World} {lo lo' : Nat} {F : EF} {v : Value} (hlo : lo' ≤ lo) (h : EV w lo F v) (hs : ∀ (a : Addr) v, lo ≤ a.block → w.cell? a = some v → w'.cell? a = some v) : EV w' lo' F v := by
  obtain ⟨b, o, a, c, h1, h2, h3, h4⟩ := h
  exact ⟨b, o, a, c, h1, h2, Nat.le_trans hlo h3, EIn_same hlo hs F b o h3 h4⟩
theorem EV.low {w : World} {lo : Nat} {F : EF} {v : Value} (h : EV w lo F v) : EV w 0 F v := h.same (Nat.zero_le _) fun _ _ _ h => h
theorem EV.lower {w : World} {lo lo' : Nat} {F : EF} {v : Value} (h : EV w lo F v) (hlo : lo' ≤ lo) : EV w lo' F v := h.same hlo fun _ _ _ h => h
theorem lt_of_cellA {w : World} {a : Addr} {v : Value} (h : w.cell? a = some v) : a.block < w.heap.size := by
  unfold World.cell? at h
  split at h
  · rename_i e; exact (Array.getElem?_eq_some_iff.1 e).1
  · cases h
theorem keeps {w w' : World} (hb : Below w.heap.size w w') {a : Addr} {v : Value} (h : w.cell? a = some v) : w'.cell? a = some v := (hb.cell (lt_of_cellA h)).trans h
theorem EV.later {w w' : World} {lo : Nat} {F : EF} {v : Value} (h : EV w lo F v) (hb : Below w.heap.size w w') : EV w' lo F v := h.same (Nat.le_refl _) fun _ _ _ hc => keeps hb hc
theorem XC.later {w w' : World} {lo : Nat} {x : X} {b o : Nat} (h : XC w lo x b o) (hb : Below w.heap.size w w') : XC w' lo x b o := by
  obtain ⟨h0, h1, h2, v, h3, h4⟩ := h
  exact ⟨keeps hb h0, keeps hb h1, keeps hb h2, v, keeps hb h3, h4.later hb⟩
theorem EIn_later {w w' : World} {lo : Nat} (hb : Below w.heap.size w w') : ∀ (F : EF) (b o : Nat), EIn w lo F b o → EIn w' lo F b o
  | .nil, _, _, _ => trivial
  | .node _ _ _ _ r, b, o, ⟨h1, h2⟩ => ⟨XC.later (x := ⟨_, _⟩) h1 hb, EIn_later hb r b _ h2⟩
theorem EV.shape {w : World} {lo : Nat} {F : EF} {v : Value} (h : EV w lo F v) : ∃ a c, v = .slice a (elen F) c := by
  obtain ⟨b, o, a, c, h1, _⟩ := h; exact ⟨a, c, h1⟩
theorem EV.nil (w : World) (lo : Nat) (a : Option Addr) (c : Nat) : EV w lo .nil (.slice a 0 c) := ⟨lo, 0, a, c, rfl, .inr rfl, Nat.le_refl _, trivial⟩
def SIn (w : World) (lo : Nat) : SF → Nat → Nat → Prop
  | .nil, _, _ => True
  | .node _ _ h l r, b, o =>
    (w.cell? ⟨b, o, Option.none⟩ = some (.int .i64 h.k) ∧ w.cell? ⟨b, o + 1, Option.none⟩ = some (.string h.s) ∧ XC w lo h.x1 b (o + 2) ∧ XC w lo h.x2 b (o + 6) ∧ XC w lo h.x3 b (o + 10) ∧ XC w lo h.x4 b (o + 14) ∧
      ∃ v, w.cell? ⟨b, o + 18, Option.none⟩ = some v ∧ ∃ b' o' a' c', v = .slice a' (slen l) c' ∧ (a' = some ⟨b', o', Option.none⟩ ∨ l = .nil) ∧ lo ≤ b' ∧ SIn w lo l b' o') ∧ SIn w lo r b (o + 19)
def SV (w : World) (lo : Nat) (F : SF) (v : Value) : Prop := ∃ b o a c, v = .slice a (slen F) c ∧ (a = some ⟨b, o, Option.none⟩ ∨ F = .nil) ∧ lo ≤ b ∧ SIn w lo F b o
def SC (w : World) (lo : Nat) (h : SH) (l : SF) (b o : Nat) : Prop :=
  w.cell? ⟨b, o, Option.none⟩ = some (.int .i64 h.k) ∧ w.cell? ⟨b, o + 1, Option.none⟩ = some (.string h.s) ∧ XC w lo h.x1 b (o + 2) ∧ XC w lo h.x2 b (o + 6) ∧ XC w lo h.x3 b (o + 10) ∧ XC w lo h.x4 b (o + 14) ∧
      ∃ v, w.cell? ⟨b, o + 18, Option.none⟩ = some v ∧ SV w lo l v
theorem SIn_node {w : World} {lo b o p q : Nat} {h : SH} {l r : SF} : SIn w lo (.node p q h l r) b o ↔ SC w lo h l b o ∧ SIn w lo r b (o + 19) := Iff.rfl
theorem XC.same {w w' : World} {lo lo' : Nat} {x : X} {b o : Nat} (hlo : lo' ≤ lo) (hb : lo ≤ b) (h : XC w lo x b o) (hs : ∀ (a : Addr) v, lo ≤ a.block → w.cell? a = some v → w'.cell? a = some v) : XC w' lo' x b o := by
  obtain ⟨h0, h1, h2, v, h3, h4⟩ := h
  exact ⟨hs _ _ hb h0, hs _ _ hb h1, hs _ _ hb h2, v, hs _ _ hb h3, h4.same hlo hs⟩
theorem SIn_same {w w' : World} {lo lo' : Nat} (hlo : lo' ≤ lo) (hs : ∀ (a : Addr) v, lo ≤ a.block → w.cell? a = some v → w'.cell? a = some v) : ∀ (F : SF) (b o : Nat), lo ≤ b → SIn w lo F b o → SIn w' lo' F b o
  | .nil, _, _, _, _ => trivial
  | .node _ _ h l r, b, o, hb, ⟨⟨h0, h1, h2, h3, h4, h5, v, h6, b', o', a', c', e1, e2, e3, h7⟩, h8⟩ =>
    ⟨⟨hs _ _ hb h0, hs _ _ hb h1, h2.same hlo hb hs, h3.same hlo hb hs, h4.same hlo hb hs, h5.same hlo hb hs, v, hs _ _ hb h6, b', o', a', c', e1, e2, Nat.le_trans hlo e3, SIn_same hlo hs l b' o' e3 h7⟩, SIn_same hlo hs r b _ hb h8⟩
theorem SV.same {w w' : World} {lo lo' : Nat} {F : SF} {v : Value} (hlo : lo' ≤ lo) (h : SV w lo F v) (hs : ∀ (a : Addr) v, lo ≤ a.block → w.cell? a = some v → w'.cell? a = some v) : SV w' lo' F v := by
  obtain ⟨b, o, a, c, h1, h2, h3, h4⟩ := h
  exact ⟨b, o, a, c, h1, h2, Nat.le_trans hlo h3, SIn_same hlo hs F b o h3 h4⟩
theorem SV.low {w : World} {lo : Nat} {F : SF} {v : Value} (h : SV w lo F v) : SV w 0 F v := h.same (Nat.zero_le _) fun _ _ _ h => h
theorem SV.lower {w : World} {lo lo' : Nat} {F : SF} {v : Value} (h : SV w lo F v) (hlo : lo' ≤ lo) : SV w lo' F v := h.same hlo fun _ _ _ h => h
theorem SV.later {w w' : World} {lo : Nat} {F : SF} {v : Value} (h : SV w lo F v) (hb : Below w.heap.size w w') : SV w' lo F v := h.same (Nat.le_refl _) fun _ _ _ hc => keeps hb hc
theorem SC.later {w w' : World} {lo : Nat} {h : SH} {l : SF} {b o : Nat} (hc : SC w lo h l b o) (hb : Below w.heap.size w w') : SC w' lo h l b o := by
  obtain ⟨h0, h1, h2, h3, h4, h5, v, h6, h7⟩ := hc
  exact ⟨keeps hb h0, keeps hb h1, h2.later hb, h3.later hb, h4.later hb, h5.later hb, v, keeps hb h6, h7.later hb⟩
theorem SIn_later {w w' : World} {lo : Nat} (hb : Below w.heap.size w w') : ∀ (F : SF) (b o : Nat), SIn w lo F b o → SIn w' lo F b o
  | .nil, _, _, _ => trivial
  | .node _ _ h l r, b, o, hc => ⟨SC.later (SIn_node.1 hc).1 hb, SIn_later hb r b _ (SIn_node.1 hc).2⟩
theorem SV.shape {w : World} {lo : Nat} {F : SF} {v : Value} (h : SV w lo F v) : ∃ a c, v = .slice a (slen F) c := by
  obtain ⟨b, o, a, c, h1, _⟩ := h; exact ⟨a, c, h1⟩
theorem SV.nil (w : World) (lo : Nat) (a : Option Addr) (c : Nat) : SV w lo .nil (.slice a 0 c) := ⟨lo, 0, a, c, rfl, .inr rfl, Nat.le_refl _, trivial⟩
def ERow (w : World) (lo : Nat) : EF → List Value → Prop
  | .nil, xs => xs = []
  | .node _ _ h l r, xs => ∃ v ys, xs = .int .i64 h.k :: .int .i64 h.n :: .string h.s :: v :: ys ∧ EV w lo l v ∧ ERow w lo r ys
theorem ERow.length {w : World} {lo : Nat} : ∀ {F : EF} {xs : List Value}, ERow w lo F xs → xs.length = elen F * 4
  | .nil, xs, h => by rw [h]; rfl
  | .node _ _ _ _ r, xs, ⟨v, ys, e, _, h⟩ => by have := ERow.length h; subst e; simp only [List.length_cons, elen]; omega
theorem ERow.app {w : World} {lo : Nat} : ∀ {P R : EF} {xs ys : List Value}, ERow w lo P xs → ERow w lo R ys → ERow w lo (eapp P R) (xs ++ ys)
  | .nil, _, _, _, h, g => by rw [show _ = [] from h]; exact g
  | .node _ _ _ _ r, _, _, _, ⟨v, zs, e, hv, h⟩, g => ⟨v, _, by rw [e]; rfl, hv, ERow.app h g⟩
theorem ERow.one {w : World} {lo p q : Nat} {h : EH} {l : EF} {v : Value} (hv : EV w lo l v) : ERow w lo (.node p q h l .nil) [.int .i64 h.k, .int .i64 h.n, .string h.s, v] := ⟨v, [], rfl, hv, rfl⟩
theorem ERow.same {w w' : World} {lo lo' : Nat} (hlo : lo' ≤ lo) (hs : ∀ (a : Addr) v, lo ≤ a.block → w.cell? a = some v → w'.cell? a = some v) : ∀ {F : EF} {xs : List Value}, ERow w lo F xs → ERow w' lo' F xs
  | .nil, _, h => h
  | .node _ _ _ _ r, _, ⟨v, zs, e, hv, h⟩ => ⟨v, zs, e, hv.same hlo hs, ERow.same hlo hs h⟩
theorem ERow.laid {w : World} {lo g : Nat} : ∀ {F : EF} {xs : List Value} (o : Nat), ERow w lo F xs → (∀ j u, xs[j]? = some u → w.cell? ⟨g, o + j, Option.none⟩ = some u) → EIn w lo F g o
  | .nil, _, _, _, _ => trivial
  | .node _ _ _ _ r, _, o, ⟨v, zs, e, hv, h⟩, hc => by
    subst e
    refine EIn_node.2 ⟨⟨hc 0 _ rfl, hc 1 _ rfl, hc 2 _ rfl, v, hc 3 _ rfl, hv⟩, ERow.laid (o + 4) h fun j u hj => ?_⟩
    have := hc (j + 4) u (by simpa using hj)
    rwa [show o + (j + 4) = o + 4 + j by omega] at this
def xcells (x : X) (v : Value) : List Value := [.int .i64 x.h.k, .int .i64 x.h.n, .string x.h.s, v]
def scells (h : SH) (v1 v2 v3 v4 v : Value) : List Value := .int .i64 h.k :: .string h.s :: (xcells h.x1 v1 ++ (xcells h.x2 v2 ++ (xcells h.x3 v3 ++ (xcells h.x4 v4 ++ [v]))))
def SRow (w : World) (lo : Nat) : SF → List Value → Prop
  | .nil, xs => xs = []
  | .node _ _ h l r, xs => ∃ v1 v2 v3 v4 v ys, xs = scells h v1 v2 v3 v4 v ++ ys ∧ EV w lo h.x1.l v1 ∧ EV w lo h.x2.l v2 ∧ EV w lo h.x3.l v3 ∧ EV w lo h.x4.l v4 ∧ SV w lo l v ∧ SRow w lo r ys
theorem SRow.length {w : World} {lo : Nat} : ∀ {F : SF} {xs : List Value}, SRow w lo F xs → xs.length = slen F * 19
  | .nil, xs, h => by rw [h]; rfl
  | .node _ _ _ _ r, xs, ⟨_, _, _, _, v, ys, e, _, _, _, _, _, h⟩ => by have := SRow.length h; subst e; simp only [scells, xcells, List.length_cons, List.length_append, List.length_nil, slen]; omega
theorem SRow.app {w : World} {lo : Nat} : ∀ {P R : SF} {xs ys : List Value}, SRow w lo P xs → SRow w lo R ys → SRow w lo (sapp P R) (xs ++ ys)
  | .nil, _, _, _, h, g => by rw [show _ = [] from h]; exact g
  | .node _ _ _ _ r, _, _, _, ⟨v1, v2, v3, v4, v, zs, e, h1, h2, h3, h4, hv, h⟩, g => ⟨v1, v2, v3, v4, v, _, by rw [e, List.append_assoc], h1, h2, h3, h4, hv, SRow.app h g⟩
theorem SRow.one {w : World} {lo p q : Nat} {h : SH} {l : SF} {v1 v2 v3 v4 v : Value} (h1 : EV w lo h.x1.l v1) (h2 : EV w lo h.x2.l v2) (h3 : EV w lo h.x3.l v3) (h4 : EV w lo h.x4.l v4) (hv : SV w lo l v) : SRow w lo (.node p q h l .nil) (scells h v1 v2 v3 v4 v) :=
  ⟨v1, v2, v3, v4, v, [], by rw [List.append_nil], h1, h2, h3, h4, hv, rfl⟩
theorem SRow.same {w w' : World} {lo lo' : Nat} (hlo : lo' ≤ lo) (hs : ∀ (a : Addr) v, lo ≤ a.block → w.cell? a = some v → w'.cell? a = some v) : ∀ {F : SF} {xs : List Value}, SRow w lo F xs → SRow w' lo' F xs
  | .nil, _, h => h
  | .node _ _ _ _ r, _, ⟨v1, v2, v3, v4, v, zs, e, h1, h2, h3, h4, hv, h⟩ => ⟨v1, v2, v3, v4, v, zs, e, h1.same hlo hs, h2.same hlo hs, h3.same hlo hs, h4.same hlo hs, hv.same hlo hs, SRow.same hlo hs h⟩
theorem SRow.laid {w : World} {lo g : Nat} : ∀ {F : SF} {xs : List Value} (o : Nat), SRow w lo F xs → (∀ j u, xs[j]? = some u → w.cell? ⟨g, o + j, Option.none⟩ = some u) → SIn w lo F g o
  | .nil, _, _, _, _ => trivial
  | .node _ _ _ _ r, _, o, ⟨v1, v2, v3, v4, v, zs, e, h1, h2, h3, h4, hv, h⟩, hc => by
    subst e
    have hx : ∀ (x : X) (u : Value) (i : Nat), EV w lo x.l u → w.cell? ⟨g, o + i, Option.none⟩ = some (.int .i64 x.h.k) → w.cell? ⟨g, o + (i + 1), Option.none⟩ = some (.int .i64 x.h.n) → w.cell? ⟨g, o + (i + 2), Option.none⟩ = some (.string x.h.s) → w.cell? ⟨g, o + (i + 3), Option.none⟩ = some u → XC w lo x g (o + i) :=
      fun x u i he a0 a1 a2 a3 => ⟨a0, by rw [Nat.add_assoc]; exact a1, by rw [Nat.add_assoc]; exact a2, u, by rw [Nat.add_assoc]; exact a3, he⟩
    refine SIn_node.2 ⟨⟨hc 0 _ rfl, hc 1 _ rfl, hx _ v1 2 h1 (hc 2 _ rfl) (hc 3 _ rfl) (hc 4 _ rfl) (hc 5 _ rfl), hx _ v2 6 h2 (hc 6 _ rfl) (hc 7 _ rfl) (hc 8 _ rfl) (hc 9 _ rfl), hx _ v3 10 h3 (hc 10 _ rfl) (hc 11 _ rfl) (hc 12 _ rfl) (hc 13 _ rfl), hx _ v4 14 h4 (hc 14 _ rfl) (hc 15 _ rfl) (hc 16 _ rfl) (hc 17 _ rfl), v, hc 18 _ rfl, hv⟩, SRow.laid (o + 19) h fun j u hj => ?_⟩
    have := hc (j + 19) u (by simpa [scells, xcells] using hj)
    rwa [show o + (j + 19) = o + 19 + j by omega] at this
def eok : EF → Prop
  | .nil => True
  | .node _ _ h l r => h.s.size ≤ 9223372036854775807 ∧ elen l ≤ 9223372036854775807 ∧ eok l ∧ eok r
def xok (x : X) : Prop := x.h.s.size ≤ 9223372036854775807 ∧ elen x.l ≤ 9223372036854775807 ∧ eok x.l
def sok : SF → Prop
  | .nil => True
  | .node _ _ h l r => h.s.size ≤ 9223372036854775807 ∧ xok h.x1 ∧ xok h.x2 ∧ xok h.x3 ∧ xok h.x4 ∧ slen l ≤ 9223372036854775807 ∧ sok l ∧ sok r
theorem val_intA {a b : Int} (h : a = b) : (Value.int .i64 a) = .int .i64 b := by rw [h]
def Sz (n : Nat) (left : Int) (w : World) (e : Ending) (w' : World) : Prop := e = .returned (.int .i64 (if left < (n : Int) then -1 else left - n)) ∧ Below w.heap.size w w'
theorem Sz.less {n : Nat} {left : Int} {w w' : World} (h : left < (n : Int)) (hb : Below w.heap.size w w') : Sz n left w (.returned (.int .i64 (-1))) w' := ⟨by rw [if_pos h], hb⟩
theorem Sz.more {n : Nat} {left r : Int} {w w' : World} (h : ¬ left < (n : Int)) (hr : r = left - n) (hb : Below w.heap.size w w') : Sz n left w (.returned (.int .i64 r)) w' := ⟨by rw [if_neg h, hr], hb⟩
theorem box_cell {w w1 : World} {arr : Array Value} {t : TypeId} {i : Nat} {v : Value} (hb : Below (w.alloc (.cells arr t)).heap.size (w.alloc (.cells arr t)) w1) (hi : arr[i]? = some v) : w1.cell? ⟨w.heap.size, i, Option.none⟩ = some v := by
  have e : (w.alloc (.cells arr t)).heap = w.heap.push (.cells arr t (0, 0)) := rfl
  have e2 : w1.heap[w.heap.size]? = some (.cells arr t (0, 0)) := by rw [hb.block w.heap.size (by rw [e]; simp), e]; simp
  simp only [World.cell?, e2]; exact hi
theorem below_alloc {w w1 : World} {o : Obj} (hb : Below (w.alloc o).heap.size (w.alloc o) w1) : Below w.heap.size w w1 :=
  ((Below.refl _ w).alloc (Nat.le_refl _) o).trans (hb.mono (by simp))
theorem alloc_below (w : World) (o : Obj) : Below w.heap.size w (w.alloc o) := (Below.refl _ w).alloc (Nat.le_refl _) o
set_option maxHeartbeats 1000000 in
theorem szExp_of (x : X) (hs : x.h.s.size ≤ 9223372036854775807)
    (ih : ∀ (w : World) (v : Value) (left : Int), EV w 0 x.l v → 0 ≤ left → left ≤ 1048576 → Calls Tryz.prog 188 #[v, .int .i64 left] w (Sz (esize x.l) left w))
    (w : World) (v : Value) (left : Int) (hv : EV w 0 x.l v) (h0 : 0 ≤ left) (h1 : left ≤ 1048576) :
    Calls Tryz.prog 162 #[.agg #[.int .i64 x.h.k, .int .i64 x.h.n, .string x.h.s, v], .int .i64 left] w (Sz (xsize x) left w) := by
  have Hx : Hid (xsize x = x.h.s.size + esize x.l) := show xsize x = x.h.s.size + esize x.l from rfl
  have hsI : (x.h.s.size : Int) ≤ 9223372036854775807 := by omega
  by_cases h : left < (x.h.s.size : Int)
  · have h' : left - (x.h.s.size : Int) < 0 := by omega
    clear ih
    go_enter Tryz.func162, Tryz.ntmps162
    go_wp2
    all_goals first
      | omega
      | (go_ret; exact Sz.less (by rw [Hx.out]; omega) (alloc_below _ _))
  · have h' : ¬ left - (x.h.s.size : Int) < 0 := by omega
    have Hih := hid ih
    clear ih
    obtain ⟨a, c, rfl⟩ := hv.shape
    have hv1 := hv.later (alloc_below w (.cells #[.int .i64 x.h.k, .int .i64 x.h.n, .string x.h.s, .slice a (elen x.l) c] 162))
    by_cases hd : left - (x.h.s.size : Int) < (esize x.l : Int)
    · go_enter Tryz.func162, Tryz.ntmps162
      go_wp2_with fail
      all_goals try omega
      refine (Hih.out _ _ _ hv1 (by omega) (by omega)).mono ?_
      rintro e w1 ⟨rfl, hb1⟩
      rw [if_pos hd]
      have hb := below_alloc hb1
      clear hb1 hv1
      go_wp2
      go_ret
      exact Sz.less (by rw [Hx.out]; omega) hb
    · have hd' : ¬ left - (x.h.s.size : Int) - (esize x.l : Int) < 0 := by omega
      go_enter Tryz.func162, Tryz.ntmps162
      go_wp2_with fail
      all_goals try omega
      refine (Hih.out _ _ _ hv1 (by omega) (by omega)).mono ?_
      rintro e w1 ⟨rfl, hb1⟩
      rw [if_neg (by omega)]
      have hb := below_alloc hb1
      clear hb1 hv1
      go_wp2
      go_ret
      exact Sz.more (by rw [Hx.out]; omega) (by rw [Hx.out]; omega) hb
set_option maxHeartbeats 2000000 in
theorem szExpS_step (F : EF) (hF : eok F) (hM : elen F ≤ 9223372036854775807)
    (ih : ∀ l : EF, enodes l < enodes F → eok l → elen l ≤ 9223372036854775807 → ∀ (w : World) (v : Value) (left : Int), EV w 0 l v → 0 ≤ left → left ≤ 1048576 → Calls Tryz.prog 188 #[v, .int .i64 left] w (Sz (esize l) left w))
    (w : World) (v : Value) (left : Int) (hv : EV w 0 F v) (h0 : 0 ≤ left) (h1 : left ≤ 1048576) :
    Calls Tryz.prog 188 #[v, .int .i64 left] w (Sz (esize F) left w) := by
  have Hb : Hid (esize F = elen F + ebulk F) := esize_bulk F
  have hMI : (elen F : Int) ≤ 9223372036854775807 := by omega
  obtain ⟨b, o, ao, cap, rfl, hao, _, hin⟩ := hv
  have Hih := hid ih
  clear ih
  by_cases hbig : left < (elen F : Int)
  · have hb' : left - (elen F : Int) < 0 := by omega
    go_enter Tryz.func188, Tryz.ntmps188
    go_wp2
    all_goals first
      | omega
      | (go_ret; exact Sz.less (by rw [Hb.out]; omega) (Below.refl _ _))
  · have hb' : ¬ left - (elen F : Int) < 0 := by omega
    obtain ⟨L0, hL0⟩ : ∃ L0 : Nat, left = (L0 : Int) := ⟨left.toNat, by omega⟩
    subst hL0
    go_enter Tryz.func188, Tryz.ntmps188
    go_wp2
    go_loopw [1, 5] (fun x i wr => ∃ (R : EF) (k L : Nat), i = .int .i64 k ∧ x = .int .i64 (L : Int) ∧ Hid (k + elen R = elen F ∧ enodes R ≤ enodes F ∧ eok R ∧ L + elen F + ebulk F = L0 + ebulk R ∧ L ≤ L0) ∧ EIn w 0 R b (o + k * 4) ∧ Below w.heap.size w wr) (fun _ i _ => elen F - (RowKit.intOf i).toNat)
    case atStart => exact ⟨F, 0, L0 - elen F, rfl, val_intA (by omega), ⟨by omega, Nat.le_refl _, hF, by omega, by omega⟩, by simpa using hin, Below.refl _ _⟩
    case round =>
      obtain ⟨R, k, L, rfl, rfl, hr, hinR, hbw⟩ := hrel
      obtain ⟨e1, e2, e3, e4, e5⟩ := hr.out
      cases R with
      | nil =>
        have hk : ¬ (k : Int) < (elen F : Int) := by simp only [elen] at e1; omega
        simp only [ebulk] at e4
        go_wp2
        go_ret
        exact Sz.more (by rw [Hb.out]; omega) (by rw [Hb.out]; omega) hbw
      | node p q h l r =>
        have hlt : (k : Int) < (elen F : Int) := by simp only [elen] at e1; omega
        rcases hao with rfl | hnil
        · obtain ⟨⟨a0, a1, a2, u, a3, hu⟩, hinr⟩ := EIn_node.1 (EIn_later hbw _ _ _ hinR)
          have hinr0 := (EIn_node.1 hinR).2
          obtain ⟨f1, f2, f3, f4⟩ := e3
          simp only [enodes] at e2
          have Hl := hid (fun w v left => Hih.out l (by omega) f3 f2 w v left)
          have hL0 : (0 : Int) ≤ (L : Int) := by omega
          have hL1 : (L : Int) ≤ 1048576 := by omega
          have He : Hid (L + elen F + ebulk F = L0 + (h.s.size + esize l + ebulk r) ∧ enodes r ≤ enodes F ∧ eok r ∧ k + (elen r + 1) = elen F ∧ L ≤ L0) := ⟨e4, by omega, f4, e1, e5⟩
          clear hr hinR e1 e2 e4 e5 hinr hin
          by_cases hd : (L : Int) < (xsize ⟨h, l⟩ : Int)
          · go_wp2_with fail
            refine (szExp_of ⟨h, l⟩ f1 Hl.out _ u (L : Int) hu hL0 hL1).mono ?_
            rintro e w1 ⟨rfl, hb1⟩
            rw [if_pos hd]
            have hbw1 := hbw.trans (hb1.mono hbw.size)
            clear hb1 hbw a0 a1 a2 a3
            go_wp2
            go_ret
            refine Sz.less ?_ hbw1
            rw [Hb.out]; have := He.out.1; simp only [xsize] at hd; omega
          · have hnn : ¬ (L : Int) - (xsize ⟨h, l⟩ : Int) < 0 := by omega
            go_wp2_with fail
            refine (szExp_of ⟨h, l⟩ f1 Hl.out _ u (L : Int) hu hL0 hL1).mono ?_
            rintro e w1 ⟨rfl, hb1⟩
            rw [if_neg (by omega)]
            have hbw1 := hbw.trans (hb1.mono hbw.size)
            clear hb1 hbw a0 a1 a2 a3
            go_wp2
            go_roundw
            case rel =>
              refine ⟨r, k + 1, L - xsize ⟨h, l⟩, by go_num, val_intA (by omega), ?_, by rw [show o + (k + 1) * 4 = o + k * 4 + 4 by omega]; exact hinr0, hbw1⟩
              obtain ⟨g1, g2, g3, g4, g5⟩ := He.out
              simp only [xsize] at hd hnn ⊢
              exact ⟨by omega, g2, g3, by omega, by omega⟩
            case measure => simp [RowKit.intOf]; omega
        · subst hnil; simp only [elen] at e1; omega
theorem szExpS_all : ∀ (n : Nat) (F : EF), enodes F < n → eok F → elen F ≤ 9223372036854775807 → ∀ (w : World) (v : Value) (left : Int), EV w 0 F v → 0 ≤ left → left ≤ 1048576 → Calls Tryz.prog 188 #[v, .int .i64 left] w (Sz (esize F) left w)
  | 0, _, h, _, _, _, _, _, _, _, _ => absurd h (by omega)
  | n + 1, F, h, hF, hM, w, v, left, hv, h0, h1 => szExpS_step F hF hM (fun l hl hk hm w v left a b c => szExpS_all n l (by omega) hk hm w v left a b c) w v left hv h0 h1
theorem szExpS_is (F : EF) (hF : eok F) (hM : elen F ≤ 9223372036854775807) (w : World) (v : Value) (left : Int) (hv : EV w 0 F v) (h0 : 0 ≤ left) (h1 : left ≤ 1048576) :
    Calls Tryz.prog 188 #[v, .int .i64 left] w (Sz (esize F) left w) := szExpS_all _ F (Nat.lt_succ_self _) hF hM w v left hv h0 h1
theorem szExp_is (x : X) (hx : xok x) (w : World) (v : Value) (left : Int) (hv : EV w 0 x.l v) (h0 : 0 ≤ left) (h1 : left ≤ 1048576) :
    Calls Tryz.prog 162 #[.agg #[.int .i64 x.h.k, .int .i64 x.h.n, .string x.h.s, v], .int .i64 left] w (Sz (xsize x) left w) :=
  szExp_of x hx.1 (fun w v left a b c => szExpS_is x.l hx.2.2 hx.2.1 w v left a b c) w v left hv h0 h1
abbrev sagg (h : SH) (v1 v2 v3 v4 v : Value) : Value := .agg #[.int .i64 h.k, .string h.s, .int .i64 h.x1.h.k, .int .i64 h.x1.h.n, .string h.x1.h.s, v1, .int .i64 h.x2.h.k, .int .i64 h.x2.h.n, .string h.x2.h.s, v2, .int .i64 h.x3.h.k, .int .i64 h.x3.h.n, .string h.x3.h.s, v3, .int .i64 h.x4.h.k, .int .i64 h.x4.h.n, .string h.x4.h.s, v4, v]
abbrev sarr (h : SH) (v1 v2 v3 v4 v : Value) : Array Value := #[.int .i64 h.k, .string h.s, .int .i64 h.x1.h.k, .int .i64 h.x1.h.n, .string h.x1.h.s, v1, .int .i64 h.x2.h.k, .int .i64 h.x2.h.n, .string h.x2.h.s, v2, .int .i64 h.x3.h.k, .int .i64 h.x3.h.n, .string h.x3.h.s, v3, .int .i64 h.x4.h.k, .int .i64 h.x4.h.n, .string h.x4.h.s, v4, v]
structure HV (w : World) (lo : Nat) (h : SH) (v1 v2 v3 v4 : Value) : Prop where
  e1 : EV w lo h.x1.l v1
  e2 : EV w lo h.x2.l v2
  e3 : EV w lo h.x3.l v3
  e4 : EV w lo h.x4.l v4
theorem HV.later {w w' : World} {lo : Nat} {h : SH} {v1 v2 v3 v4 : Value} (hv : HV w lo h v1 v2 v3 v4) (hb : Below w.heap.size w w') : HV w' lo h v1 v2 v3 v4 := ⟨hv.e1.later hb, hv.e2.later hb, hv.e3.later hb, hv.e4.later hb⟩
theorem HV.low {w : World} {lo : Nat} {h : SH} {v1 v2 v3 v4 : Value} (hv : HV w lo h v1 v2 v3 v4) : HV w 0 h v1 v2 v3 v4 := ⟨hv.e1.low, hv.e2.low, hv.e3.low, hv.e4.low⟩
theorem SC.open {w : World} {lo : Nat} {h : SH} {l : SF} {b o : Nat} (hc : SC w lo h l b o) : ∃ v1 v2 v3 v4 v, HV w lo h v1 v2 v3 v4 ∧ SV w lo l v ∧
    w.cell? ⟨b, o, Option.none⟩ = some (.int .i64 h.k) ∧ w.cell? ⟨b, o + 1, Option.none⟩ = some (.string h.s) ∧
    (w.cell? ⟨b, o + 2, Option.none⟩ = some (.int .i64 h.x1.h.k) ∧ w.cell? ⟨b, o + 3, Option.none⟩ = some (.int .i64 h.x1.h.n) ∧ w.cell? ⟨b, o + 4, Option.none⟩ = some (.string h.x1.h.s) ∧ w.cell? ⟨b, o + 5, Option.none⟩ = some v1) ∧
    (w.cell? ⟨b, o + 6, Option.none⟩ = some (.int .i64 h.x2.h.k) ∧ w.cell? ⟨b, o + 7, Option.none⟩ = some (.int .i64 h.x2.h.n) ∧ w.cell? ⟨b, o + 8, Option.none⟩ = some (.string h.x2.h.s) ∧ w.cell? ⟨b, o + 9, Option.none⟩ = some v2) ∧
    (w.cell? ⟨b, o + 10, Option.none⟩ = some (.int .i64 h.x3.h.k) ∧ w.cell? ⟨b, o + 11, Option.none⟩ = some (.int .i64 h.x3.h.n) ∧ w.cell? ⟨b, o + 12, Option.none⟩ = some (.string h.x3.h.s) ∧ w.cell? ⟨b, o + 13, Option.none⟩ = some v3) ∧
    (w.cell? ⟨b, o + 14, Option.none⟩ = some (.int .i64 h.x4.h.k) ∧ w.cell? ⟨b, o + 15, Option.none⟩ = some (.int .i64 h.x4.h.n) ∧ w.cell? ⟨b, o + 16, Option.none⟩ = some (.string h.x4.h.s) ∧ w.cell? ⟨b, o + 17, Option.none⟩ = some v4) ∧
    w.cell? ⟨b, o + 18, Option.none⟩ = some v := by
  obtain ⟨h0, h1, ⟨a0, a1, a2, v1, a3, a4⟩, ⟨b0, b1, b2, v2, b3, b4⟩, ⟨c0, c1, c2, v3, c3, c4⟩, ⟨d0, d1, d2, v4, d3, d4⟩, v, h6, h7⟩ := hc
  exact ⟨v1, v2, v3, v4, v, ⟨a4, b4, c4, d4⟩, h7, h0, h1, ⟨a0, a1, a2, a3⟩, ⟨b0, b1, b2, b3⟩, ⟨c0, c1, c2, c3⟩, ⟨d0, d1, d2, d3⟩, h6⟩
theorem SC.range {w : World} {lo : Nat} {h : SH} {l : SF} {b o : Nat} (hc : SC w lo h l b o) : ∃ v1 v2 v3 v4 v, HV w lo h v1 v2 v3 v4 ∧ SV w lo l v ∧ w.rangeAt b o (scells h v1 v2 v3 v4 v) := by
  obtain ⟨v1, v2, v3, v4, v, hv, hl, a0, a1, ⟨a2, a3, a4, a5⟩, ⟨a6, a7, a8, a9⟩, ⟨a10, a11, a12, a13⟩, ⟨a14, a15, a16, a17⟩, a18⟩ := hc.open
  refine ⟨v1, v2, v3, v4, v, hv, hl, fun j u hj => ?_⟩
  match j, hj with
  | 0, hj => cases hj; exact a0
  | 1, hj => cases hj; exact a1
  | 2, hj => cases hj; exact a2
  | 3, hj => cases hj; exact a3
  | 4, hj => cases hj; exact a4
  | 5, hj => cases hj; exact a5
  | 6, hj => cases hj; exact a6
  | 7, hj => cases hj; exact a7
  | 8, hj => cases hj; exact a8
  | 9, hj => cases hj; exact a9
  | 10, hj => cases hj; exact a10
  | 11, hj => cases hj; exact a11
  | 12, hj => cases hj; exact a12
  | 13, hj => cases hj; exact a13
  | 14, hj => cases hj; exact a14
  | 15, hj => cases hj; exact a15
  | 16, hj => cases hj; exact a16
  | 17, hj => cases hj; exact a17
  | 18, hj => cases hj; exact a18
  | j + 19, hj => simp [scells, xcells] at hj
theorem sizeLS : (Tryz.prog.info? 164).map (·.size) = some 19 := by kernel_rfl
theorem sizeIS : (Tryz.prog.info? 119).map (·.size) = some 19 := by kernel_rfl
set_option maxHeartbeats 2000000 in
theorem szStmt_of (h : SH) (l : SF) (hs : h.s.size ≤ 9223372036854775807) (k1 : xok h.x1) (k2 : xok h.x2) (k3 : xok h.x3) (k4 : xok h.x4)
    (ih : ∀ (w : World) (v : Value) (left : Int), SV w 0 l v → 0 ≤ left → left ≤ 1048576 → Calls Tryz.prog 56 #[v, .int .i64 left] w (Sz (ssize l) left w))
    (w : World) (v1 v2 v3 v4 v : Value) (left : Int) (hv : HV w 0 h v1 v2 v3 v4) (hl : SV w 0 l v) (h0 : 0 ≤ left) (h1 : left ≤ 1048576) :
    Calls Tryz.prog 112 #[sagg h v1 v2 v3 v4 v, .int .i64 left] w (Sz (hsize h + ssize l) left w) := by
  have Hx : Hid (((hsize h + ssize l : Nat) : Int) = (h.s.size : Int) + (xsize h.x1 : Int) + (xsize h.x2 : Int) + (xsize h.x3 : Int) + (xsize h.x4 : Int) + (ssize l : Int)) := show ((hsize h + ssize l : Nat) : Int) = _ by unfold hsize; omega
  have hsI : (h.s.size : Int) ≤ 9223372036854775807 := by omega
  have Hih := hid ih
  have Hv := hid hv
  have Hl := hid hl
  have hb0 : Below w.heap.size w (w.alloc (.cells (sarr h v1 v2 v3 v4 v) 164)) := alloc_below _ _
  clear ih hv hl
  by_cases hd : left < (h.s.size : Int)
  · have h' : left - (h.s.size : Int) < 0 := by omega
    go_enter Tryz.func112, Tryz.ntmps112
    go_wp2
    all_goals first
      | omega
      | (go_ret; exact Sz.less (by rw [Hx.out]; omega) (alloc_below _ _))
  have h' : ¬ left - (h.s.size : Int) < 0 := by omega
  go_enter Tryz.func112, Tryz.ntmps112
  go_wp2_with fail
  all_goals try omega
  obtain ⟨L0, hL0⟩ : ∃ L0 : Int, left - (h.s.size : Int) = L0 := ⟨_, rfl⟩
  rw [hL0]
  have HL0 : Hid (left = (h.s.size : Int) + L0) := show left = (h.s.size : Int) + L0 by omega
  have l0 : 0 ≤ L0 ∧ L0 ≤ 1048576 := by omega
  have Hlt := hid h1
  clear hd h' hL0 h0 h1 hsI
  refine (szExp_is h.x1 k1 _ v1 L0 (Hv.out.e1.later hb0) l0.1 l0.2).mono ?_
  rintro e w1 ⟨rfl, hb1⟩
  by_cases hd : L0 < (xsize h.x1 : Int)
  · rw [if_pos hd]
    have hb := below_alloc hb1
    go_wp2
    go_ret
    refine Sz.less ?_ hb
    rw [Hx.out, HL0.out]; omega
  rw [if_neg hd]
  obtain ⟨L1, hL1⟩ : ∃ L1 : Int, L0 - (xsize h.x1 : Int) = L1 := ⟨_, rfl⟩
  rw [hL1]
  have HL1 : Hid (left = (h.s.size : Int) + (xsize h.x1 : Int) + L1) := show left = _ by rw [HL0.out]; omega
  have l1 : 0 ≤ L1 ∧ L1 ≤ 1048576 := by omega
  have hn : ¬ L1 < 0 := by omega
  have hA1 := hb1
  have hB1 := below_alloc hA1
  have c10 := box_cell (i := 6) hA1 rfl
  have c11 := box_cell (i := 7) hA1 rfl
  have c12 := box_cell (i := 8) hA1 rfl
  have c13 := box_cell (i := 9) hA1 rfl
  clear hd hL1 hb1 HL0 l0  hb0
  go_wp2_with fail
  refine (szExp_is h.x2 k2 _ v2 L1 (Hv.out.e2.later hB1) l1.1 l1.2).mono ?_
  rintro e w2 ⟨rfl, hb2⟩
  by_cases hd : L1 < (xsize h.x2 : Int)
  · rw [if_pos hd]
    have hb := below_alloc (hA1.trans (hb2.mono hA1.size))
    go_wp2
    go_ret
    refine Sz.less ?_ hb
    rw [Hx.out, HL1.out]; omega
  rw [if_neg hd]
  obtain ⟨L2, hL2⟩ : ∃ L2 : Int, L1 - (xsize h.x2 : Int) = L2 := ⟨_, rfl⟩
  rw [hL2]
  have HL2 : Hid (left = (h.s.size : Int) + (xsize h.x1 : Int) + (xsize h.x2 : Int) + L2) := show left = _ by rw [HL1.out]; omega
  have l2 : 0 ≤ L2 ∧ L2 ≤ 1048576 := by omega
  have hn : ¬ L2 < 0 := by omega
  have hA2 := hA1.trans (hb2.mono hA1.size)
  have hB2 := below_alloc hA2
  have c20 := box_cell (i := 10) hA2 rfl
  have c21 := box_cell (i := 11) hA2 rfl
  have c22 := box_cell (i := 12) hA2 rfl
  have c23 := box_cell (i := 13) hA2 rfl
  clear hd hL2 hb2 HL1 l1 c10 c11 c12 c13 hA1 hB1
  go_wp2_with fail
  refine (szExp_is h.x3 k3 _ v3 L2 (Hv.out.e3.later hB2) l2.1 l2.2).mono ?_
  rintro e w3 ⟨rfl, hb3⟩
  by_cases hd : L2 < (xsize h.x3 : Int)
  · rw [if_pos hd]
    have hb := below_alloc (hA2.trans (hb3.mono hA2.size))
    go_wp2
    go_ret
    refine Sz.less ?_ hb
    rw [Hx.out, HL2.out]; omega
  rw [if_neg hd]
  obtain ⟨L3, hL3⟩ : ∃ L3 : Int, L2 - (xsize h.x3 : Int) = L3 := ⟨_, rfl⟩
  rw [hL3]
  have HL3 : Hid (left = (h.s.size : Int) + (xsize h.x1 : Int) + (xsize h.x2 : Int) + (xsize h.x3 : Int) + L3) := show left = _ by rw [HL2.out]; omega
  have l3 : 0 ≤ L3 ∧ L3 ≤ 1048576 := by omega
  have hn : ¬ L3 < 0 := by omega
  have hA3 := hA2.trans (hb3.mono hA2.size)
  have hB3 := below_alloc hA3
  have c30 := box_cell (i := 14) hA3 rfl
  have c31 := box_cell (i := 15) hA3 rfl
  have c32 := box_cell (i := 16) hA3 rfl
  have c33 := box_cell (i := 17) hA3 rfl
  clear hd hL3 hb3 HL2 l2 c20 c21 c22 c23 hA2 hB2
  go_wp2_with fail
  refine (szExp_is h.x4 k4 _ v4 L3 (Hv.out.e4.later hB3) l3.1 l3.2).mono ?_
  rintro e w4 ⟨rfl, hb4⟩
  by_cases hd : L3 < (xsize h.x4 : Int)
  · rw [if_pos hd]
    have hb := below_alloc (hA3.trans (hb4.mono hA3.size))
    go_wp2
    go_ret
    refine Sz.less ?_ hb
    rw [Hx.out, HL3.out]; omega
  rw [if_neg hd]
  obtain ⟨L4, hL4⟩ : ∃ L4 : Int, L3 - (xsize h.x4 : Int) = L4 := ⟨_, rfl⟩
  rw [hL4]
  have HL4 : Hid (left = (h.s.size : Int) + (xsize h.x1 : Int) + (xsize h.x2 : Int) + (xsize h.x3 : Int) + (xsize h.x4 : Int) + L4) := show left = _ by rw [HL3.out]; omega
  have l4 : 0 ≤ L4 ∧ L4 ≤ 1048576 := by omega
  have hn : ¬ L4 < 0 := by omega
  have hA4 := hA3.trans (hb4.mono hA3.size)
  have hB4 := below_alloc hA4
  have c40 := box_cell (i := 18) hA4 rfl
  clear hd hL4 hb4 HL3 l3 c30 c31 c32 c33 hA3 hB3
  go_wp2_with fail
  refine (Hih.out _ v L4 (Hl.out.later hB4) l4.1 l4.2).mono ?_
  rintro e w5 ⟨rfl, hb5⟩
  by_cases hd : L4 < (ssize l : Int)
  · rw [if_pos hd]
    have hb := below_alloc (hA4.trans (hb5.mono hA4.size))
    go_wp2
    go_ret
    refine Sz.less ?_ hb
    rw [Hx.out, HL4.out]; omega
  rw [if_neg hd]
  obtain ⟨L5, hL5⟩ : ∃ L5 : Int, L4 - (ssize l : Int) = L5 := ⟨_, rfl⟩
  rw [hL5]
  have HL5 : Hid (left = (h.s.size : Int) + (xsize h.x1 : Int) + (xsize h.x2 : Int) + (xsize h.x3 : Int) + (xsize h.x4 : Int) + (ssize l : Int) + L5) := show left = _ by rw [HL4.out]; omega
  have l5 : 0 ≤ L5 ∧ L5 ≤ 1048576 := by omega
  have hn : ¬ L5 < 0 := by omega
  have hA5 := hA4.trans (hb5.mono hA4.size)
  have hB5 := below_alloc hA5
  clear hd hL5 hb5 HL4 l4 c40 hA4 hB4
  go_wp2
  go_ret
  exact Sz.more (by rw [Hx.out, HL5.out]; omega) (by rw [Hx.out]; have := HL5.out; omega) hB5
theorem rangeAt_later {w w' : World} {b o : Nat} {cs : List Value} (h : w.rangeAt b o cs) (hb : Below w.heap.size w w') : w'.rangeAt b o cs := fun j v hv => keeps hb (h j v hv)
theorem there_later {w w' : World} {b o n : Nat} (h : w.there b o n) (hb : Below w.heap.size w w') : w'.there b o n := fun j hj => by
  obtain ⟨h1, h2⟩ := h j hj
  obtain ⟨u, hu⟩ := Option.isSome_iff_exists.1 h1
  refine ⟨by rw [keeps hb hu]; rfl, ?_⟩
  have hlt := lt_of_cellA hu
  have e := hb.block b hlt
  unfold World.frozen? at h2 ⊢
  simp only [e]
  exact h2
theorem rangeAt_app {w : World} {b o : Nat} {cs ds : List Value} (h1 : w.rangeAt b o cs) (h2 : w.rangeAt b (o + cs.length) ds) : w.rangeAt b o (cs ++ ds) := fun j v hv => by
  rcases Nat.lt_or_ge j cs.length with h | h
  · rw [List.getElem?_append_left h] at hv; exact h1 j v hv
  · rw [List.getElem?_append_right h] at hv
    have := h2 _ v hv
    rwa [show o + cs.length + (j - cs.length) = o + j by omega] at this
theorem rangeAt_part {w : World} {b o : Nat} {cs ds es fs : List Value} (h : w.rangeAt b o cs) (e : cs = ds ++ (es ++ fs)) : w.rangeAt b (o + ds.length) es := fun j v hv => by
  have hj : j < es.length := (List.getElem?_eq_some_iff.1 hv).1
  have := h (ds.length + j) v (by rw [e, List.getElem?_append_right (by omega), Nat.add_sub_cancel_left, List.getElem?_append_left hj]; exact hv)
  rwa [show o + (ds.length + j) = o + ds.length + j by omega] at this
theorem there_part {w : World} {b o n : Nat} (h : w.there b o n) (i m : Nat) (hm : i + m ≤ n) : w.there b (o + i) m := fun j hj => by
  have := h (i + j) (by omega)
  rwa [show o + (i + j) = o + i + j by omega] at this
theorem blk_range {w : World} {b : Nat} {arr : Array Value} {t : TypeId} {fr : Nat × Nat} (h : w.heap[b]? = some (.cells arr t fr)) : w.rangeAt b 0 arr.toList := fun j v hv => by
  simp only [World.cell?, h, Nat.zero_add]; simpa using hv
theorem blk_there {w : World} {b n : Nat} {arr : Array Value} {t : TypeId} (h : w.heap[b]? = some (.cells arr t (0, 0))) (hn : n ≤ arr.size) : w.there b 0 n := fun j hj => by
  refine ⟨?_, by simp [World.frozen?, h]⟩
  simp only [World.cell?, h, Nat.zero_add]
  rw [Array.getElem?_eq_getElem (by omega)]; rfl
def Keeps (lo : Nat) (w w' : World) : Prop := ∀ (a : Addr) v, lo ≤ a.block → w.cell? a = some v → w'.cell? a = some v
theorem Keeps.refl (lo : Nat) (w : World) : Keeps lo w w := fun _ _ _ h => h
theorem Keeps.trans {lo : Nat} {w w1 w2 : World} (h : Keeps lo w w1) (g : Keeps lo w1 w2) : Keeps lo w w2 := fun a v hl hc => g a v hl (h a v hl hc)
theorem Keeps.later {lo : Nat} {w w' : World} (hb : Below w.heap.size w w') : Keeps lo w w' := fun _ _ _ hc => keeps hb hc
theorem Keeps.sets {lo g : Nat} (w : World) (hg : g < lo) (o : Nat) (vs : List Value) : Keeps lo w (w.setCells g o vs) := fun a v hl hc => by
  rw [World.cell?_setCells_out g vs o w a (fun hb _ => by omega)]; exact hc
theorem Keeps.set {lo : Nat} (w : World) (p : Addr) (hg : p.block < lo) (u : Value) : Keeps lo w (w.setCell p u) := fun a v hl hc => by
  rw [World.cell?_setCell_other _ _ _ _ (fun e => by subst e; omega)]; exact hc
theorem below_sets {B g : Nat} {w : World} : ∀ (vs : List Value) (o : Nat) {w1 : World}, Below B w w1 → B ≤ g → Below B w (w1.setCells g o vs)
  | [], _, _, h, _ => h
  | v :: vs, o, _, h, hg => by rw [World.setCells]; exact below_sets vs (o + 1) (h.setCell (p := ⟨g, o, Option.none⟩) hg v) hg
theorem size_sets (g : Nat) : ∀ (vs : List Value) (o : Nat) (w : World), (w.setCells g o vs).heap.size = w.heap.size
  | [], _, _ => rfl
  | v :: vs, o, w => by rw [World.setCells, size_sets g vs]; simp
theorem EIn_lower {w : World} {lo lo' : Nat} (hlo : lo' ≤ lo) : ∀ (F : EF) (b o : Nat), EIn w lo F b o → EIn w lo' F b o
  | .nil, _, _, _ => trivial
  | .node _ _ h l r, b, o, hc => by
    obtain ⟨⟨h0, h1, h2, v, h3, h4⟩, h5⟩ := EIn_node.1 hc
    exact EIn_node.2 ⟨⟨h0, h1, h2, v, h3, h4.lower hlo⟩, EIn_lower hlo r b _ h5⟩
theorem XC.lower {w : World} {lo lo' : Nat} {x : X} {b o : Nat} (hlo : lo' ≤ lo) (h : XC w lo x b o) : XC w lo' x b o := by
  obtain ⟨h0, h1, h2, v, h3, h4⟩ := h
  exact ⟨h0, h1, h2, v, h3, h4.lower hlo⟩
theorem SIn_lower {w : World} {lo lo' : Nat} (hlo : lo' ≤ lo) : ∀ (F : SF) (b o : Nat), SIn w lo F b o → SIn w lo' F b o
  | .nil, _, _, _ => trivial
  | .node _ _ h l r, b, o, hc => by
    obtain ⟨⟨h0, h1, h2, h3, h4, h5, v, h6, h7⟩, h8⟩ := SIn_node.1 hc
    exact SIn_node.2 ⟨⟨h0, h1, h2.lower hlo, h3.lower hlo, h4.lower hlo, h5.lower hlo, v, h6, h7.lower hlo⟩, SIn_lower hlo r b _ h8⟩
theorem EV.laid {w : World} {lo g : Nat} {F : EF} {xs : List Value} (h : ERow w lo F xs) (hr : w.rangeAt g 0 xs) (c : Nat) (hlo : g ≤ lo) : EV w g F (.slice (some ⟨g, 0, Option.none⟩) (elen F) c) :=
  ⟨g, 0, _, c, rfl, .inl rfl, Nat.le_refl _, EIn_lower hlo _ _ _ (ERow.laid 0 h (by simpa [World.rangeAt] using hr))⟩
theorem SV.laid {w : World} {lo g : Nat} {F : SF} {xs : List Value} (h : SRow w lo F xs) (hr : w.rangeAt g 0 xs) (c : Nat) (hlo : g ≤ lo) : SV w g F (.slice (some ⟨g, 0, Option.none⟩) (slen F) c) :=
  ⟨g, 0, _, c, rfl, .inl rfl, Nat.le_refl _, SIn_lower hlo _ _ _ (SRow.laid 0 h (by simpa [World.rangeAt] using hr))⟩
theorem EV.isOne {w : World} {lo : Nat} {F : EF} {v : Value} (h : EV w lo F v) : v.oneCell' = true := by obtain ⟨a, c, rfl⟩ := h.shape; rfl
theorem SV.isOne {w : World} {lo : Nat} {F : SF} {v : Value} (h : SV w lo F v) : v.oneCell' = true := by obtain ⟨a, c, rfl⟩ := h.shape; rfl
theorem own_block {w : World} {B sz n g cap : Nat} {e : TypeId} {xs : List Value} (h : w.ownsRow B e sz (.slice (some ⟨g, 0, Option.none⟩) n cap) n xs) : ∃ cur, w.heap[g]? = some (.cells cur e (0, 0)) ∧ B ≤ g ∧ cur.size = cap * sz ∧ n ≤ cap := by
  rcases h.2 with ⟨h0, _⟩ | ⟨g', cap', cur, h1, h2, h3, h4, h5, h6, h7⟩
  · cases h0
  · injection h1 with e1 e2 e3
    injection e1 with e1
    injection e1 with e1
    subst e1; subst e3
    exact ⟨cur, h3, h2, h6, h4⟩
theorem heap3 (w : World) (a b c : Obj) : (((w.alloc a).alloc b).alloc c).heap[w.heap.size]? = some a ∧ (((w.alloc a).alloc b).alloc c).heap[w.heap.size + 1]? = some b ∧ (((w.alloc a).alloc b).alloc c).heap[w.heap.size + 2]? = some c := by
  have e : ∀ (v : World) (o : Obj), (v.alloc o).heap = v.heap.push o := fun _ _ => rfl
  have last : ∀ (v : World) (o : Obj), (v.alloc o).heap[v.heap.size]? = some o := fun v o => by rw [e]; simp
  refine ⟨?_, ?_, ?_⟩
  · rw [Below.heap_alloc _ _ _ (by simp; omega), Below.heap_alloc _ _ _ (by simp), e]; simp
  · rw [Below.heap_alloc _ _ _ (by simp)]
    exact (congrArg (fun n => ((w.alloc a).alloc b).heap[n]?) (show w.heap.size + 1 = (w.alloc a).heap.size by simp)).trans (last _ _)
  · exact (congrArg (fun n => (((w.alloc a).alloc b).alloc c).heap[n]?) (show w.heap.size + 2 = ((w.alloc a).alloc b).heap.size by simp)).trans (last _ _)
end Go.Proofs.YtfoghiminlbdaaaGreat
namespace Go.Proofs.YtfoghiminlbdaaaGreat
open Go.ChangeShapes Go.WideShapes Go.ChangeAt Go.RowKit
set_option linter.unusedSimpArgs false
set_option linter.unusedVariables false
theorem cE : Tryz.prog.cellsOf 162 = 4 := by kernel_rfl
theorem cS : Tryz.prog.cellsOf 164 = 19 := by kernel_rfl
theorem cI : Tryz.prog.cellsOf 3 = 1 := by kernel_rfl
theorem cT : Tryz.prog.cellsOf 9 = 1 := by kernel_rfl
theorem cEs : Tryz.prog.cellsOf 160 = 1 := by kernel_rfl
theorem cSs : Tryz.prog.cellsOf 51 = 1 := by kernel_rfl
theorem build_exps {W : World} {b o len : Nat} (each : ∀ i, i < len → ∃ x : X, xok x ∧ XC W 0 x b (o + i * 4)) : ∀ d, d ≤ len → ∃ R : EF, elen R = d ∧ eok R ∧ EIn W 0 R b (o + (len - d) * 4)
  | 0, _ => ⟨.nil, rfl, trivial, trivial⟩
  | d + 1, hd => by
    obtain ⟨R, h1, h2, h3⟩ := build_exps each d (by omega)
    obtain ⟨x, k, hx⟩ := each (len - (d + 1)) (by omega)
    refine ⟨.node 0 0 x.h x.l R, by simp only [elen]; omega, ⟨k.1, k.2.1, k.2.2, h2⟩, EIn_node.2 ⟨hx, ?_⟩⟩
    rw [show o + (len - (d + 1)) * 4 + 4 = o + (len - d) * 4 by omega]; exact h3
theorem build_stmts {W : World} {b o len : Nat} (each : ∀ i, i < len → ∃ (h : SH) (l : SF), (h.s.size ≤ 9223372036854775807 ∧ xok h.x1 ∧ xok h.x2 ∧ xok h.x3 ∧ xok h.x4 ∧ slen l ≤ 9223372036854775807 ∧ sok l) ∧ SC W 0 h l b (o + i * 19)) : ∀ d, d ≤ len → ∃ R : SF, slen R = d ∧ sok R ∧ SIn W 0 R b (o + (len - d) * 19)
  | 0, _ => ⟨.nil, rfl, trivial, trivial⟩
  | d + 1, hd => by
    obtain ⟨R, h1, h2, h3⟩ := build_stmts each d (by omega)
    obtain ⟨h, l, ⟨k1, k2, k3, k4, k5, k6, k7⟩, hx⟩ := each (len - (d + 1)) (by omega)
    refine ⟨.node 0 0 h l R, by simp only [slen]; omega, ⟨k1, k2, k3, k4, k5, k6, k7, h2⟩, SIn_node.2 ⟨hx, ?_⟩⟩
    rw [show o + (len - (d + 1)) * 19 + 19 = o + (len - d) * 19 by omega]; exact h3
section
variable {H : Type} {enc : TypeId × Value → H} {W : World} {sp : Nat → Bool} {held : Bool}
set_option maxRecDepth 100000 in
theorem open_exp_of {fuel : Nat} {cs : List Value} {y : DataW H × List MemPlace}
    (ih : ∀ m, m < fuel → ∀ (cs : List Value) (x : DataW H × List MemPlace), DataW.trod enc Tryz.prog W 0 sp held m 160 cs = some x → ∃ (v : Value) (F : EF), cs = [v] ∧ eok F ∧ elen F ≤ 9223372036854775807 ∧ EV W 0 F v)
    (h : DataW.trod enc Tryz.prog W 0 sp held fuel 162 cs = some y) : ∃ (x : X) (v : Value), cs = xcells x v ∧ xok x ∧ EV W 0 x.l v := by
  obtain ⟨xs, m, hm, _, hlen, hxl, hf⟩ := DataW.trod_struct Tryz.underlying162 h
  rw [cE] at hlen
  match xs, hxl, cs, hlen with
  | [y0, y1, y2, y3], _, [v0, v1, v2, v3], _ =>
    have g0 := hf 0 _ rfl
    have g1 := hf 1 _ rfl
    have g2 := hf 2 _ rfl
    have g3 := hf 3 _ rfl
    simp [cI, cT, cEs] at g0 g1 g2 g3
    obtain ⟨k, e0, _, _⟩ := DataW.trod_int Tryz.underlying3 g0
    obtain ⟨n, e1, _, _⟩ := DataW.trod_int Tryz.underlying3 g1
    obtain ⟨s, e2, _, hs⟩ := DataW.trod_string Tryz.underlying9 g2
    obtain ⟨v, F, e3, k1, k2, k3⟩ := ih m (by omega) _ _ g3
    injection e0 with e0; injection e1 with e1; injection e2 with e2; injection e3 with e3
    subst e0; subst e1; subst e2; subst e3
    exact ⟨⟨⟨k, n, s⟩, F⟩, v3, rfl, ⟨by unfold maxLen at hs; show s.size ≤ _; omega, k2, k1⟩, k3⟩
theorem open_exps : ∀ (fuel : Nat) (cs : List Value) (x : DataW H × List MemPlace), DataW.trod enc Tryz.prog W 0 sp held fuel 160 cs = some x → ∃ (v : Value) (F : EF), cs = [v] ∧ eok F ∧ elen F ≤ 9223372036854775807 ∧ EV W 0 F v := by
  intro fuel
  induction fuel using Nat.strongRecOn with
  | _ fuel ih =>
    intro cs x h
    rcases DataW.trod_slice Tryz.underlying160 h with ⟨rfl, _⟩ | ⟨a, len, cap, elems, rest, n, hn, rfl, _, _, hl, hmx, hlen, hel, _, _⟩
    · exact ⟨_, .nil, rfl, trivial, by simp [elen], EV.nil _ _ _ _⟩
    · rw [cE] at hel
      have each : ∀ i, i < len → ∃ (cs' : List Value) (y : DataW H × List MemPlace), W.cells? 0 (a.add (i * 4)) 4 = some cs' ∧ DataW.trod enc Tryz.prog W 0 sp held n 162 cs' = some y := fun i hi => by
        have h1 := hel i hi
        rw [List.getElem?_eq_getElem (by omega), Option.bind_eq_some_iff] at h1
        obtain ⟨cs', h2, h3⟩ := h1
        exact ⟨cs', _, h2, h3⟩
      rcases Nat.eq_zero_or_pos len with h0 | h0
      · subst h0; exact ⟨_, .nil, rfl, trivial, by simp [elen], EV.nil _ _ _ _⟩
      · have each2 : ∀ i, i < len → ∃ (x : X) (v : Value), xok x ∧ EV W 0 x.l v ∧ ∀ j u, (xcells x v)[j]? = some u → W.cell? ((a.add (i * 4)).add j) = some u := fun i hi => by
          obtain ⟨cs', y, h1, h2⟩ := each i hi
          obtain ⟨_, hc, hcell⟩ := World.cells?_some h1
          obtain ⟨x, v, rfl, k1, k2⟩ := open_exp_of (fun m hm cs x h => ih m (by omega) cs x h) h2
          refine ⟨x, v, k1, k2, fun j u hj => ?_⟩
          have hj4 : j < 4 := by have := (List.getElem?_eq_some_iff.1 hj).1; simpa [xcells] using this
          rw [hcell j hj4]; exact hj
        obtain ⟨b, off, spot⟩ := a
        have hsp : spot = Option.none := by
          obtain ⟨x, v, _, _, hc⟩ := each2 0 h0
          have := World.cell?_spot (hc 0 _ rfl)
          simpa [Addr.add] using this
        subst hsp
        have e : ∀ i j, ((⟨b, off, Option.none⟩ : Addr).add i).add j = ⟨b, off + i + j, Option.none⟩ := fun i j => by rw [add_plain, add_plain]
        obtain ⟨R, r1, r2, r3⟩ := build_exps (W := W) (b := b) (o := off) (len := len) (fun i hi => by
          obtain ⟨x, v, k1, k2, hc⟩ := each2 i hi
          have c0 := hc 0 _ rfl; have c1 := hc 1 _ rfl; have c2 := hc 2 _ rfl; have c3 := hc 3 _ rfl
          rw [e] at c0 c1 c2 c3
          exact ⟨x, k1, c0, c1, c2, v, c3, k2⟩) len (Nat.le_refl _)
        rw [Nat.sub_self, Nat.zero_mul, Nat.add_zero] at r3
        refine ⟨_, R, rfl, r2, by unfold maxLen at hmx; omega, b, off, _, cap, by rw [r1], .inl rfl, Nat.zero_le _, r3⟩
theorem open_exp {fuel : Nat} {cs : List Value} {y : DataW H × List MemPlace} (h : DataW.trod enc Tryz.prog W 0 sp held fuel 162 cs = some y) : ∃ (x : X) (v : Value), cs = xcells x v ∧ xok x ∧ EV W 0 x.l v :=
  open_exp_of (fun m _ cs x h => open_exps m cs x h) h
set_option maxRecDepth 100000 in
theorem open_stmt_of {fuel : Nat} {cs : List Value} {y : DataW H × List MemPlace}
    (ih : ∀ m, m < fuel → ∀ (cs : List Value) (x : DataW H × List MemPlace), DataW.trod enc Tryz.prog W 0 sp held m 51 cs = some x → ∃ (v : Value) (F : SF), cs = [v] ∧ sok F ∧ slen F ≤ 9223372036854775807 ∧ SV W 0 F v)
    (h : DataW.trod enc Tryz.prog W 0 sp held fuel 164 cs = some y) : ∃ (h : SH) (l : SF) (v1 v2 v3 v4 v : Value), cs = scells h v1 v2 v3 v4 v ∧ (h.s.size ≤ 9223372036854775807 ∧ xok h.x1 ∧ xok h.x2 ∧ xok h.x3 ∧ xok h.x4 ∧ slen l ≤ 9223372036854775807 ∧ sok l) ∧ HV W 0 h v1 v2 v3 v4 ∧ SV W 0 l v := by
  obtain ⟨xs, m, hm, _, hlen, hxl, hf⟩ := DataW.trod_struct Tryz.underlying164 h
  rw [cS] at hlen
  match xs, hxl, cs, hlen with
  | [y0, y1, y2, y3, y4, y5, y6], _, [a0, a1, a2, a3, a4, a5, a6, a7, a8, a9, a10, a11, a12, a13, a14, a15, a16, a17, a18], _ =>
    have g0 := hf 0 _ rfl
    have g1 := hf 1 _ rfl
    have g2 := hf 2 _ rfl
    have g3 := hf 3 _ rfl
    have g4 := hf 4 _ rfl
    have g5 := hf 5 _ rfl
    have g6 := hf 6 _ rfl
    simp [cI, cT, cE, cSs] at g0 g1 g2 g3 g4 g5 g6
    obtain ⟨k, e0, _, _⟩ := DataW.trod_int Tryz.underlying3 g0
    obtain ⟨s, e1, _, hs⟩ := DataW.trod_string Tryz.underlying9 g1
    obtain ⟨x1, v1, e2, p1, q1⟩ := open_exp g2
    obtain ⟨x2, v2, e3, p2, q2⟩ := open_exp g3
    obtain ⟨x3, v3, e4, p3, q3⟩ := open_exp g4
    obtain ⟨x4, v4, e5, p4, q4⟩ := open_exp g5
    obtain ⟨v, F, e6, k1, k2, k3⟩ := ih m (by omega) _ _ g6
    refine ⟨⟨k, s, x1, x2, x3, x4⟩, F, v1, v2, v3, v4, v, ?_, ⟨by unfold maxLen at hs; show s.size ≤ _; omega, p1, p2, p3, p4, k2, k1⟩, ⟨q1, q2, q3, q4⟩, k3⟩
    show [a0] ++ ([a1] ++ ([a2, a3, a4, a5] ++ ([a6, a7, a8, a9] ++ ([a10, a11, a12, a13] ++ ([a14, a15, a16, a17] ++ [a18]))))) = _
    rw [e0, e1, e2, e3, e4, e5, e6]; rfl
theorem open_stmts : ∀ (fuel : Nat) (cs : List Value) (x : DataW H × List MemPlace), DataW.trod enc Tryz.prog W 0 sp held fuel 51 cs = some x → ∃ (v : Value) (F : SF), cs = [v] ∧ sok F ∧ slen F ≤ 9223372036854775807 ∧ SV W 0 F v := by
  intro fuel
  induction fuel using Nat.strongRecOn with
  | _ fuel ih =>
    intro cs x h
    rcases DataW.trod_slice Tryz.underlying51 h with ⟨rfl, _⟩ | ⟨a, len, cap, elems, rest, n, hn, rfl, _, _, hl, hmx, hlen, hel, _, _⟩
    · exact ⟨_, .nil, rfl, trivial, by simp [slen], SV.nil _ _ _ _⟩
    · rw [cS] at hel
      have each : ∀ i, i < len → ∃ (cs' : List Value) (y : DataW H × List MemPlace), W.cells? 0 (a.add (i * 19)) 19 = some cs' ∧ DataW.trod enc Tryz.prog W 0 sp held n 164 cs' = some y := fun i hi => by
        have h1 := hel i hi
        rw [List.getElem?_eq_getElem (by omega), Option.bind_eq_some_iff] at h1
        obtain ⟨cs', h2, h3⟩ := h1
        exact ⟨cs', _, h2, h3⟩
      rcases Nat.eq_zero_or_pos len with h0 | h0
      · subst h0; exact ⟨_, .nil, rfl, trivial, by simp [slen], SV.nil _ _ _ _⟩
      · have each2 : ∀ i, i < len → ∃ (h : SH) (l : SF) (v1 v2 v3 v4 v : Value), (h.s.size ≤ 9223372036854775807 ∧ xok h.x1 ∧ xok h.x2 ∧ xok h.x3 ∧ xok h.x4 ∧ slen l ≤ 9223372036854775807 ∧ sok l) ∧ HV W 0 h v1 v2 v3 v4 ∧ SV W 0 l v ∧ ∀ j u, (scells h v1 v2 v3 v4 v)[j]? = some u → W.cell? ((a.add (i * 19)).add j) = some u := fun i hi => by
          obtain ⟨cs', y, h1, h2⟩ := each i hi
          obtain ⟨_, hc, hcell⟩ := World.cells?_some h1
          obtain ⟨x, l, v1, v2, v3, v4, v, rfl, k1, k2, k3⟩ := open_stmt_of (fun m hm cs x h => ih m (by omega) cs x h) h2
          refine ⟨x, l, v1, v2, v3, v4, v, k1, k2, k3, fun j u hj => ?_⟩
          have hj4 : j < 19 := by have := (List.getElem?_eq_some_iff.1 hj).1; simpa [scells, xcells] using this
          rw [hcell j hj4]; exact hj
        obtain ⟨b, off, spot⟩ := a
        have hsp : spot = Option.none := by
          obtain ⟨x, l, v1, v2, v3, v4, v, _, _, _, hc⟩ := each2 0 h0
          have := World.cell?_spot (hc 0 _ rfl)
          simpa [Addr.add] using this
        subst hsp
        have e : ∀ i j, ((⟨b, off, Option.none⟩ : Addr).add i).add j = ⟨b, off + i + j, Option.none⟩ := fun i j => by rw [add_plain, add_plain]
        obtain ⟨R, r1, r2, r3⟩ := build_stmts (W := W) (b := b) (o := off) (len := len) (fun i hi => by
          obtain ⟨x, l, v1, v2, v3, v4, v, k1, k2, k3, hc⟩ := each2 i hi
          refine ⟨x, l, k1, ?_⟩
          have hr : SRow W 0 (.node 0 0 x l .nil) (scells x v1 v2 v3 v4 v) := SRow.one k2.e1 k2.e2 k2.e3 k2.e4 k3
          exact (SIn_node.1 (SRow.laid (g := b) (off + i * 19) hr (fun j u hj => by have := hc j u hj; rwa [e] at this))).1) len (Nat.le_refl _)
        rw [Nat.sub_self, Nat.zero_mul, Nat.add_zero] at r3
        refine ⟨_, R, rfl, r2, by unfold maxLen at hmx; omega, b, off, _, cap, by rw [r1], .inl rfl, Nat.zero_le _, r3⟩
end
end Go.Proofs.YtfoghiminlbdaaaGreat
