/-
  Texts in one: NamePlain, AffPlain.
-/
import Derived.Test.YtjdpddcnogdekaaGreatP00ofMx
import Derived.Sort.Walk0
import Derived.Sort.KeysCollected
import Derived.Test.YtjdpddcnogdekaaGreatP03ofMx
import Derived.Test.YtjdpddcnogdekaaGreatP09ofMx
/-
  Names in order (no Go): what l4Put makes of a row of names, and that rows in order with the same names are the same.
-/
namespace Go.Proofs.YtjdpddcnogdekaaGreat
open Go.RowKit Go.Lib Go.Maps
set_option linter.unusedSimpArgs false
set_option linter.unusedVariables false

/-- One name ahead of another, byte by byte. -/
def blt (a b : ByteArray) : Bool := Op.bytesLess a.toList b.toList
theorem blt_iff (a b : ByteArray) : blt a b = true ↔ a.data.toList < b.data.toList := by
  unfold blt; rw [bytesLess_eq, ByteArray.toList_eq, ByteArray.toList_eq]; simp
theorem blt_irrefl (a : ByteArray) : blt a a = false := by
  cases h : blt a a with
  | false => rfl
  | true => exact absurd ((blt_iff a a).1 h) (List.lt_irrefl _)
theorem blt_trans {a b c : ByteArray} (h : blt a b = true) (g : blt b c = true) : blt a c = true := (blt_iff a c).2 (List.lt_trans ((blt_iff a b).1 h) ((blt_iff b c).1 g))
theorem ba_ext {a b : ByteArray} (h : a.data.toList = b.data.toList) : a = b := ByteArray.ext (Array.toList_inj.1 h)
theorem blt_total {a b : ByteArray} (h : blt a b = false) (hne : a ≠ b) : blt b a = true := by
  rw [blt_iff]
  have h1 : ¬ a.data.toList < b.data.toList := fun hh => by rw [(blt_iff a b).2 hh] at h; cases h
  have h2 : b.data.toList ≤ a.data.toList := List.not_lt.1 h1
  rcases List.le_iff_lt_or_eq.1 h2 with h3 | h3
  · exact h3
  · exact absurd (ba_ext h3).symm hne
/-- In order, no two alike. -/
def Asc (l : List ByteArray) : Prop := l.Pairwise (fun a b => blt a b = true)
theorem Asc.nodup {l : List ByteArray} (h : Asc l) : l.Nodup := List.Pairwise.imp (fun {a b} hab e => by subst e; rw [blt_irrefl] at hab; cases hab) h
theorem asc_ext {l m : List ByteArray} (hl : Asc l) (hm : Asc m) (h : ∀ b, b ∈ l ↔ b ∈ m) : l = m :=
  List.Perm.eq_of_pairwise (le := fun a b => blt a b = true) (fun a b _ _ h1 h2 => by have := blt_trans h1 h2; rw [blt_irrefl] at this; cases this) hl hm ((List.perm_ext_iff_of_nodup hl.nodup hm.nodup).2 h)
/-- What l4Put makes of what is left of a row. -/
def putR (s : ByteArray) : Bool → List ByteArray → List ByteArray
  | d, [] => if d = true then [] else [s]
  | true, x :: r => if x = s then putR s true r else x :: putR s true r
  | false, x :: r => if blt x s = true then (if x = s then putR s false r else x :: putR s false r) else s :: (if x = s then putR s true r else x :: putR s true r)
theorem putR_true (s : ByteArray) : ∀ (l : List ByteArray) (b : ByteArray), b ∈ putR s true l ↔ b ∈ l ∧ b ≠ s
  | [], b => by simp [putR]
  | x :: r, b => by
    have ih := putR_true s r b
    rw [putR]
    by_cases hx : x = s
    · rw [if_pos hx, ih]
      constructor
      · rintro ⟨h1, h2⟩; exact ⟨List.mem_cons_of_mem _ h1, h2⟩
      · rintro ⟨h1, h2⟩
        rcases List.mem_cons.1 h1 with h1 | h1
        · exact absurd (h1.trans hx) h2
        · exact ⟨h1, h2⟩
    · rw [if_neg hx, List.mem_cons, ih, List.mem_cons]
      constructor
      · rintro (h | ⟨h1, h2⟩)
        · exact ⟨.inl h, by rw [h]; exact hx⟩
        · exact ⟨.inr h1, h2⟩
      · rintro ⟨h1 | h1, h2⟩
        · exact .inl h1
        · exact .inr ⟨h1, h2⟩
theorem asc_true (s : ByteArray) : ∀ (l : List ByteArray), Asc l → Asc (putR s true l)
  | [], _ => by simp [putR, Asc]
  | x :: r, h => by
    obtain ⟨h1, h2⟩ := List.pairwise_cons.1 h
    have ih := asc_true s r h2
    rw [putR]
    by_cases hx : x = s
    · rw [if_pos hx]; exact ih
    · rw [if_neg hx]; exact List.pairwise_cons.2 ⟨fun b hb => h1 b ((putR_true s r b).1 hb).1, ih⟩
theorem asc_put (s : ByteArray) : ∀ (l : List ByteArray), Asc l → Asc (putR s false l) ∧ ∀ b, b ∈ putR s false l ↔ (b = s ∨ b ∈ l)
  | [], _ => by simp [putR, Asc]
  | x :: r, h => by
    obtain ⟨h1, h2⟩ := List.pairwise_cons.1 h
    obtain ⟨i1, i2⟩ := asc_put s r h2
    rw [putR]
    cases hb : blt x s with
    | true =>
      have hx : ¬ x = s := fun e => by subst e; rw [blt_irrefl] at hb; cases hb
      rw [if_pos rfl, if_neg hx]
      refine ⟨List.pairwise_cons.2 ⟨fun b hbm => ?_, i1⟩, fun b => ?_⟩
      · rcases (i2 b).1 hbm with e | e
        · subst e; exact hb
        · exact h1 b e
      · rw [List.mem_cons, i2 b, List.mem_cons]
        constructor
        · rintro (e | e | e) <;> simp [e]
        · rintro (e | e | e) <;> simp [e]
    | false =>
      rw [if_neg (by simp)]
      by_cases hx : x = s
      · subst hx
        rw [if_pos rfl]
        refine ⟨List.pairwise_cons.2 ⟨fun b hbm => h1 b ((putR_true x r b).1 hbm).1, asc_true x r h2⟩, fun b => ?_⟩
        rw [List.mem_cons, putR_true, List.mem_cons]
        constructor
        · rintro (e | ⟨e, _⟩)
          · exact .inl e
          · exact .inr (.inr e)
        · rintro (e | e | e)
          · exact .inl e
          · exact .inl e
          · by_cases hbx : b = x
            · exact .inl hbx
            · exact .inr ⟨e, hbx⟩
      · have hsx := blt_total hb hx
        rw [if_neg hx]
        refine ⟨List.pairwise_cons.2 ⟨fun b hbm => ?_, List.pairwise_cons.2 ⟨fun b hbm => h1 b ((putR_true s r b).1 hbm).1, asc_true s r h2⟩⟩, fun b => ?_⟩
        · rcases List.mem_cons.1 hbm with e | e
          · rw [e]; exact hsx
          · exact blt_trans hsx (h1 b ((putR_true s r b).1 e).1)
        · rw [List.mem_cons, List.mem_cons, putR_true, List.mem_cons]
          constructor
          · rintro (e | e | ⟨e, _⟩)
            · exact .inl e
            · exact .inr (.inl e)
            · exact .inr (.inr e)
          · rintro (e | e | e)
            · exact .inl e
            · exact .inr (.inl e)
            · by_cases hbs : b = s
              · exact .inl hbs
              · exact .inr (.inr ⟨e, hbs⟩)
/-- How long a row gets. -/
theorem putR_len (s : ByteArray) : ∀ (d : Bool) (l : List ByteArray), (putR s d l).length ≤ l.length + 1
  | true, [] => by simp [putR]
  | false, [] => by simp [putR]
  | true, x :: r => by
    have := putR_len s true r
    rw [putR]; split <;> simp only [List.length_cons] <;> omega
  | false, x :: r => by
    have h1 := putR_len s false r
    have h2 : (putR s true r).length ≤ r.length := by
      clear h1
      induction r with
      | nil => simp [putR]
      | cons y r ih => rw [putR]; split <;> simp only [List.length_cons] <;> omega
    rw [putR]; split <;> split <;> simp only [List.length_cons] <;> omega
/-- The names of statements of a kind, behind those that came. -/
def nmS (k : Int) : SF → List ByteArray → List ByteArray
  | .nil, out => out
  | .node _ _ h l r, out => nmS k r (nmS k l (if h.k = k then putR h.s false out else out))
/-- The names of expressions of a kind. -/
def nmE (k : Int) : EF → List ByteArray → List ByteArray
  | .nil, out => out
  | .node _ _ h l r, out => nmE k r (nmE k l (if h.k = k then putR h.s false out else out))
def nmX (k : Int) (x : X) (out : List ByteArray) : List ByteArray := nmE k x.l (if x.h.k = k then putR x.h.s false out else out)
def nmA (k : Int) : SF → List ByteArray → List ByteArray
  | .nil, out => out
  | .node _ _ h l r, out => nmA k r (nmA k l (nmX k h.x4 (nmX k h.x3 (nmX k h.x2 (nmX k h.x1 out)))))
end Go.Proofs.YtjdpddcnogdekaaGreat
/-
  Straight sums, plainly: what stands beside a name, what is right, what a sum is where names are numbers.
-/
namespace Go.Proofs.YtjdpddcnogdekaaGreat
open Go.RowKit Go.Lib

/-- What stands beside a name. -/
def coefA : List AR → ByteArray → Int
  | [], _ => 0
  | t :: r, s => if t.s = s then t.n else coefA r s
def inMax8 (n : Int) : Bool := decide (-100000 ≤ n) && decide (n ≤ 100000)
def ltPrev8 : Option ByteArray → ByteArray → Bool
  | none, _ => true
  | some q, s => blt q s
/-- One of the terms is right, behind p. -/
def termOk8 (p : Option ByteArray) (t : AR) : Bool := nameOk t.s.data.toList && !(t.n == 0) && inMax8 t.n && ltPrev8 p t.s
def okFrom8 : Option ByteArray → List AR → Bool
  | _, [] => true
  | p, t :: r => termOk8 p t && okFrom8 (some t.s) r
def affOk8 (c : Int) (ts : List AR) : Bool := inMax8 c && okFrom8 none ts
def prev8 (ts : List AR) (k : Nat) : Option ByteArray := if k = 0 then none else (ts[k - 1]?).map AR.s
theorem prev8_succ {ts : List AR} {k : Nat} {t : AR} (h : ts[k]? = some t) : prev8 ts (k + 1) = some t.s := by simp [prev8, h]
theorem prev8_some {ts : List AR} {k : Nat} {t : AR} (h : ts[k - 1]? = some t) (hk : 0 < k) : prev8 ts k = some t.s := by rw [prev8, if_neg (by omega), h]; rfl
theorem drop8 {ts : List AR} {k : Nat} {t : AR} (h : ts[k]? = some t) : ts.drop k = t :: ts.drop (k + 1) := by
  have hlt := (List.getElem?_eq_some_iff.1 h).1
  rw [List.drop_eq_getElem_cons hlt]; congr 1; rw [List.getElem?_eq_getElem hlt] at h; injection h
theorem okFrom8_bad {p : Option ByteArray} {t : AR} {r : List AR} (h : termOk8 p t = false) : okFrom8 p (t :: r) = false := by rw [okFrom8, h]; rfl
theorem okFrom8_good {p : Option ByteArray} {t : AR} {r : List AR} (h : termOk8 p t = true) : okFrom8 p (t :: r) = okFrom8 (some t.s) r := by rw [okFrom8, h]; rfl
end Go.Proofs.YtjdpddcnogdekaaGreat
