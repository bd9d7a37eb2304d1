/-
  Straight sums, plainly: what stands beside a name, what is right, what a sum is where names are numbers.
-/
import Derived.Test.YtjdpddcnogdekabAstArr
import Derived.Test.YtjdpddcnogdekabNamePlain
import Derived.Test.YtjdpddcnogdekabTokPlain
namespace Go.Proofs.Ytjdpddcnogdekab
open Go.RowKit Go.Lib

/-- What stands beside a name. -/
def coefA : List AR → ByteArray → Int
  | [], _ => 0
  | t :: r, s => if t.s = s then t.n else coefA r s
def inMax8 (n : Int) : Bool := decide (-100000 ≤ n) && decide (n ≤ 100000)
def ltPrev8 : Option ByteArray → ByteArray → Bool
  | none, _ => true
  | some q, s => blt q s
/-- One of the terms is right, behind p. -/
def termOk8 (p : Option ByteArray) (t : AR) : Bool := nameOk t.s.data.toList && !(t.n == 0) && inMax8 t.n && ltPrev8 p t.s
def okFrom8 : Option ByteArray → List AR → Bool
  | _, [] => true
  | p, t :: r => termOk8 p t && okFrom8 (some t.s) r
def affOk8 (c : Int) (ts : List AR) : Bool := inMax8 c && okFrom8 none ts
def prev8 (ts : List AR) (k : Nat) : Option ByteArray := if k = 0 then none else (ts[k - 1]?).map AR.s
theorem prev8_succ {ts : List AR} {k : Nat} {t : AR} (h : ts[k]? = some t) : prev8 ts (k + 1) = some t.s := by simp [prev8, h]
theorem prev8_some {ts : List AR} {k : Nat} {t : AR} (h : ts[k - 1]? = some t) (hk : 0 < k) : prev8 ts k = some t.s := by rw [prev8, if_neg (by omega), h]; rfl
theorem drop8 {ts : List AR} {k : Nat} {t : AR} (h : ts[k]? = some t) : ts.drop k = t :: ts.drop (k + 1) := by
  have hlt := (List.getElem?_eq_some_iff.1 h).1
  rw [List.drop_eq_getElem_cons hlt]; congr 1; rw [List.getElem?_eq_getElem hlt] at h; injection h
theorem okFrom8_bad {p : Option ByteArray} {t : AR} {r : List AR} (h : termOk8 p t = false) : okFrom8 p (t :: r) = false := by rw [okFrom8, h]; rfl
theorem okFrom8_good {p : Option ByteArray} {t : AR} {r : List AR} (h : termOk8 p t = true) : okFrom8 p (t :: r) = okFrom8 (some t.s) r := by rw [okFrom8, h]; rfl
end Go.Proofs.Ytjdpddcnogdekab
