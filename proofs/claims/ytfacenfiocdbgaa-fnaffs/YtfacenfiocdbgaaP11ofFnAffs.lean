/-
  Texts in one: AffPlain, TermOf.
-/
import Derived.Test.YtfacenfiocdbgaaP03ofFnAffs
import Derived.Test.YtfacenfiocdbgaaP09ofFnAffs
import Derived.Test.YtfacenfiocdbgaaP10ofFnAffs
import Derived.Test.YtfacenfiocdbgaaP07ofFnAffs
/-
  Straight sums, plainly: what stands beside a name, what is right, what a sum is where names are numbers.
-/
namespace Go.Proofs.Ytfacenfiocdbgaa
open Go.RowKit Go.Lib

/-- What stands beside a name. -/
def coefA : List AR → ByteArray → Int
  | [], _ => 0
  | t :: r, s => if t.s = s then t.n else coefA r s
def inMax8 (n : Int) : Bool := decide (-100000 ≤ n) && decide (n ≤ 100000)
def ltPrev8 : Option ByteArray → ByteArray → Bool
  | none, _ => true
  | some q, s => blt q s
/-- One of the terms is right, behind p. -/
def termOk8 (p : Option ByteArray) (t : AR) : Bool := nameOk t.s.data.toList && !(t.n == 0) && inMax8 t.n && ltPrev8 p t.s
def okFrom8 : Option ByteArray → List AR → Bool
  | _, [] => true
  | p, t :: r => termOk8 p t && okFrom8 (some t.s) r
def affOk8 (c : Int) (ts : List AR) : Bool := inMax8 c && okFrom8 none ts
def prev8 (ts : List AR) (k : Nat) : Option ByteArray := if k = 0 then none else (ts[k - 1]?).map AR.s
theorem prev8_succ {ts : List AR} {k : Nat} {t : AR} (h : ts[k]? = some t) : prev8 ts (k + 1) = some t.s := by simp [prev8, h]
theorem prev8_some {ts : List AR} {k : Nat} {t : AR} (h : ts[k - 1]? = some t) (hk : 0 < k) : prev8 ts k = some t.s := by rw [prev8, if_neg (by omega), h]; rfl
theorem drop8 {ts : List AR} {k : Nat} {t : AR} (h : ts[k]? = some t) : ts.drop k = t :: ts.drop (k + 1) := by
  have hlt := (List.getElem?_eq_some_iff.1 h).1
  rw [List.drop_eq_getElem_cons hlt]; congr 1; rw [List.getElem?_eq_getElem hlt] at h; injection h
theorem okFrom8_bad {p : Option ByteArray} {t : AR} {r : List AR} (h : termOk8 p t = false) : okFrom8 p (t :: r) = false := by rw [okFrom8, h]; rfl
theorem okFrom8_good {p : Option ByteArray} {t : AR} {r : List AR} (h : termOk8 p t = true) : okFrom8 p (t :: r) = okFrom8 (some t.s) r := by rw [okFrom8, h]; rfl
end Go.Proofs.Ytfacenfiocdbgaa
/-
  The contract of termOf.
-/
namespace Go.Proofs.Ytfacenfiocdbgaa
open Go.RowKit Go.Lib
set_option linter.unusedSimpArgs false
set_option linter.unusedVariables false

set_option maxRecDepth 100000 in
theorem clone8 (s : ByteArray) (w : World) (hlim : s.size ≤ 281474976710656) :
    Calls Try.prog 66 #[.string s] w fun e w' => e = .returned (.string s) ∧ Below w.heap.size w w' := by
  have C := Lib.hid (Try.clone8 s w (by omega))
  go_enter Try.func66, Try.ntmps66
  go_wp2_with fail
  refine C.out.mono ?_
  rintro e w1 ⟨rfl, hb1⟩
  go_wp2
  go_ret
  exact ⟨rfl, hb1⟩
set_option maxHeartbeats 1000000 in
theorem termOf_is (s : ByteArray) (hlim : s.size ≤ 281474976710656) (n : Int) (w : World) :
    Calls Try.prog 52 #[.string s, .int .i64 n] w fun e w' => e = .returned (.agg #[.string s, .int .i64 n]) ∧ Below w.heap.size w w' := by
  have hl := heap_last w (.cells #[.string ⟨#[]⟩, .int .i64 0] 59)
  have B := Lib.hid (alloc_below w (.cells #[.string ⟨#[]⟩, .int .i64 0] 59))
  go_enter Try.func52, Try.ntmps52
  go_wp2_with fail
  refine (clone8 s _ hlim).mono ?_
  rintro e w1 ⟨rfl, hb1⟩
  have q := (hb1.block _ (by simp)).trans hl
  obtain ⟨⟨q0, q1⟩, f0, f1⟩ := blk2 q
  have Q := Lib.hid q
  have B1 := Lib.hid (B.out.trans (hb1.mono B.out.size))
  clear hb1 q hl
  go_wp2
  have e0 := Go.heap_setCell_same _ _ 0 _ _ (.string s) Q.out
  have e1 := Go.heap_setCell_same _ _ 1 _ _ (.int .i64 n) e0
  obtain ⟨⟨z0, z1⟩, _⟩ := blk2 e1
  refine bodyPost_ret (v := .agg #[.string s, .int .i64 n]) (by simp [results, Try.results52, go_sem, z0, z1]) rfl ⟨rfl, (B1.out.setCell (p := ⟨w.heap.size, 0, Option.none⟩) (Nat.le_refl _) _).setCell (p := ⟨w.heap.size, 1, Option.none⟩) (Nat.le_refl _) _⟩
end Go.Proofs.Ytfacenfiocdbgaa
