/-
  Texts in one: AstEqS, AstUnder, AstSameP, AstSize, AstProg.
-/
import Derived.Test.YtphegbnnijehbaaP01ofRounds
import Derived.Deep.RegionHeld
/-
  The contracts of eqStmt, eqStmtS where both are the same.
-/
namespace Go.Proofs.Ytphegbnnijehbaa
open Go.RowKit Go.Lib
set_option linter.unusedSimpArgs false
set_option linter.unusedVariables false

section
variable {w : World} {b : Nat} {h : SH} {v1 v2 v3 v4 v : Value}
theorem part1 (r : w.rangeAt b 0 (scells h v1 v2 v3 v4 v)) : w.rangeAt b 2 (xcells h.x1 v1) := by
  have := rangeAt_part (ds := [.int .i64 h.k, .string h.s]) (es := xcells h.x1 v1) r rfl; rwa [Nat.zero_add] at this
theorem part2 (r : w.rangeAt b 0 (scells h v1 v2 v3 v4 v)) : w.rangeAt b 6 (xcells h.x2 v2) := by
  have := rangeAt_part (ds := [.int .i64 h.k, .string h.s] ++ xcells h.x1 v1) (es := xcells h.x2 v2) r rfl; rwa [Nat.zero_add] at this
theorem part3 (r : w.rangeAt b 0 (scells h v1 v2 v3 v4 v)) : w.rangeAt b 10 (xcells h.x3 v3) := by
  have := rangeAt_part (ds := [.int .i64 h.k, .string h.s] ++ xcells h.x1 v1 ++ xcells h.x2 v2) (es := xcells h.x3 v3) r rfl; rwa [Nat.zero_add] at this
theorem part4 (r : w.rangeAt b 0 (scells h v1 v2 v3 v4 v)) : w.rangeAt b 14 (xcells h.x4 v4) := by
  have := rangeAt_part (ds := [.int .i64 h.k, .string h.s] ++ xcells h.x1 v1 ++ xcells h.x2 v2 ++ xcells h.x3 v3) (es := xcells h.x4 v4) r rfl; rwa [Nat.zero_add] at this
theorem part5 (r : w.rangeAt b 0 (scells h v1 v2 v3 v4 v)) : w.cell? ⟨b, 18, Option.none⟩ = some v := by
  have := r 18 v rfl; rwa [Nat.zero_add] at this
end
/-- Two statements that came in, each in a block of its own. -/
structure Two (w0 w : World) (N : Nat) (g h : SH) (a1 a2 a3 a4 a b1 b2 b3 b4 b : Value) : Prop where
  r1 : w.rangeAt N 0 (scells g a1 a2 a3 a4 a)
  r2 : w.rangeAt (N + 1) 0 (scells h b1 b2 b3 b4 b)
  low : Below w0.heap.size w0 w
theorem Two.later {w0 w w' : World} {N : Nat} {g h : SH} {a1 a2 a3 a4 a b1 b2 b3 b4 b : Value} (t : Two w0 w N g h a1 a2 a3 a4 a b1 b2 b3 b4 b) (hb : Below w.heap.size w w') : Two w0 w' N g h a1 a2 a3 a4 a b1 b2 b3 b4 b :=
  ⟨rangeAt_later t.r1 hb, rangeAt_later t.r2 hb, t.low.trans (hb.mono t.low.size)⟩
theorem Two.start (w : World) (g h : SH) (a1 a2 a3 a4 a b1 b2 b3 b4 b : Value) (s t : TypeId) : Two w ((w.alloc (.cells (sarr g a1 a2 a3 a4 a) s)).alloc (.cells (sarr h b1 b2 b3 b4 b) t)) w.heap.size g h a1 a2 a3 a4 a b1 b2 b3 b4 b := by
  have e : ∀ (v : World) (o : Obj), (v.alloc o).heap = v.heap.push o := fun _ _ => rfl
  have q0 : ((w.alloc (.cells (sarr g a1 a2 a3 a4 a) s)).alloc (.cells (sarr h b1 b2 b3 b4 b) t)).heap[w.heap.size]? = some (.cells (sarr g a1 a2 a3 a4 a) s) := by rw [Below.heap_alloc _ _ _ (by simp), e]; simp
  have q1 : ((w.alloc (.cells (sarr g a1 a2 a3 a4 a) s)).alloc (.cells (sarr h b1 b2 b3 b4 b) t)).heap[(w.alloc (.cells (sarr g a1 a2 a3 a4 a) s)).heap.size]? = some (.cells (sarr h b1 b2 b3 b4 b) t) := (fun (v : World) (o : Obj) => (by rw [e]; simp : (v.alloc o).heap[v.heap.size]? = some o)) _ _
  have q2 : (w.alloc (.cells (sarr g a1 a2 a3 a4 a) s)).heap.size = w.heap.size + 1 := by simp
  rw [q2] at q1
  exact ⟨blk_range q0, blk_range q1, (alloc_below w _).alloc (by simp) _⟩
theorem HV.drew {w : World} {lo : Nat} {h : SH} {v1 v2 v3 v4 : Value} (hv : HV w lo h v1 v2 v3 v4) : HV w.drew lo h v1 v2 v3 v4 := ⟨hv.e1.drew, hv.e2.drew, hv.e3.drew, hv.e4.drew⟩
end Go.Proofs.Ytphegbnnijehbaa
/-
  What stands under a statement, under an expression; small laws on memory.
-/
namespace Go.Proofs.Ytphegbnnijehbaa
open Go.RowKit Go.Lib
set_option linter.unusedSimpArgs false
set_option linter.unusedVariables false

theorem retI {a b : Int} {R : Prop} (h : a = b) (r : R) : Ending.returned (.int .i64 a) = .returned (.int .i64 b) ∧ R := by subst h; exact ⟨rfl, r⟩
theorem str_ne {s t : ByteArray} (h : ¬ s = t) : (s.toList == t.toList) = false := by
  rw [ByteArray.toList_eq, ByteArray.toList_eq, beq_eq_false_iff_ne]
  intro e
  exact h (ByteArray.ext (Array.toList_inj.1 e))
theorem int_ne {a b : Int} (h : ¬ a = b) : (a == b) = false := by rw [beq_eq_false_iff_ne]; exact h
theorem retB {a b : Bool} {R : Prop} (h : b = a) (r : R) : Ending.returned (.bool a) = .returned (.bool b) ∧ R := by subst h; exact ⟨rfl, r⟩
/-- Two blocks that were just laid. -/
theorem two_blk (w : World) (a b : Array Value) (s t : TypeId) : ((w.alloc (.cells a s)).alloc (.cells b t)).rangeAt w.heap.size 0 a.toList ∧ ((w.alloc (.cells a s)).alloc (.cells b t)).rangeAt (w.heap.size + 1) 0 b.toList ∧ Below w.heap.size w ((w.alloc (.cells a s)).alloc (.cells b t)) := by
  have e : ∀ (v : World) (o : Obj), (v.alloc o).heap = v.heap.push o := fun _ _ => rfl
  have q0 : ((w.alloc (.cells a s)).alloc (.cells b t)).heap[w.heap.size]? = some (.cells a s) := by rw [Below.heap_alloc _ _ _ (by simp), e]; simp
  have q1 : ((w.alloc (.cells a s)).alloc (.cells b t)).heap[(w.alloc (.cells a s)).heap.size]? = some (.cells b t) := (fun (v : World) (o : Obj) => (by rw [e]; simp : (v.alloc o).heap[v.heap.size]? = some o)) _ _
  have q2 : (w.alloc (.cells a s)).heap.size = w.heap.size + 1 := by simp
  rw [q2] at q1
  exact ⟨blk_range q0, blk_range q1, (alloc_below w _).alloc (by simp) _⟩
theorem x_range {w : World} {b o : Nat} {x : X} {v : Value} (a0 : w.cell? ⟨b, o, Option.none⟩ = some (.int .i64 x.h.k)) (a1 : w.cell? ⟨b, o + 1, Option.none⟩ = some (.int .i64 x.h.n)) (a2 : w.cell? ⟨b, o + 2, Option.none⟩ = some (.string x.h.s)) (a3 : w.cell? ⟨b, o + 3, Option.none⟩ = some v) : w.rangeAt b o (xcells x v) := fun j u hj => by
  match j, hj with
  | 0, hj => cases hj; exact a0
  | 1, hj => cases hj; exact a1
  | 2, hj => cases hj; exact a2
  | 3, hj => cases hj; exact a3
  | j + 4, hj => simp [xcells] at hj
theorem EV.laid0 {w : World} {g : Nat} {F : EF} {xs : List Value} (h : ERow w 0 F xs) (hr : w.rangeAt g 0 xs) (c : Nat) : EV w 0 F (.slice (some ⟨g, 0, Option.none⟩) (elen F) c) :=
  ⟨g, 0, _, c, rfl, .inl rfl, Nat.zero_le _, ERow.laid 0 h (by simpa [World.rangeAt] using hr)⟩
theorem SV.laid0 {w : World} {g : Nat} {F : SF} {xs : List Value} (h : SRow w 0 F xs) (hr : w.rangeAt g 0 xs) (c : Nat) : SV w 0 F (.slice (some ⟨g, 0, Option.none⟩) (slen F) c) :=
  ⟨g, 0, _, c, rfl, .inl rfl, Nat.zero_le _, SRow.laid 0 h (by simpa [World.rangeAt] using hr)⟩
end Go.Proofs.Ytphegbnnijehbaa
/-
  What it is that two expressions are the same.
-/
namespace Go.Proofs.Ytphegbnnijehbaa
open Go.RowKit Go.Lib
set_option linter.unusedSimpArgs false
set_option linter.unusedVariables false

def hsame (a b : EH) : Bool := decide (a.k = b.k) && decide (a.n = b.n) && decide (a.s = b.s)
def esame : EF → EF → Bool
  | .nil, .nil => true
  | .node _ _ h l r, .node _ _ h' l' r' => hsame h h' && (esame l l' && esame r r')
  | _, _ => false
def xsame (a b : X) : Bool := hsame a.h b.h && esame a.l b.l
theorem esame_len : ∀ F G : EF, esame F G = true → elen F = elen G
  | .nil, .nil, _ => rfl
  | .node _ _ h l r, .node _ _ h' l' r', e => by
    simp only [esame, Bool.and_eq_true] at e
    have := esame_len r r' e.2.2
    simp only [elen]; omega
  | .nil, .node _ _ _ _ _, e => by simp [esame] at e
  | .node _ _ _ _ _, .nil, e => by simp [esame] at e
theorem esame_node (p q p' q' : Nat) (h h' : EH) (l r l' r' : EF) : esame (.node p q h l r) (.node p' q' h' l' r') = (xsame ⟨h, l⟩ ⟨h', l'⟩ && esame r r') := by simp only [esame, xsame, Bool.and_assoc]
theorem esame_diff {F G : EF} (h : ¬ elen F = elen G) : esame F G = false := by
  cases e : esame F G with
  | false => rfl
  | true => exact absurd (esame_len F G e) h
end Go.Proofs.Ytphegbnnijehbaa
/-
  The contracts of Size, the specification's and the landed code's.
-/
namespace Go.Proofs.Ytphegbnnijehbaa
open Go.RowKit Go.Lib
set_option linter.unusedSimpArgs false
set_option linter.unusedVariables false

end Go.Proofs.Ytphegbnnijehbaa
/-
  Programs: the contracts of szProg, toProg, eqProg, and of ArrAt, the specification's and the landed code's.
-/
namespace Go.Proofs.Ytphegbnnijehbaa
open Go.RowKit Go.Lib
set_option linter.unusedSimpArgs false
set_option linter.unusedVariables false

theorem heap_last (v : World) (o : Obj) : (v.alloc o).heap[v.heap.size]? = some o := by show (v.heap.push o)[v.heap.size]? = _; simp
theorem blk2 {w : World} {b : Nat} {x y : Value} {t : TypeId} (h : w.heap[b]? = some (.cells #[x, y] t (0, 0))) :
    (w.cell? ⟨b, 0, Option.none⟩ = some x ∧ w.cell? ⟨b, 1, Option.none⟩ = some y) ∧ w.frozen? ⟨b, 0, Option.none⟩ = false ∧ w.frozen? ⟨b, 1, Option.none⟩ = false := by
  simp [World.cell?, World.frozen?, h]
theorem there_keep {w : World} {b c : Nat} {o : Obj} (hne : b ≠ c) (h : w.heap[b]? = some o) (i : Nat) (v : Value) : (w.setCell ⟨c, i, Option.none⟩ v).heap[b]? = some o := by rw [Below.heap_setCell _ _ _ _ hne]; exact h
theorem blk2_set {w : World} {b : Nat} {x y : Value} {t : TypeId} (v : Value) (h : w.heap[b]? = some (.cells #[x, y] t (0, 0))) : (w.setCell ⟨b, 0, Option.none⟩ v).heap[b]? = some (.cells #[v, y] t (0, 0)) := by
  have hlt := (Array.getElem?_eq_some_iff.1 h).1
  have h' : w.heap[b] = .cells #[x, y] t (0, 0) := by simpa [Array.getElem?_eq_getElem hlt] using h
  show (w.heap.modify b _)[b]? = _
  rw [Array.getElem?_eq_getElem (by simpa using hlt), Array.getElem_modify_self, h']
  rfl
theorem set3 {w w1 : World} {N : Nat} (hb : Below w.heap.size w w1) (hN : w.heap.size = N) (p x y : Value) : Below w.heap.size w (((w1.setCell ⟨N + 2, 1, Option.none⟩ p).setCell ⟨N + 1, 0, Option.none⟩ x).setCell ⟨N + 1, 1, Option.none⟩ y) ∧
    Keeps (w.heap.size + 3) w1 (((w1.setCell ⟨N + 2, 1, Option.none⟩ p).setCell ⟨N + 1, 0, Option.none⟩ x).setCell ⟨N + 1, 1, Option.none⟩ y) ∧ w1.heap.size ≤ (((w1.setCell ⟨N + 2, 1, Option.none⟩ p).setCell ⟨N + 1, 0, Option.none⟩ x).setCell ⟨N + 1, 1, Option.none⟩ y).heap.size := by
  subst hN
  exact ⟨((hb.setCell (p := ⟨w.heap.size + 2, 1, Option.none⟩) (by simp) _).setCell (p := ⟨w.heap.size + 1, 0, Option.none⟩) (by simp) _).setCell (p := ⟨w.heap.size + 1, 1, Option.none⟩) (by simp) _,
    ((Keeps.set _ _ (by simp) _).trans (Keeps.set _ _ (by simp) _)).trans (Keeps.set _ _ (by simp) _), by simp⟩
theorem arrAt_cells {w : World} {v : Value} {ts : List AR} (h : AV w 0 v ts) (hne : ts ≠ []) : ∃ g off cap, v = .slice (some ⟨g, off, Option.none⟩) ts.length cap ∧ ∀ i t, ts[i]? = some t → w.cell? ⟨g, off + i * 2, Option.none⟩ = some (.string t.s) ∧ w.cell? ⟨g, off + i * 2 + 1, Option.none⟩ = some (.int .i64 t.n) := by
  obtain ⟨ao, cap, rfl, h⟩ := h
  rcases h with h | ⟨g, off, rfl, _, _, h3⟩
  · exact absurd h hne
  · exact ⟨g, off, cap, rfl, h3⟩
/-- Where the first of that name stands; -1. -/
def arrAt (ts : List AR) (s : ByteArray) : Int := match ts.findIdx? (fun t => t.s == s) with | some i => i | Option.none => -1
def arrGo : List AR → Nat → ByteArray → Int
  | [], _, _ => -1
  | t :: ts, k, s => if t.s = s then k else arrGo ts (k + 1) s
theorem newthere2 (w : World) (x y : Value) (t : TypeId) : (w.alloc (.cells #[x, y] t)).there w.heap.size 0 2 := blk_there (arr := #[x, y]) (t := t) (by show (w.heap.push _)[w.heap.size]? = _; simp) (Nat.le_refl 2)
end Go.Proofs.Ytphegbnnijehbaa
