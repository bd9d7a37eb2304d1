/-
  Texts in one: AstUnder, AstSameP, AstTop, AstSame.
-/
import Derived.Test.YtpinockfakndlaaGreatP01ofFnEvals
/-
  What stands under a statement, under an expression; small laws on memory.
-/
namespace Go.Proofs.YtpinockfakndlaaGreat
open Go.RowKit Go.Lib
set_option linter.unusedSimpArgs false
set_option linter.unusedVariables false

theorem retI {a b : Int} {R : Prop} (h : a = b) (r : R) : Ending.returned (.int .i64 a) = .returned (.int .i64 b) ∧ R := by subst h; exact ⟨rfl, r⟩
set_option maxHeartbeats 1000000 in
set_option maxRecDepth 100000 in
theorem bodyOf_is (h : SH) (v1 v2 v3 v4 v : Value) (w : World) : Calls Tryz.prog 104 #[.agg (scells h v1 v2 v3 v4 v).toArray] w fun e w' => e = .returned v ∧ Below w.heap.size w w' := by
  show Calls Tryz.prog 104 #[sagg h v1 v2 v3 v4 v] w _
  go_enter Tryz.func104, Tryz.ntmps104
  go_wp2
  go_ret
  exact ⟨rfl, alloc_below _ _⟩
theorem str_ne {s t : ByteArray} (h : ¬ s = t) : (s.toList == t.toList) = false := by
  rw [ByteArray.toList_eq, ByteArray.toList_eq, beq_eq_false_iff_ne]
  intro e
  exact h (ByteArray.ext (Array.toList_inj.1 e))
theorem int_ne {a b : Int} (h : ¬ a = b) : (a == b) = false := by rw [beq_eq_false_iff_ne]; exact h
theorem retB {a b : Bool} {R : Prop} (h : b = a) (r : R) : Ending.returned (.bool a) = .returned (.bool b) ∧ R := by subst h; exact ⟨rfl, r⟩
/-- Two blocks that were just laid. -/
theorem two_blk (w : World) (a b : Array Value) (s t : TypeId) : ((w.alloc (.cells a s)).alloc (.cells b t)).rangeAt w.heap.size 0 a.toList ∧ ((w.alloc (.cells a s)).alloc (.cells b t)).rangeAt (w.heap.size + 1) 0 b.toList ∧ Below w.heap.size w ((w.alloc (.cells a s)).alloc (.cells b t)) := by
  have e : ∀ (v : World) (o : Obj), (v.alloc o).heap = v.heap.push o := fun _ _ => rfl
  have q0 : ((w.alloc (.cells a s)).alloc (.cells b t)).heap[w.heap.size]? = some (.cells a s) := by rw [Below.heap_alloc _ _ _ (by simp), e]; simp
  have q1 : ((w.alloc (.cells a s)).alloc (.cells b t)).heap[(w.alloc (.cells a s)).heap.size]? = some (.cells b t) := (fun (v : World) (o : Obj) => (by rw [e]; simp : (v.alloc o).heap[v.heap.size]? = some o)) _ _
  have q2 : (w.alloc (.cells a s)).heap.size = w.heap.size + 1 := by simp
  rw [q2] at q1
  exact ⟨blk_range q0, blk_range q1, (alloc_below w _).alloc (by simp) _⟩
theorem x_range {w : World} {b o : Nat} {x : X} {v : Value} (a0 : w.cell? ⟨b, o, Option.none⟩ = some (.int .i64 x.h.k)) (a1 : w.cell? ⟨b, o + 1, Option.none⟩ = some (.int .i64 x.h.n)) (a2 : w.cell? ⟨b, o + 2, Option.none⟩ = some (.string x.h.s)) (a3 : w.cell? ⟨b, o + 3, Option.none⟩ = some v) : w.rangeAt b o (xcells x v) := fun j u hj => by
  match j, hj with
  | 0, hj => cases hj; exact a0
  | 1, hj => cases hj; exact a1
  | 2, hj => cases hj; exact a2
  | 3, hj => cases hj; exact a3
  | j + 4, hj => simp [xcells] at hj
set_option maxRecDepth 100000 in
theorem partsOf_is (x : X) (v : Value) (w : World) : Calls Tryz.prog 79 #[.agg (xcells x v).toArray] w fun e w' => e = .returned v ∧ Below w.heap.size w w' := by
  show Calls Tryz.prog 79 #[.agg #[.int .i64 x.h.k, .int .i64 x.h.n, .string x.h.s, v]] w _
  go_enter Tryz.func79, Tryz.ntmps79
  go_wp2
  go_ret
  exact ⟨rfl, alloc_below _ _⟩
theorem EV.laid0 {w : World} {g : Nat} {F : EF} {xs : List Value} (h : ERow w 0 F xs) (hr : w.rangeAt g 0 xs) (c : Nat) : EV w 0 F (.slice (some ⟨g, 0, Option.none⟩) (elen F) c) :=
  ⟨g, 0, _, c, rfl, .inl rfl, Nat.zero_le _, ERow.laid 0 h (by simpa [World.rangeAt] using hr)⟩
theorem SV.laid0 {w : World} {g : Nat} {F : SF} {xs : List Value} (h : SRow w 0 F xs) (hr : w.rangeAt g 0 xs) (c : Nat) : SV w 0 F (.slice (some ⟨g, 0, Option.none⟩) (slen F) c) :=
  ⟨g, 0, _, c, rfl, .inl rfl, Nat.zero_le _, SRow.laid 0 h (by simpa [World.rangeAt] using hr)⟩
end Go.Proofs.YtpinockfakndlaaGreat
/-
  What it is that two expressions are the same.
-/
namespace Go.Proofs.YtpinockfakndlaaGreat
open Go.RowKit Go.Lib
set_option linter.unusedSimpArgs false
set_option linter.unusedVariables false

def hsame (a b : EH) : Bool := decide (a.k = b.k) && decide (a.n = b.n) && decide (a.s = b.s)
def esame : EF → EF → Bool
  | .nil, .nil => true
  | .node _ _ h l r, .node _ _ h' l' r' => hsame h h' && (esame l l' && esame r r')
  | _, _ => false
def xsame (a b : X) : Bool := hsame a.h b.h && esame a.l b.l
theorem esame_len : ∀ F G : EF, esame F G = true → elen F = elen G
  | .nil, .nil, _ => rfl
  | .node _ _ h l r, .node _ _ h' l' r', e => by
    simp only [esame, Bool.and_eq_true] at e
    have := esame_len r r' e.2.2
    simp only [elen]; omega
  | .nil, .node _ _ _ _ _, e => by simp [esame] at e
  | .node _ _ _ _ _, .nil, e => by simp [esame] at e
theorem esame_node (p q p' q' : Nat) (h h' : EH) (l r l' r' : EF) : esame (.node p q h l r) (.node p' q' h' l' r') = (xsame ⟨h, l⟩ ⟨h', l'⟩ && esame r r') := by simp only [esame, xsame, Bool.and_assoc]
theorem esame_diff {F G : EF} (h : ¬ elen F = elen G) : esame F G = false := by
  cases e : esame F G with
  | false => rfl
  | true => exact absurd (esame_len F G e) h
end Go.Proofs.YtpinockfakndlaaGreat
/-
  The contracts of sameTop, partsOf.
-/
namespace Go.Proofs.YtpinockfakndlaaGreat
open Go.RowKit Go.Lib
set_option linter.unusedSimpArgs false
set_option linter.unusedVariables false

set_option maxHeartbeats 1000000 in
set_option maxRecDepth 100000 in
theorem sameTop_is (x y : X) (va vb : Value) (w : World) :
    Calls Tryz.prog 171 #[.agg (xcells x va).toArray, .agg (xcells y vb).toArray] w fun e w' => e = .returned (.bool (hsame x.h y.h)) ∧ Below w.heap.size w w' := by
  obtain ⟨⟨xk, xn, xs⟩, xl⟩ := x
  obtain ⟨⟨yk, yn, ys⟩, yl⟩ := y
  show Calls Tryz.prog 171 #[.agg #[.int .i64 xk, .int .i64 xn, .string xs, va], .agg #[.int .i64 yk, .int .i64 yn, .string ys, vb]] w _
  have hB : Hid (∀ a b, Below w.heap.size w ((w.alloc a).alloc b)) := fun a b => (alloc_below w a).alloc (by simp) b
  by_cases hk : xk = yk
  case neg =>
    have hf : Hid (hsame ⟨xk, xn, xs⟩ ⟨yk, yn, ys⟩ = false) := show hsame _ _ = false by simp [hsame, hk]
    have h1 := int_ne hk
    go_enter Tryz.func171, Tryz.ntmps171
    go_wp2
    go_ret
    exact retB hf.out (hB.out _ _)
  by_cases hn : xn = yn
  case neg =>
    have hf : Hid (hsame ⟨xk, xn, xs⟩ ⟨yk, yn, ys⟩ = false) := show hsame _ _ = false by simp [hsame, hn]
    have h1 := int_ne hn
    subst hk
    go_enter Tryz.func171, Tryz.ntmps171
    go_wp2
    go_ret
    exact retB hf.out (hB.out _ _)
  by_cases hs : xs = ys
  case neg =>
    have hf : Hid (hsame ⟨xk, xn, xs⟩ ⟨yk, yn, ys⟩ = false) := show hsame _ _ = false by simp [hsame, hs]
    have h1 := str_ne hs
    subst hk
    subst hn
    clear hs
    go_enter Tryz.func171, Tryz.ntmps171
    go_wp2
    go_ret
    exact retB hf.out (hB.out _ _)
  subst hk
  subst hn
  subst hs
  have hf : Hid (hsame ⟨xk, xn, xs⟩ ⟨xk, xn, xs⟩ = true) := show hsame _ _ = true by simp [hsame]
  go_enter Tryz.func171, Tryz.ntmps171
  go_wp2
  go_ret
  exact retB hf.out (hB.out _ _)
end Go.Proofs.YtpinockfakndlaaGreat
/-
  What it is that two expressions are the same; the contract of the specification's SameExp.
-/
namespace Go.Proofs.YtpinockfakndlaaGreat
open Go.RowKit Go.Lib
set_option linter.unusedSimpArgs false
set_option linter.unusedVariables false

end Go.Proofs.YtpinockfakndlaaGreat
