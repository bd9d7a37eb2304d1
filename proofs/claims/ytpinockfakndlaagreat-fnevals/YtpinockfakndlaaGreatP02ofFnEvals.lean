import Derived.Test.YtpinockfakndlaaGreatP01ofFnEvals
namespace Go.Proofs.YtpinockfakndlaaGreat
open Go.RowKit Go.Lib
set_option maxRecDepth 100000
set_option linter.unusedSimpArgs false
set_option linter.unusedVariables false
theorem retI {a b : Int} {R : Prop} (h : a = b) (r : R) : Ending.returned (.int .i64 a) = .returned (.int .i64 b) ∧ R := by subst h; exact ⟨rfl, r⟩
set_option maxHeartbeats 1000000 in
theorem bodyOf_is (h : SH) (v1 v2 v3 v4 v : Value) (w : World) : Calls Tryz.prog 104 #[.agg (scells h v1 v2 v3 v4 v).toArray] w fun e w' => e = .returned v ∧ Below w.heap.size w w' := by
  show Calls Tryz.prog 104 #[sagg h v1 v2 v3 v4 v] w _
  go_enter Tryz.func104, Tryz.ntmps104
  go_wp2
  go_ret
  exact ⟨rfl, aB _ _⟩
theorem str_ne {s t : ByteArray} (h : ¬ s = t) : (s.toList == t.toList) = false := by
  rw [ByteArray.toList_eq, ByteArray.toList_eq, beq_eq_false_iff_ne]
  intro e
  exact h (ByteArray.ext (Array.toList_inj.1 e))
theorem int_ne {a b : Int} (h : ¬ a = b) : (a == b) = false := by rw [beq_eq_false_iff_ne]; exact h
theorem retB {a b : Bool} {R : Prop} (h : b = a) (r : R) : Ending.returned (.bool a) = .returned (.bool b) ∧ R := by subst h; exact ⟨rfl, r⟩
theorem x_range {w : World} {b o : Nat} {x : X} {v : Value} (a0 : w.cell? ⟨b, o, Option.none⟩ = some (.int .i64 x.h.k)) (a1 : w.cell? ⟨b, o + 1, Option.none⟩ = some (.int .i64 x.h.n)) (a2 : w.cell? ⟨b, o + 2, Option.none⟩ = some (.string x.h.s)) (a3 : w.cell? ⟨b, o + 3, Option.none⟩ = some v) : w.rangeAt b o (xC x v) := fun j u hj => by
  match j, hj with
  | 0, hj => cases hj; exact a0
  | 1, hj => cases hj; exact a1
  | 2, hj => cases hj; exact a2
  | 3, hj => cases hj; exact a3
  | j + 4, hj => simp [xC] at hj
theorem partsOf_is (x : X) (v : Value) (w : World) : Calls Tryz.prog 79 #[.agg (xC x v).toArray] w fun e w' => e = .returned v ∧ Below w.heap.size w w' := by
  show Calls Tryz.prog 79 #[.agg #[.int .i64 x.h.k, .int .i64 x.h.n, .string x.h.s, v]] w _
  go_enter Tryz.func79, Tryz.ntmps79
  go_wp2
  go_ret
  exact ⟨rfl, aB _ _⟩
theorem EV.laid0 {w : World} {g : Nat} {F : EF} {xs : List Value} (h : ERow w 0 F xs) (hr : w.rangeAt g 0 xs) (c : Nat) : EV w 0 F (.slice (some ⟨g, 0, Option.none⟩) (elen F) c) :=
  ⟨g, 0, _, c, rfl, .inl rfl, Nat.zero_le _, ERow.laid 0 h (by simpa [World.rangeAt] using hr)⟩
def hsame (a b : EH) : Bool := decide (a.k = b.k) && decide (a.n = b.n) && decide (a.s = b.s)
def esame : EF → EF → Bool
  | .nil, .nil => true
  | .node _ _ h l r, .node _ _ h' l' r' => hsame h h' && (esame l l' && esame r r')
  | _, _ => false
end Go.Proofs.YtpinockfakndlaaGreat
