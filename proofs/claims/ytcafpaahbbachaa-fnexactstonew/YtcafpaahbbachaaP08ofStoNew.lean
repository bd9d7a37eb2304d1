/-
  Texts in one: AstTold, AstVisE, AstCountE, AstExpOk, AstHere.
-/
import Derived.Test.YtcafpaahbbachaaP07ofStoNew
import Derived.Test.YtcafpaahbbachaaP03ofStoNew
import Derived.Test.YtcafpaahbbachaaP02ofStoNew
import Derived.BigQuiet
import Derived.Deep.QuietTactic
/-
  What it is that an expression is as told; the contract of the landed code's expAsTold.
-/
namespace Go.Proofs.Ytcafpaahbbachaa
open Go.RowKit Go.Lib
set_option linter.unusedSimpArgs false
set_option linter.unusedVariables false

def here (h : EH) (n : Nat) : Bool :=
  match fnum h n with
  | 1 => decide (0 ≤ h.n) && decide (h.n ≤ 999999)
  | 2 => nameOk h.s.data.toList
  | 3 => nameOk h.s.data.toList
  | 4 => true
  | _ => false
def toldF : Nat → EF → Bool
  | _, .nil => true
  | d, .node _ _ h l r => decide (1 ≤ d) && (here h (elen l) && (toldF (d - 1) l && toldF d r))
def toldX (d : Nat) (x : X) : Bool := decide (1 ≤ d) && (here x.h (elen x.l) && toldF (d - 1) x.l)
theorem toldX_zero (x : X) : toldX 0 x = false := rfl
theorem toldX_num {d : Nat} {x : X} (h : fnum x.h (elen x.l) = 1) : toldX (d + 1) x = (decide (0 ≤ x.h.n) && decide (x.h.n ≤ 999999)) := by
  have hl : elen x.l = 0 := by
    unfold fnum at h
    split at h
    · rename_i e; exact e.2.2
    · split at h
      · cases h
      · split at h
        · cases h
        · split at h <;> cases h
  have hn : x.l = .nil := by
    cases hx : x.l with
    | nil => rfl
    | node _ _ _ _ _ => rw [hx] at hl; simp [elen] at hl
  simp only [toldX, here, h]
  rw [hn]; simp [toldF]
theorem toldX_var {d : Nat} {x : X} (h : fnum x.h (elen x.l) = 2) : toldX (d + 1) x = nameOk x.h.s.data.toList := by
  have hl : elen x.l = 0 := by
    unfold fnum at h
    split at h
    · cases h
    · split at h
      · rename_i e; exact e.2.2
      · split at h
        · cases h
        · split at h <;> cases h
  have hn : x.l = .nil := by
    cases hx : x.l with
    | nil => rfl
    | node _ _ _ _ _ => rw [hx] at hl; simp [elen] at hl
  simp only [toldX, here, h]
  rw [hn]; simp [toldF]
theorem toldX_at {d p q : Nat} {x y : X} (h : fnum x.h (elen x.l) = 3) (e : x.l = .node p q y.h y.l .nil) : toldX (d + 1) x = (nameOk x.h.s.data.toList && toldX d y) := by
  have hh : here x.h (elen x.l) = nameOk x.h.s.data.toList := by simp [here, h]
  unfold toldX
  rw [hh, e]; simp [toldF]
theorem toldX_pair {d p q p' q' : Nat} {x y z : X} (h : fnum x.h (elen x.l) = 4) (e : x.l = .node p q y.h y.l (.node p' q' z.h z.l .nil)) : toldX (d + 1) x = (toldX d y && toldX d z) := by
  have hh : here x.h (elen x.l) = true := by simp [here, h]
  unfold toldX
  rw [hh, e]; simp [toldF, Bool.and_assoc]
theorem toldX_none {d : Nat} {x : X} (h : fnum x.h (elen x.l) = 0) : toldX (d + 1) x = false := by simp [toldX, here, h]
end Go.Proofs.Ytcafpaahbbachaa
/-
  The contract of the landed code's visitAll over expressions: whatever it is handed to do at each of them.
-/
namespace Go.Proofs.Ytcafpaahbbachaa
open Go.RowKit Go.Lib
set_option linter.unusedSimpArgs false
set_option linter.unusedVariables false

/-- What is left to do: rows of expressions, each in its slice. -/
abbrev TdC := List (EF × Value)
theorem infoEE : (Try.prog.info? 70).map (fun i => (i.zero, i.size, i.bytes)) = some (some (.slice Option.none 0 0), 1, 24) := by kernel_rfl
/-- An expression and what stands under it. -/
abbrev EN := EH × EF
/-- All that stand in a row, and under them. -/
def enall : EF → List EN
  | .nil => []
  | .node _ _ h l r => (h, l) :: (enall l ++ enall r)
theorem enall_len : ∀ F : EF, (enall F).length = enodes F
  | .nil => rfl
  | .node _ _ h l r => by have := enall_len l; have := enall_len r; simp only [enall, enodes, List.length_cons, List.length_append]; omega
def ctall : TdC → List EN
  | [] => []
  | p :: r => enall p.1 ++ ctall r
theorem ctall_app (a b : TdC) : ctall (a ++ b) = ctall a ++ ctall b := by
  induction a with
  | nil => rfl
  | cons p a ih => simp only [List.cons_append, ctall, ih, List.append_assoc]
/-- The state between two rounds. -/
structure VisE (w : World) (F : EF) (td : TdC) (vs : List EN) (m : Nat) : Prop where
  all : ∀ p ∈ td, EV w 0 p.1 p.2
  perm : (vs ++ ctall td).Perm (enall F)
  len : td.length + (ctall td).length = m
  big : m ≤ enodes F + 1
/-- Within a round: R is what of the row is still to be looked at. -/
structure VisRE (w : World) (F : EF) (td : TdC) (vs : List EN) (m : Nat) (R G : EF) (k b o : Nat) : Prop where
  all : ∀ p ∈ td, EV w 0 p.1 p.2
  perm : (vs ++ (ctall td ++ enall R)).Perm (enall F)
  len : td.length + (ctall td).length + (enall R).length + 1 = m
  big : m ≤ enodes F + 1
  at_ : EIn w 0 R b (o + k * 4)
  num : k + elen R = elen G
theorem VisE.pop {w : World} {F : EF} {td : TdC} {vs : List EN} {m : Nat} {p : EF × Value} {b o : Nat} (h : VisE w F (td ++ [p]) vs m) (hin : EIn w 0 p.1 b o) : VisRE w F td vs m p.1 p.1 0 b o := by
  have h1 := h.perm; have h2 := h.len; have h3 := h.big
  rw [ctall_app] at h1 h2
  simp only [ctall, List.length_append, List.length_cons, List.length_nil, List.append_nil] at h1 h2
  exact ⟨fun q hq => h.all q (List.mem_append_left _ hq), h1, by omega, h3, by simpa using hin, by omega⟩
theorem VisRE.push {w : World} {F : EF} {td : TdC} {vs : List EN} {m p q : Nat} {hd : EH} {l r G : EF} {k b o : Nat} {u : Value} (h : VisRE w F td vs m (.node p q hd l r) G k b o) (hu : EV w 0 l u) : VisRE w F (td ++ [(l, u)]) (vs ++ [(hd, l)]) m r G (k + 1) b o := by
  have h1 := h.perm; have h2 := h.len; have h4 := h.num
  simp only [enall, elen, List.length_cons, List.length_append] at h1 h2 h4
  refine ⟨fun q hq => ?_, ?_, ?_, h.big, ?_, by omega⟩
  · rcases List.mem_append.1 hq with hq | hq
    · exact h.all q hq
    · simp only [List.mem_cons, List.not_mem_nil, or_false] at hq; subst hq; exact hu
  · refine List.Perm.trans ?_ h1
    rw [ctall_app]
    simp only [ctall, List.append_nil, List.append_assoc, List.singleton_append, List.cons_append, List.nil_append]
    exact (List.perm_middle.symm).append_left vs
  · rw [ctall_app]; simp only [ctall, List.length_append, List.length_cons, List.length_nil]; omega
  · rw [show o + (k + 1) * 4 = o + k * 4 + 4 by omega]; exact (EIn_node.1 h.at_).2
theorem VisRE.done {w : World} {F : EF} {td : TdC} {vs : List EN} {m : Nat} {G : EF} {k b o : Nat} (h : VisRE w F td vs m .nil G k b o) : VisE w F td vs (m - 1) := by
  have h1 := h.perm; have h2 := h.len; have h3 := h.big
  simp only [enall, List.length_nil, List.append_nil] at h1 h2
  exact ⟨h.all, h1, by omega, by omega⟩
theorem VisRE.mem {w : World} {F : EF} {td : TdC} {vs : List EN} {m p q : Nat} {hd : EH} {l r G : EF} {k b o : Nat} (h : VisRE w F td vs m (.node p q hd l r) G k b o) : (hd, l) ∈ enall F ∧ vs.length < enodes F := by
  have h1 := h.perm
  refine ⟨h1.subset (by simp [enall]), ?_⟩
  have := h1.length_eq
  rw [enall_len] at this
  simp only [enall, List.length_append, List.length_cons] at this
  omega
/-- One more to do. -/
theorem snocH {w w5 w6 : World} {lo hi : Nat} {td : TdC} {t v' u : Value} {l : EF} {o : Obj} (hown : w5.ownsRow w.heap.size 70 1 t td.length (td.map (·.2))) (hb : Gap lo hi w w5) (hg : (w5.alloc o).grownBy w6 t.ownBlock)
    (h : w6.ownsRow w.heap.size 70 1 v' (td.length + 1) (td.map (·.2) ++ [u])) : w6.ownsRow w.heap.size 70 1 v' (td ++ [(l, u)]).length ((td ++ [(l, u)]).map (·.2)) ∧ Gap lo hi w w6 ∧ w5.heap.size ≤ w6.heap.size ∧ ∀ k, k < w.heap.size → w6.heap[k]? = w5.heap[k]? := by
  have hbl : Below w.heap.size w5 w6 := ((Below.refl w.heap.size w5).alloc hb.size o).grown hg (by have := hb.size; simp; omega) (fun k hk => (hown.lt k hk).1)
  refine ⟨by rw [List.length_append, List.map_append]; exact h, ?_, hbl.size, hbl.block⟩
  exact ⟨hbl.os.trans hb.os, hbl.tape.trans hb.tape, hbl.output.trans hb.output, Nat.le_trans hb.size hbl.size, fun k hk hc => (hbl.block k hk).trans (hb.block k hk hc)⟩
/-- What is handed to visitAll to do at each. -/
def DoesE (w0 : World) (n lo hi : Nat) (F : EF) (kf : Nat) (caps : Array Value) (J : List EN → World → Prop) : Prop :=
  ∀ (vs : List EN) (h : EH) (l : EF) (u : Value) (w1 : World), J vs w1 → Below w0.heap.size w0 w1 → n ≤ w1.heap.size → EV w0 0 l u → (h, l) ∈ enall F → vs.length < enodes F →
    Calls Try.prog kf (#[.agg (xcells ⟨h, l⟩ u).toArray] ++ caps) w1 fun e w2 => e = .returned (.tuple #[]) ∧ J (vs ++ [(h, l)]) w2 ∧ Gap lo hi w1 w2
end Go.Proofs.Ytcafpaahbbachaa
/-
  The contract of the landed code's countAll over expressions.
-/
namespace Go.Proofs.Ytcafpaahbbachaa
open Go.RowKit Go.Lib
set_option linter.unusedSimpArgs false
set_option linter.unusedVariables false

end Go.Proofs.Ytcafpaahbbachaa
/-
  The contract of the landed code's ExpOk.
-/
namespace Go.Proofs.Ytcafpaahbbachaa
open Go.RowKit Go.Lib
set_option linter.unusedSimpArgs false
set_option linter.unusedVariables false

theorem new_range (w : World) (arr : Array Value) (t : TypeId) : (w.alloc (.cells arr t)).rangeAt w.heap.size 0 arr.toList := blk_range (t := t) (fr := (0, 0)) (by show (w.heap.push _)[w.heap.size]? = _; simp)
def expOk (x : X) : Bool := toldX 8 x && decide (enodes x.l + 1 ≤ 60)
end Go.Proofs.Ytcafpaahbbachaa
/-
  The contracts of the specification's l3Parts, l1In, l3Here.
-/
namespace Go.Proofs.Ytcafpaahbbachaa
open Go.RowKit Go.Lib
set_option linter.unusedSimpArgs false
set_option linter.unusedVariables false

def parts (k : Int) : Int := if k = 1 ∨ k = 2 then 0 else if k = 3 then 1 else if 4 ≤ k ∧ k ≤ 8 then 2 else -1
theorem l1In_is (n a b : Int) (w : World) : Calls Try.prog 16 #[.int .i64 n, .int .i64 a, .int .i64 b] w fun e w' => e = .returned (.bool (decide (a ≤ n) && decide (n ≤ b))) ∧ w = w' := by
  by_cases h1 : a ≤ n
  · by_cases h2 : n ≤ b
    · go_enter Try.func16, Try.ntmps16
      go_wp2
      go_ret
      exact retB (by rw [decide_eq_true h1, decide_eq_true h2]; rfl) rfl
    · go_enter Try.func16, Try.ntmps16
      go_wp2
      go_ret
      exact retB (by first | (rw [decide_eq_false (by omega)]) | (simp; omega)) rfl
  · go_enter Try.func16, Try.ntmps16
    go_wp2
    go_ret
    exact retB (by rw [decide_eq_false (by omega)]; rfl) rfl
theorem belowN {B : Nat} {w w' : World} (h : Below B w w') (n : Nat) : Below B w (w'.drewN n) := by
  induction n with
  | zero => exact h
  | succ n ih => exact ih.drew
theorem below_calls {w w1 w2 : World} {n : Nat} (h : Below w.heap.size w w1) (hb : Below (w1.drewN n).heap.size (w1.drewN n) w2) : Below w.heap.size w w2 := (belowN h n).trans (hb.mono (belowN h n).size)
end Go.Proofs.Ytcafpaahbbachaa
