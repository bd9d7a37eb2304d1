/-
  Texts in one: MtGcd, MtCat.
-/
import Derived.Test.YtjdpddcnogdekabMtRng
import Derived.Test.YtjdpddcnogdekabGcd
import Derived.Test.YtjdpddcnogdekabAffOkS
import Derived.Shelf.Spec.SlicesGrow
import Derived.Laws.OwnMore
import Derived.Maps.AppendAt
import Derived.Test.YtjdpddcnogdekabAffOk
/-
  The greatest that divides all numbers of two sums; GcdMeet of the specification.
-/
namespace Go.Proofs.Ytjdpddcnogdekab
open Go.RowKit Go.Lib
set_option linter.unusedSimpArgs false
set_option linter.unusedVariables false

def gcdL11 (g : Int) : List AR → Int
  | [] => g
  | t :: ts => gcdL11 (gcdW g t.n) ts
theorem gcdL11_app (g : Int) : ∀ (a b : List AR), gcdL11 g (a ++ b) = gcdL11 (gcdL11 g a) b := by
  intro a
  induction a generalizing g with
  | nil => intro b; rfl
  | cons t ts ih => intro b; exact ih _ b
theorem gcdW_bd (a b : Int) : 0 ≤ gcdW a b ∧ gcdW a b ≤ 2147483648 := by
  unfold gcdW
  have ha := wrap32_bdW a
  have hb := wrap32_bdW b
  refine ⟨by omega, ?_⟩
  by_cases h : wrap32 a = 0
  · rw [h, Int.gcd_zero_left]; omega
  · have := Int.gcd_le_natAbs_left (wrap32 b) h
    omega
theorem gcdL11_bd : ∀ (l : List AR) (g : Int), 0 ≤ g ∧ g ≤ 2147483648 → 0 ≤ gcdL11 g l ∧ gcdL11 g l ≤ 2147483648
  | [], g, h => h
  | t :: ts, g, _ => gcdL11_bd ts _ (gcdW_bd g t.n)
def gcdMeet11 (c : Int) (ts : List AR) (d : Int) (us : List AR) : Bool :=
  affOk8 c ts && affOk8 d us && (if gcdL11 0 (ts ++ us) = 0 then decide (c = d) else decide ((c - d).tmod (gcdL11 0 (ts ++ us)) = 0))
theorem affOk_c {c : Int} {ts : List AR} (h : affOk8 c ts = true) : -100000 ≤ c ∧ c ≤ 100000 := by
  simp only [affOk8, inMax8, Bool.and_eq_true, decide_eq_true_eq] at h
  exact h.1
end Go.Proofs.Ytjdpddcnogdekab
/-
  slices.Concat of two rows of terms; GcdMeet of the landed code.
-/
namespace Go.Proofs
open Go.RowKit Go.Shelf
end Go.Proofs
namespace Go.Proofs.Ytjdpddcnogdekab
open Go.RowKit Go.Lib
set_option linter.unusedSimpArgs false
set_option linter.unusedVariables false

theorem AV.ofOwn11 {w : World} {B n c : Nat} {a : Option Addr} {ts : List AR} (h : w.ownsRow B 64 2 (.slice a n c) ts.length (acells ts)) : AV w 0 (.slice a n c) ts := by
  rcases h.2 with ⟨h0, h1⟩ | ⟨g, cap, cur, h1, h2, h3, h4⟩
  · have : ts = [] := List.length_eq_zero_iff.1 h1
    subst this
    exact ⟨_, _, h0, .inl rfl⟩
  · have hc := h.cells (g := g) (by rw [h1]; rfl)
    refine ⟨_, cap, h1, .inr ⟨g, 0, rfl, Nat.zero_le _, (Array.getElem?_eq_some_iff.1 h3).1, fun i t hi => ?_⟩⟩
    have hg := acells_get ts i t hi
    have e : ∀ j, (⟨g, 0, Option.none⟩ : Addr).add j = ⟨g, j, Option.none⟩ := fun j => by simp [Addr.add]; omega
    have a := hc _ _ hg.1; have b := hc _ _ hg.2
    rw [e] at a b
    exact ⟨by rw [Nat.zero_add]; exact a, by rw [Nat.zero_add]; exact b⟩
theorem ownShape11 {w : World} {B sz n : Nat} {e : TypeId} {v : Value} {xs : List Value} (h : w.ownsRow B e sz v n xs) : ∃ a c, v = .slice a n c := by
  rcases h.2 with ⟨h0, h1⟩ | ⟨g, cap, cur, h1, _⟩
  · subst h1; exact ⟨_, _, h0⟩
  · exact ⟨_, _, h1⟩
theorem acells_one11 : ∀ (bs : List AR), ∀ u ∈ acells bs, u.oneCell' = true := by
  intro bs
  induction bs with
  | nil => intro u hu; simp [acells] at hu
  | cons t ts ih =>
    intro u hu
    simp only [acells, List.mem_cons] at hu
    rcases hu with rfl | rfl | hu
    · rfl
    · rfl
    · exact ih u hu
/-- Terms appended to a row that is the call's own. -/
theorem appT11 {w : World} {B : Nat} {v : Value} {n : Nat} {xs : List Value} {ao : Option Addr} {ts : List AR} {cap : Nat} (hown : w.ownsRow B 64 2 v n xs) (hB : B ≤ w.heap.size) (hs : AV w 0 (.slice ao ts.length cap) ts) (hn : n + ts.length ≤ 100000000) (ty : TypeId) :
    ∃ v' w', (Builtin.append_ #[28, 28] ty #[v, .slice ao ts.length cap]).run Try.prog w = .ok v' w' ∧ w'.ownsRow B 64 2 v' (n + ts.length) (xs ++ acells ts) ∧ w.grownBy w' v.ownBlock := by
  obtain ⟨i0, hi, hz0, hz1, hz2⟩ := info_parts infoIT8
  obtain ⟨ao', cap', e, hr⟩ := hs
  injection e with e1 e2 e3
  subst e1; subst e3
  cases ao with
  | none =>
    obtain rfl : ts = [] := by
      rcases hr with h | ⟨g, off, h, _⟩
      · exact h
      · cases h
    refine ⟨v, w, ?_, by simpa [acells] using hown, World.grownBy.refl _ _⟩
    rcases hown.2 with ⟨rfl, rfl⟩ | ⟨g, cap2, cur, rfl, _, _, hnc, _⟩
    · simp [Builtin.append_, run_underlying Try.underlying28, sizeOf, typeInfo, hi, Builtin.lenOf, Builtin.firstCells, loadCells, loadCellsFrom]
    · simp [Builtin.append_, run_underlying Try.underlying28, sizeOf, typeInfo, hi, Builtin.lenOf, Builtin.firstCells, hnc, storeCells, loadCells, loadCellsFrom]
  | some a =>
    have hc : ∀ j u, (acells ts)[j]? = some u → w.cell? (a.add j) = some u := by
      rcases hr with h | ⟨g, off, h, _, _, hc⟩
      · subst h; intro j u hu; simp [acells] at hu
      · injection h with h
        subst h
        intro j u hu
        have e : (⟨g, off, Option.none⟩ : Addr).add j = ⟨g, off + j, Option.none⟩ := by simp [Addr.add]
        rw [e]
        have hj : j < (acells ts).length := (List.getElem?_eq_some_iff.1 hu).1
        rw [acells_len] at hj
        obtain ⟨t, ht⟩ : ∃ t, ts[j / 2]? = some t := ⟨ts[j / 2]'(by omega), List.getElem?_eq_getElem _⟩
        have hg := acells_get ts (j / 2) t ht
        rcases Nat.mod_two_eq_zero_or_one j with hm | hm
        · have hj2 : j / 2 * 2 = j := by omega
          rw [hj2] at hg
          rw [← Option.some.inj (hg.1.symm.trans hu)]
          have := (hc _ _ ht).1; rwa [hj2] at this
        · have hj2 : j / 2 * 2 + 1 = j := by omega
          rw [hj2] at hg
          rw [← Option.some.inj (hg.2.symm.trans hu)]
          have := (hc _ _ ht).2; rwa [Nat.add_assoc, hj2] at this
    obtain ⟨v', w', h1, h2, h3, _⟩ := run_append_own (P := Try.prog) w B 28 ty 64 i0 _ 2 24 Try.underlying28 hi hz0 hz1 hz2 rfl (by decide) v n xs hown a ts.length cap (acells ts) (acells_len ts) hc (acells_one11 ts) (by unfold maxLen; omega) (by omega) hB
    exact ⟨v', w', h1, h2, h3⟩
section
variable {P : Program} {w w' : World}
theorem wp_app11 {o : Oper} {a : Act} {K : Act → World → Prop} {Q : Exit → Act → World → Prop} (s x : Operand) (t : TypeId) (v sx v' : Value) (ho : o.op = .call { callee := .builtin .append, args := #[s, x], argTypes := #[t, t] })
    (hs : a.eval s = v) (hx : a.eval x = sx) (hrun : (Builtin.append_ #[t, t] o.type #[v, sx]).run P w = .ok v' w') (h : K (a.put o.dst v') w') : o.wp P a w K Q := by
  unfold Oper.wp execOp
  simp only [ho, resolve, invoke, builtin, Sem.run_bind, Sem.run_pure, Result.andThen_ok, List.map_toArray, List.map_cons, List.map_nil, hs, hx, hrun]
  exact h
theorem wpList_app11 {ops : Array Oper} {rest : List Oper} {o : Oper} {a : Act} {Q : Exit → Act → World → Prop} (hgd : o.guard = none) (s x : Operand) (t : TypeId) (v sx v' : Value) (ho : o.op = .call { callee := .builtin .append, args := #[s, x], argTypes := #[t, t] })
    (hs : a.eval s = v) (hx : a.eval x = sx) (hrun : (Builtin.append_ #[t, t] o.type #[v, sx]).run P w = .ok v' w') (h : wpList P ops Q rest (a.put o.dst v') w') : wpList P ops Q (o :: rest) a w :=
  wpList_plain hgd fun _ hK => wp_app11 s x t v sx v' ho hs hx hrun (hK _ _ h)
end
def part11 (ts us : List AR) : Nat → List AR
  | 0 => []
  | 1 => ts
  | _ => ts ++ us
theorem acells_app11 : ∀ (a b : List AR), acells (a ++ b) = acells a ++ acells b
  | [], _ => rfl
  | t :: r, b => by simp only [List.cons_append, acells, acells_app11 r b]
theorem below_alloc11 {w w' : World} {o : Obj} (h : Below (w.alloc o).heap.size (w.alloc o) w') : Below w.heap.size w w' :=
  (alloc_below w o).trans (h.mono (by simp))
theorem below_drewN11 {B : Nat} {w w' : World} (h : Below B w w') (n : Nat) : Below B w (w'.drewN n) := ⟨h.os, h.tape, h.output, h.size, h.block⟩
end Go.Proofs.Ytjdpddcnogdekab
