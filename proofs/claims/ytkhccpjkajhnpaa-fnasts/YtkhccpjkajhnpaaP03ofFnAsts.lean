/-
  Texts in one: AstAll, CurBase, CurText, AstDraw.
-/
import Derived.Test.YtkhccpjkajhnpaaP02ofFnAsts
import Derived.Deep.AppendLies
import Derived.Test.YtkhccpjkajhnpaaRows
import Derived.WalkKit
import Derived.WalkLawsBesides
import Derived.Laws.BitsLemmas
import Derived.Lib.SmallJoins
import Derived.Lib.Hide
import Derived.Deep.QuietTactic
import Derived.BigQuiet
import Derived.Test.YtkhccpjkajhnpaaP00ofFnAsts
/-
  The contract of the landed code's sameAll over expressions, and of its SameExp.
-/
namespace Go.Proofs.Ytkhccpjkajhnpaa
open Go.RowKit Go.Lib
set_option linter.unusedSimpArgs false
set_option linter.unusedVariables false

/-- What is left to do: two rows of expressions each, in their slices. -/
abbrev TdE := List ((EF × EF) × (Value × Value))
def flatE (td : TdE) : List Value := td.flatMap (fun p => [p.2.1, p.2.2])
def sumE : TdE → Nat
  | [] => 0
  | p :: r => enodes p.1.1 + sumE r
def allE (td : TdE) : Bool := td.all (fun p => esame p.1.1 p.1.2)
theorem flatE_length (td : TdE) : (flatE td).length = td.length * 2 := by
  induction td with
  | nil => rfl
  | cons p r ih => simp only [flatE, List.flatMap_cons, List.length_append, List.length_cons, List.length_nil] at ih ⊢; omega
theorem flatE_app (a b : TdE) : flatE (a ++ b) = flatE a ++ flatE b := by simp [flatE]
theorem sumE_app (a b : TdE) : sumE (a ++ b) = sumE a + sumE b := by
  induction a with
  | nil => simp [sumE]
  | cons p a ih => simp only [List.cons_append, sumE, ih]; omega
theorem allE_app (a b : TdE) : allE (a ++ b) = (allE a && allE b) := by simp [allE]
/-- The state between two rounds. -/
structure SamS (w : World) (A : Bool) (td : TdE) (m B : Nat) : Prop where
  all : ∀ p ∈ td, EV w 0 p.1.1 p.2.1 ∧ EV w 0 p.1.2 p.2.2
  ans : A = allE td
  len : td.length + sumE td = m
  big : m ≤ B
/-- Within a round. -/
structure SamR (w : World) (A : Bool) (td : TdE) (m B : Nat) (R S G : EF) (k b1 o1 b2 o2 : Nat) : Prop where
  all : ∀ p ∈ td, EV w 0 p.1.1 p.2.1 ∧ EV w 0 p.1.2 p.2.2
  ans : A = (allE td && esame R S)
  len : td.length + sumE td + enodes R + 1 = m
  big : m ≤ B
  at1 : EIn w 0 R b1 (o1 + k * 4)
  at2 : EIn w 0 S b2 (o2 + k * 4)
  num : k + elen R = elen G
  eqn : elen R = elen S
theorem SamS.pop {w : World} {A : Bool} {td : TdE} {m B b1 o1 b2 o2 : Nat} {p : (EF × EF) × (Value × Value)} (h : SamS w A (td ++ [p]) m B) (hl : elen p.1.1 = elen p.1.2) (i1 : EIn w 0 p.1.1 b1 o1) (i2 : EIn w 0 p.1.2 b2 o2) : SamR w A td m B p.1.1 p.1.2 p.1.1 0 b1 o1 b2 o2 := by
  have h1 := h.ans; have h2 := h.len
  rw [allE_app] at h1
  rw [sumE_app] at h2
  simp only [sumE, List.length_append, List.length_cons, List.length_nil] at h2
  exact ⟨fun q hq => h.all q (List.mem_append_left _ hq), by rw [h1]; simp [allE], by omega, h.big, by simpa using i1, by simpa using i2, by omega, hl⟩
theorem SamS.diff {w : World} {A : Bool} {td : TdE} {m B : Nat} {p : (EF × EF) × (Value × Value)} (h : SamS w A (td ++ [p]) m B) (hl : ¬ elen p.1.1 = elen p.1.2) : A = false := by
  rw [h.ans, allE_app]; simp [allE, esame_diff hl]
theorem SamR.stop {w : World} {A : Bool} {td : TdE} {m B p q p' q' : Nat} {h h' : EH} {l r l' r' G : EF} {k b1 o1 b2 o2 : Nat} (hr : SamR w A td m B (.node p q h l r) (.node p' q' h' l' r') G k b1 o1 b2 o2) (he : hsame h h' = false) : A = false := by
  rw [hr.ans]; simp [esame, he]
theorem SamR.push {w : World} {A : Bool} {td : TdE} {m B p q p' q' : Nat} {h h' : EH} {l r l' r' G : EF} {k b1 o1 b2 o2 : Nat} {u u' : Value} (hr : SamR w A td m B (.node p q h l r) (.node p' q' h' l' r') G k b1 o1 b2 o2) (he : hsame h h' = true) (h1 : EV w 0 l u) (h2 : EV w 0 l' u') : SamR w A (td ++ [((l, l'), (u, u'))]) m B r r' G (k + 1) b1 o1 b2 o2 := by
  have e1 := hr.ans; have e2 := hr.len; have e3 := hr.num; have e4 := hr.eqn
  simp only [enodes, elen] at e2 e3 e4
  refine ⟨fun q hq => ?_, ?_, ?_, hr.big, ?_, ?_, by omega, by omega⟩
  · rcases List.mem_append.1 hq with hq | hq
    · exact hr.all q hq
    · simp only [List.mem_cons, List.not_mem_nil, or_false] at hq; subst hq; exact ⟨h1, h2⟩
  · rw [e1, allE_app]; simp [allE, esame, he, Bool.and_assoc]
  · rw [sumE_app]; simp only [sumE, List.length_append, List.length_cons, List.length_nil]; omega
  · rw [show o1 + (k + 1) * 4 = o1 + k * 4 + 4 by omega]; exact (EIn_node.1 hr.at1).2
  · rw [show o2 + (k + 1) * 4 = o2 + k * 4 + 4 by omega]; exact (EIn_node.1 hr.at2).2
theorem SamR.done {w : World} {A : Bool} {td : TdE} {m B : Nat} {S G : EF} {k b1 o1 b2 o2 : Nat} (hr : SamR w A td m B .nil S G k b1 o1 b2 o2) : SamS w A td (m - 1) B := by
  have e1 := hr.ans; have e2 := hr.len; have e4 := hr.eqn; have e5 := hr.big
  cases S with
  | nil => simp only [enodes] at e2; exact ⟨hr.all, by rw [e1]; simp [esame], by omega, by omega⟩
  | node _ _ _ _ _ => simp only [elen] at e4; omega
/-- The world in which the first two rows lie. -/
def startE (w : World) (A C : Array Value) (t : TypeId) : World := (((w.alloc (.cells A t)).alloc (.cells C t)).alloc (.cells A t)).alloc (.cells C t)
theorem startE_is (w : World) (A C : Array Value) (t : TypeId) : (startE w A C t).rangeAt (w.heap.size + 2) 0 A.toList ∧ (startE w A C t).rangeAt (w.heap.size + 3) 0 C.toList ∧ Below w.heap.size w (startE w A C t) ∧ (startE w A C t).heap.size = w.heap.size + 4 := by
  have e : ∀ (v : World) (o : Obj), (v.alloc o).heap[v.heap.size]? = some o := fun v o => by show (v.heap.push o)[v.heap.size]? = _; simp
  have s2 : ((w.alloc (.cells A t)).alloc (.cells C t)).heap.size = w.heap.size + 2 := by simp
  have s3 : (((w.alloc (.cells A t)).alloc (.cells C t)).alloc (.cells A t)).heap.size = w.heap.size + 3 := by simp
  have q2 : (startE w A C t).heap[w.heap.size + 2]? = some (.cells A t) := by unfold startE; rw [Below.heap_alloc _ _ _ (by rw [s3]; omega), ← s2]; exact e _ _
  have q3 : (startE w A C t).heap[w.heap.size + 3]? = some (.cells C t) := by unfold startE; rw [← s3]; exact e _ _
  refine ⟨blk_range q2, blk_range q3, ?_, by unfold startE; simp⟩
  exact (((alloc_below w _).alloc (by simp) _).alloc (by rw [s2]; omega) _).alloc (by rw [s3]; omega) _
theorem infoB : (Try.prog.info? 89).map (fun i => (i.zero, i.size, i.bytes)) = some (some (.agg #[.slice Option.none 0 0, .slice Option.none 0 0]), 2, 48) := by kernel_rfl
theorem new2 (w : World) (u v : Value) (t : TypeId) : ∀ j x, [u, v][j]? = some x → (w.alloc (.cells #[u, v] t)).cell? ((⟨w.heap.size, 0, Option.none⟩ : Addr).add j) = some x := by
  intro j x h
  have e : (w.alloc (.cells #[u, v] t)).heap[w.heap.size]? = some (.cells #[u, v] t (0, 0)) := by show (w.heap.push _)[w.heap.size]? = _; simp
  have e2 : ((⟨w.heap.size, 0, Option.none⟩ : Addr).add j) = ⟨w.heap.size, j, Option.none⟩ := by simp [Addr.add]; omega
  rw [e2]
  simp only [World.cell?, e]
  match j, h with
  | 0, h => simpa using h
  | 1, h => simpa using h
  | j + 2, h => simp at h
/-- What is known of the variable that holds the two rows of a round, while more is laid. -/
structure Nxt (w : World) (t : Value) (n : Nat) (vb : Value) : Prop where
  c : w.cell? ⟨n, 1, Option.none⟩ = some vb
  lt : n < w.heap.size
  ne : ∀ g, t.ownBlock = some g → g ≠ n
theorem Nxt.later {w w' : World} {t : Value} {n : Nat} {vb : Value} (h : Nxt w t n vb) (hb : Below w.heap.size w w') : Nxt w' t n vb := ⟨keeps hb h.c, Nat.lt_of_lt_of_le h.lt hb.size, h.ne⟩
theorem range_grown {w w6 : World} {r : Option Nat} {n o : Nat} {cs : List Value} (h : w.rangeAt n o cs) (hg : w.grownBy w6 r) (hne : r ≠ some n) : w6.rangeAt n o cs := fun j v hv => by
  have hc := h j v hv
  have e := hg.block n (lt_of_cellA hc) (fun e => hne e.symm)
  simp only [World.cell?, e] at hc ⊢
  exact hc
/-- One more to do. -/
theorem snocE {w1 w5 w6 : World} {g cap : Nat} {td : TdE} {t u u' : Value} {l l' : EF} {o : Obj} {e : TypeId} {n : Nat} {vb : Value} (hown : w5.ownsRow w1.heap.size e 2 t td.length (flatE td)) (hb : Below w1.heap.size w1 w5) (hg : (w5.alloc o).grownBy w6 t.ownBlock)
    (hat : t.ownBlock = some g ∨ g = w5.heap.size + 1) (hx : Nxt w5 t n vb)
    (h : w6.ownsRow w1.heap.size e 2 (.slice (some ⟨g, 0, Option.none⟩) (td.length + 1) cap) (td.length + 1) (flatE td ++ [u, u'])) :
    w6.ownsRow w1.heap.size e 2 (.slice (some ⟨g, 0, Option.none⟩) (td.length + 1) cap) (td ++ [((l, l'), (u, u'))]).length (flatE (td ++ [((l, l'), (u, u'))])) ∧ Below w1.heap.size w1 w6 ∧ Nxt w6 (.slice (some ⟨g, 0, Option.none⟩) (td.length + 1) cap) n vb := by
  refine ⟨by rw [List.length_append, flatE_app]; exact h, (hb.alloc hb.size o).grown hg (by have := hb.size; simp; omega) (fun k hk => (hown.lt k hk).1), ⟨?_, ?_, ?_⟩⟩
  · have e1 : w6.heap[n]? = (w5.alloc o).heap[n]? := hg.block n (by have := hx.lt; simp; omega) (fun e => hx.ne n e.symm rfl)
    have e2 : (w5.alloc o).heap[n]? = w5.heap[n]? := Below.heap_alloc _ _ _ hx.lt
    have := hx.c
    simp only [World.cell?, e1, e2] at this ⊢
    exact this
  · have := hg.size; have := hx.lt; simp at *; omega
  · intro g' hg'
    have : g' = g := by simpa [Value.ownBlock] using hg'.symm
    subst this
    rcases hat with h1 | h1
    · exact hx.ne _ h1
    · have := hx.lt; omega
set_option maxHeartbeats 4000000 in
set_option maxRecDepth 100000 in
theorem sameAllE_is (x y : X) (hx : enodes x.l ≤ 10000000) (w : World) (va vb : Value) (ha : EV w 0 x.l va) (hb : EV w 0 y.l vb) :
    Calls Try.prog 33 #[.agg (xcells x va).toArray, .agg (xcells y vb).toArray, .func (.func 34) #[] #[], .func (.func 29) #[] #[]] w fun e w' => e = .returned (.bool (xsame x y)) ∧ Below w.heap.size w w' := by
  obtain ⟨i0, hi, hz0, hz1, hz2⟩ := info_parts infoB
  obtain ⟨aa, ca, rfl⟩ := ha.shape
  obtain ⟨ab, cb, rfl⟩ := hb.shape
  obtain ⟨s1, s2, s3, s4⟩ := startE_is w (xcells x (.slice aa (elen x.l) ca)).toArray (xcells y (.slice ab (elen y.l) cb)).toArray 26
  obtain ⟨w1, hw1⟩ : ∃ w1, startE w (xcells x (.slice aa (elen x.l) ca)).toArray (xcells y (.slice ab (elen y.l) cb)).toArray 26 = w1 := ⟨_, rfl⟩
  rw [hw1] at s1 s2 s3 s4
  obtain ⟨A, hA⟩ : ∃ A, xsame x y = A := ⟨_, rfl⟩
  have C0 : Hid (SamS w1 A [((.node 0 0 x.h x.l .nil, .node 0 0 y.h y.l .nil), (.slice (some ⟨w.heap.size + 2, 0, Option.none⟩) 1 1, .slice (some ⟨w.heap.size + 3, 0, Option.none⟩) 1 1))] (enodes x.l + 2) (enodes x.l + 2)) := by
    refine ⟨fun p hp => ?_, ?_, ?_, Nat.le_refl _⟩
    · simp only [List.mem_cons, List.not_mem_nil, or_false] at hp
      subst hp
      exact ⟨EV.laid0 (F := .node 0 0 x.h x.l .nil) (ERow.one (ha.later s3)) s1 1, EV.laid0 (F := .node 0 0 y.h y.l .nil) (ERow.one (hb.later s3)) s2 1⟩
    · rw [← hA]; simp [allE, esame, xsame]
    · simp only [sumE, enodes, List.length_cons, List.length_nil]; omega
  have HW := Lib.hid hw1
  have HS := Lib.hid (And.intro s3 s4)
  have HA := Lib.hid hA
  clear s1 s2 s3 s4 ha hb hw1 hA
  show Calls Try.prog 33 #[.agg #[.int .i64 x.h.k, .int .i64 x.h.n, .string x.h.s, .slice aa (elen x.l) ca], .agg #[.int .i64 y.h.k, .int .i64 y.h.n, .string y.h.s, .slice ab (elen y.l) cb], .func (.func 34) #[] #[], .func (.func 29) #[] #[]] w _
  go_enter Try.func33, Try.ntmps33
  go_wp2
  go_loopg [9] (enodes x.l + 2) (fun m t wr => ∃ (td : TdE), Hid (SamS w1 A td m (enodes x.l + 2)) ∧ wr.ownsRow w1.heap.size 89 2 t td.length (flatE td) ∧ Below w1.heap.size w1 wr)
  case atStart =>
    have e0 := HW.out
    have e4 := HS.out.2
    refine ⟨_, C0.out, ⟨rfl, .inr ⟨w.heap.size + 4, 1, #[.slice (some ⟨w.heap.size + 2, 0, Option.none⟩) 1 1, .slice (some ⟨w.heap.size + 3, 0, Option.none⟩) 1 1], rfl, by omega, ?_, Nat.le_refl _, (by unfold maxLen; omega), rfl, rfl⟩⟩, ?_⟩
    · have : (w1.alloc (.cells #[.slice (some ⟨w.heap.size + 2, 0, Option.none⟩) 1 1, .slice (some ⟨w.heap.size + 3, 0, Option.none⟩) 1 1] 89)).heap[w1.heap.size]? = some (.cells #[.slice (some ⟨w.heap.size + 2, 0, Option.none⟩) 1 1, .slice (some ⟨w.heap.size + 3, 0, Option.none⟩) 1 1] 89 (0, 0)) := by
        show (w1.heap.push _)[w1.heap.size]? = _; simp
      rw [e4, ← e0] at this
      exact this
    · have := alloc_below w1 (.cells #[.slice (some ⟨w.heap.size + 2, 0, Option.none⟩) 1 1, .slice (some ⟨w.heap.size + 3, 0, Option.none⟩) 1 1] 89)
      rw [← e0] at this ⊢
      exact this
  case round =>
    obtain ⟨td, hC, hown, hbw⟩ := hrel
    clear C0
    rcases List.eq_nil_or_concat td with rfl | ⟨ti, p, htd⟩
    · obtain ⟨a, cap, rfl⟩ := own_none hown
      have hs : Hid (A = true) := hC.out.ans
      go_wp2
      go_ret
      exact retB (HA.out.trans hs.out) (HS.out.1.trans (hbw.mono HS.out.1.size))
    · rw [List.concat_eq_append] at htd
      subst htd
      rw [List.length_append, flatE_app] at hown
      obtain ⟨g, cap, rfl, hc1, hc2, hBg, hg⟩ := own_some hown
      obtain ⟨pv1, pv2⟩ := hC.out.all p (by simp)
      obtain ⟨b1, o1, pa1, pc1, hpv1, hpa1, _, hpin1⟩ := pv1
      obtain ⟨b2, o2, pa2, pc2, hpv2, hpa2, _, hpin2⟩ := pv2
      have hfl : flatE [p] = [p.2.1, p.2.2] := rfl
      have hcell1 := own_cell hown (j := ti.length * 2) (u := p.2.1) (by rw [List.getElem?_append_right (by rw [flatE_length]; omega), flatE_length, Nat.sub_self, hfl]; rfl)
      have hcell2 := own_cell hown (j := ti.length * 2 + 1) (u := p.2.2) (by rw [List.getElem?_append_right (by rw [flatE_length]; omega), flatE_length, show ti.length * 2 + 1 - ti.length * 2 = 1 by omega, hfl]; rfl)
      have hpop := own_pop hown (by rw [flatE_length])
      rw [hpv1] at hcell1
      rw [hpv2] at hcell2
      have hlen : ti.length ≤ 10000002 := by have h1 := hC.out.len; have h2 := hC.out.big; simp only [List.length_append, List.length_cons, List.length_nil] at h1; omega
      have hcapI : (ti.length : Int) + 1 ≤ (cap : Int) := by omega
      have hlenI : (ti.length : Int) ≤ 10000002 := by omega
      have hmx : (cap : Int) ≤ 9223372036854775807 := by unfold maxLen at hc2; omega
      have hgw : ∀ g', (Value.slice (some ⟨g, 0, Option.none⟩) ti.length cap).ownBlock = some g' → g' ≠ wr.heap.size := by
        intro g' e; have : g = g' := by simpa [Value.ownBlock] using e
        omega
      clear hown hc1 hc2
      by_cases hL : elen p.1.1 = elen p.1.2
      case neg =>
        have hf : Hid (A = false) := hC.out.diff hL
        have h1 : ((elen p.1.1 : Int) == (elen p.1.2 : Int)) = false := int_ne (by omega)
        clear hC hL
        go_wp2
        go_ret
        exact retB (HA.out.trans hf.out) (HS.out.1.trans ((hbw.alloc hbw.size _).mono HS.out.1.size))
      have hR := Lib.hid (hC.out.pop hL hpin1 hpin2)
      have HL := Lib.hid hL
      have h1 : ((elen p.1.1 : Int) == (elen p.1.2 : Int)) = true := by rw [beq_iff_eq]; omega
      have h1n : ((elen p.1.1 : Int) != (elen p.1.2 : Int)) = false := by rw [bne, h1]; rfl
      have hn1 : (elen p.1.1 : Int) ≤ 20000000 := by have h1 := hR.out.len; have h2 := hR.out.big; have := elen_le p.1.1; omega
      have HP : Hid ((pa1 = some ⟨b1, o1, Option.none⟩ ∨ p.1.1 = .nil) ∧ (pa2 = some ⟨b2, o2, Option.none⟩ ∨ p.1.2 = .nil)) := ⟨hpa1, hpa2⟩
      have hpop2 := hpop.alloc (.cells #[.slice pa1 (elen p.1.1) pc1, .slice pa2 (elen p.1.2) pc2] 89)
      have hbw2 := hbw.alloc hbw.size (.cells #[.slice pa1 (elen p.1.1) pc1, .slice pa2 (elen p.1.2) pc2] 89)
      have N0 : Hid (Nxt (wr.alloc (.cells #[.slice pa1 (elen p.1.1) pc1, .slice pa2 (elen p.1.2) pc2] 89)) (.slice (some ⟨g, 0, Option.none⟩) ti.length cap) wr.heap.size (.slice pa2 (elen p.1.2) pc2)) := by
        refine ⟨?_, by simp, hgw⟩
        have := new2 wr (.slice pa1 (elen p.1.1) pc1) (.slice pa2 (elen p.1.2) pc2) 89 1 _ rfl
        have e2 : ((⟨wr.heap.size, 0, Option.none⟩ : Addr).add 1) = ⟨wr.heap.size, 1, Option.none⟩ := by simp [Addr.add]
        rwa [e2] at this
      have HO := Lib.hid (And.intro hpop2 hbw2)
      clear hC hL hpin1 hpin2 hpa1 hpa2 hgw hpop2 hbw2 hpop hbw
      go_wp2
      go_loopw [9, 44] (fun t i wr2 => ∃ (td : TdE) (R S : EF) (k : Nat), i = .int .i64 (k : Int) ∧ Hid (SamR w1 A td gk (enodes x.l + 2) R S p.1.1 k b1 o1 b2 o2) ∧ wr2.ownsRow w1.heap.size 89 2 t td.length (flatE td) ∧ Hid (Nxt wr2 t wr.heap.size (.slice pa2 (elen p.1.2) pc2)) ∧ Below w1.heap.size w1 wr2) (fun _ i _ => elen p.1.1 - (RowKit.intOf i).toNat)
      case atStart => exact ⟨ti, p.1.1, p.1.2, 0, rfl, hR.out, HO.out.1, N0, HO.out.2⟩
      case round =>
        obtain ⟨td, R, S, k, rfl, hR, hown, hN, hbr⟩ := hrel
        clear hcell1 hcell2 N0 HO
        cases R with
        | nil =>
          have hk : ¬ (k : Int) < (elen p.1.1 : Int) := by have := hR.out.num; simp only [elen] at this; omega
          go_wp2
          go_roundg (gk - 1)
          case measure => have := hR.out.len; omega
          case rel => exact ⟨td, hR.out.done, hown, hbr⟩
        | node p0 q0 h l r =>
          cases S with
          | nil => have := hR.out.eqn; simp only [elen] at this; omega
          | node p0' q0' h' l' r' =>
          have hlt : (k : Int) < (elen p.1.1 : Int) := by have := hR.out.num; simp only [elen] at this; omega
          have hlt2 : (k : Int) < (elen p.1.2 : Int) := by have := HL.out; omega
          have hne1 : ¬ p.1.1 = .nil := by intro e; rw [e] at hlt; simp only [elen] at hlt; omega
          have hne2 : ¬ p.1.2 = .nil := by intro e; rw [e] at hlt2; simp only [elen] at hlt2; omega
          obtain rfl : pa1 = some ⟨b1, o1, Option.none⟩ := HP.out.1.resolve_right hne1
          obtain rfl : pa2 = some ⟨b2, o2, Option.none⟩ := HP.out.2.resolve_right hne2
          obtain ⟨⟨a0, a1, a2, u1, a3, hu1⟩, _⟩ := EIn_node.1 hR.out.at1
          obtain ⟨⟨d0, d1, d2, u2, d3, hu2⟩, _⟩ := EIn_node.1 hR.out.at2
          have Hra := Lib.hid (rangeAt_later (x_range (x := ⟨h, l⟩) a0 a1 a2 a3) hbr)
          have Hrc := Lib.hid (rangeAt_later (x_range (x := ⟨h', l'⟩) d0 d1 d2 d3) hbr)
          have i1 := hu1.isOne
          have i2 := hu2.isOne
          obtain ⟨ua1, uc1, rfl⟩ := hu1.shape
          obtain ⟨ua2, uc2, rfl⟩ := hu2.shape
          have HU := Lib.hid (And.intro hu1 hu2)
          have hn1 : td.length ≤ 10000002 := by have := hR.out.len; have := hR.out.big; omega
          have Hn1 := Lib.hid hn1
          have HOB := Lib.hid (And.intro hown hbr)
          obtain ⟨tv, htv⟩ : ∃ tv, hsame h h' = tv := ⟨_, rfl⟩
          have Htv := Lib.hid htv
          have Hq : Hid (∀ w, Calls Try.prog 34 #[.agg (xcells ⟨h, l⟩ (.slice ua1 (elen l) uc1)).toArray, .agg (xcells ⟨h', l'⟩ (.slice ua2 (elen l') uc2)).toArray] w fun e w' => e = .returned (.bool tv) ∧ Below w.heap.size w w') := fun w => by rw [← htv]; exact sameTop_is ⟨h, l⟩ ⟨h', l'⟩ _ _ w
          clear htv
          clear hne1 hne2 a0 a1 a2 a3 d0 d1 d2 d3 hu1 hu2 hn1 hown hbr
          go_wp2_with (first | (refine wpList_load_mid rfl 26 _ rfl b1 (o1 + k * 4) rfl _ _ Hra.out Try.underlying26 rfl sizeIE2 ?_) | (refine store_abs rfl 26 _ _ rfl _ _ _ rfl rfl ?ht sizeIE2 ?ho ?_; exact (newthere4 wr _); exact (oneX ⟨h, l⟩ (.slice ua1 (elen l) uc1) i1); intro W1 hW; have HW1 := Lib.hid (newblk4 ⟨h, l⟩ (.slice ua1 (elen l) uc1) hW); have hN1 := hN.out.later HW1.out.2; have q10 := hN1.c; have Hrc1 := Lib.hid (rangeAt_later Hrc.out HW1.out.2); clear hW) | (refine wpList_load_mid rfl 26 _ rfl b2 (o2 + k * 4) rfl _ _ Hrc1.out Try.underlying26 rfl sizeIE2 ?_) | (refine store_abs rfl 26 _ _ rfl _ _ _ rfl rfl ?ht2 sizeIE2 ?ho2 ?_; exact (newthere4 W1 _); exact (oneX ⟨h', l'⟩ (.slice ua2 (elen l') uc2) i2); intro W2 hW; have HW2 := Lib.hid (newblk4 ⟨h', l'⟩ (.slice ua2 (elen l') uc2) hW); have Hr1 := Lib.hid (rangeAt_later HW1.out.1 HW2.out.2); clear hW) | (refine wpList_load_mid rfl 26 _ rfl wr.heap.size 0 rfl _ _ Hr1.out Try.underlying26 rfl sizeIE2 ?_) | (refine wpList_load_mid rfl 26 _ rfl W1.heap.size 0 rfl _ _ HW2.out.1 Try.underlying26 rfl sizeIE2 ?_))
          refine (Hq.out _).mono ?_
          rintro e w3 ⟨rfl, hb3⟩
          have B1 := HW1.out.2
          have B2 := HW2.out.2
          have B3 := B1.trans ((B2.trans (hb3.mono B2.size)).mono B1.size)
          have o3 := ownB HOB.out.1 B3
          have b3 := HOB.out.2.trans (B3.mono HOB.out.2.size)
          have n3 := hN.out.later B3
          have r12 := rangeAt_later Hr1.out hb3
          have r13 := rangeAt_later HW2.out.1 hb3
          have hs3 := b3.size
          have HG : Hid (∀ g, u9.ownBlock = some g → g < wr.heap.size ∧ g < W1.heap.size) := fun g hg => ⟨(HOB.out.1.lt g hg).2, Nat.lt_of_lt_of_le (HOB.out.1.lt g hg).2 B1.size⟩
          have HO3 := Lib.hid (And.intro o3 (And.intro b3 n3))
          have HR3 := Lib.hid (And.intro r12 r13)
          obtain ⟨ta, tc, hta⟩ : ∃ ta tc, u9 = .slice ta td.length tc := by
            rcases o3.2 with ⟨h1, h0⟩ | ⟨g, cap, cur, h1, _⟩
            · exact ⟨_, _, by rw [h0]; exact h1⟩
            · exact ⟨_, _, h1⟩
          subst hta
          obtain ⟨n12, hn12⟩ : ∃ n, wr.heap.size = n := ⟨_, rfl⟩
          obtain ⟨n13, hn13⟩ : ∃ n, W1.heap.size = n := ⟨_, rfl⟩
          rw [hn12] at HR3 HG ⊢
          rw [hn13] at HR3 HG ⊢
          clear B1 B2 B3 hb3 o3 b3 n3 r12 r13 HW1 HW2 Hr1 Hra Hrc Hrc1 hN1 q10 HOB hN i1 i2 hn12 hn13
          cases tv with
          | false =>
            have hf : Hid (A = false) := hR.out.stop Htv.out
            go_wp2
            go_ret
            exact retB (HA.out.trans hf.out) (HS.out.1.trans (HO3.out.2.1.mono HS.out.1.size))
          | true =>
            have hR2 := Lib.hid (hR.out.push Htv.out HU.out.1 HU.out.2)
            clear hR
            go_wp2_with fail
            obtain ⟨A1, HA1⟩ : ∃ A1, Hid (A1 = xcells ⟨h, l⟩ (.slice ua1 (elen l) uc1)) := ⟨_, rfl⟩
            obtain ⟨C1, HC1⟩ : ∃ C1, Hid (C1 = xcells ⟨h', l'⟩ (.slice ua2 (elen l') uc2)) := ⟨_, rfl⟩
            have hiA : (Try.prog.info? 26).map (·.size) = some A1.length := by rw [HA1.out]; exact sizeIE2
            have hiC : (Try.prog.info? 26).map (·.size) = some C1.length := by rw [HC1.out]; exact sizeIE2
            have hq1 : Hid (∀ w, Calls Try.prog 29 #[.agg A1.toArray] w fun e w' => e = .returned (.slice ua1 (elen l) uc1) ∧ Below w.heap.size w w') := fun w => by rw [HA1.out]; exact partsOf_is _ _ w
            have hq2 : Hid (∀ w, Calls Try.prog 29 #[.agg C1.toArray] w fun e w' => e = .returned (.slice ua2 (elen l') uc2) ∧ Below w.heap.size w w') := fun w => by rw [HC1.out]; exact partsOf_is _ _ w
            have bd : Below w3.heap.size w3 w3.drew := (Below.refl _ w3).drew
            refine wp_region_held_drew (S := fun w' => w'.rangeAt n12 0 A1 ∧ w'.rangeAt n13 0 C1) (by kernel_rfl) ⟨(World.rangeAt_drew _ _ _ _).2 (by rw [HA1.out]; exact HR3.out.1), (World.rangeAt_drew _ _ _ _).2 (by rw [HC1.out]; exact HR3.out.2)⟩ (fun hHeld => ?_)
            refine wpAnyH_take (i := 0) (v := .slice ta td.length tc) rfl (by kernel_rfl) (by kernel_rfl) (by kernel_rfl) (fun _ _ _ h => h) (Or.inl ⟨by rfl, ?y0⟩) hHeld ?_
            case y0 => intro w hSw; go_simp
            simp only [Act.put, List.getElem_toArray, List.getElem_cons_succ, List.getElem_cons_zero, List.setIfInBounds_toArray, List.set_cons_zero, List.set_cons_succ]
            refine wpAnyH_take (i := 1) (v := .func (.func 29) #[] #[]) rfl (by kernel_rfl) (by kernel_rfl) (by kernel_rfl) (fun _ _ _ h => h) (Or.inl ⟨by rfl, ?y1⟩) hHeld ?_
            case y1 => intro w hSw; go_simp
            simp only [Act.put, List.getElem_toArray, List.getElem_cons_succ, List.getElem_cons_zero, List.setIfInBounds_toArray, List.set_cons_zero, List.set_cons_succ]
            refine wpAnyH_take (i := 2) (v := .agg A1.toArray) rfl (by kernel_rfl) (by kernel_rfl) (by kernel_rfl) (fun _ _ _ h => h) (yieldsIf_load_mid (by rfl) 26 _ rfl n12 (0) rfl A1 _ (fun w h => h.1) Try.underlying26 rfl hiA) hHeld ?_
            simp only [Act.put, List.getElem_toArray, List.getElem_cons_succ, List.getElem_cons_zero, List.setIfInBounds_toArray, List.set_cons_zero, List.set_cons_succ]
            refine wpAnyH_take (i := 4) (v := .func (.func 29) #[] #[]) rfl (by kernel_rfl) (by kernel_rfl) (by kernel_rfl) (fun _ _ _ h => h) (Or.inl ⟨by rfl, ?y4⟩) hHeld ?_
            case y4 => intro w hSw; go_simp
            simp only [Act.put, List.getElem_toArray, List.getElem_cons_succ, List.getElem_cons_zero, List.setIfInBounds_toArray, List.set_cons_zero, List.set_cons_succ]
            refine wpAnyH_take (i := 5) (v := .agg C1.toArray) rfl (by kernel_rfl) (by kernel_rfl) (by kernel_rfl) (fun _ _ _ h => h) (yieldsIf_load_mid (by rfl) 26 _ rfl n13 (0) rfl C1 _ (fun w h => h.2) Try.underlying26 rfl hiC) hHeld ?_
            simp only [Act.put, List.getElem_toArray, List.getElem_cons_succ, List.getElem_cons_zero, List.setIfInBounds_toArray, List.set_cons_zero, List.set_cons_succ]
            refine wpAnyH_ready (rs := [3]) (by kernel_rfl) (by simp) ?_
            refine AllReadyH.cons rfl (fun K hK => ?_) AllReadyH.nil
            rw [if_pos (by rfl)]
            simp only [List.getElem_toArray, List.getElem_cons_succ, List.getElem_cons_zero]
            go_wp2_with fail
            refine (hq1.out _).mono ?_
            rintro e w4 ⟨rfl, hb4⟩
            go_wp2_with fail
            refine hK.out _ _ ⟨rangeAt_later hHeld.1 hb4, rangeAt_later hHeld.2 hb4⟩ (fun hHeld => ?_)
            refine wpAnyH_ready (rs := [6]) (by kernel_rfl) (by simp) ?_
            refine AllReadyH.cons rfl (fun K hK => ?_) AllReadyH.nil
            rw [if_pos (by rfl)]
            simp only [List.getElem_toArray, List.getElem_cons_succ, List.getElem_cons_zero]
            go_wp2_with fail
            refine (hq2.out _).mono ?_
            rintro e w5 ⟨rfl, hb5⟩
            go_wp2_with fail
            refine hK.out _ _ ⟨rangeAt_later hHeld.1 hb5, rangeAt_later hHeld.2 hb5⟩ (fun hHeld => ?_)
            refine wpAnyH_take (i := 7) (v := .agg #[.slice ua1 (elen l) uc1, .slice ua2 (elen l') uc2]) rfl (by kernel_rfl) (by kernel_rfl) (by kernel_rfl) (fun _ _ _ h => h) (Or.inl ⟨by rfl, ?y7⟩) hHeld ?_
            case y7 => intro w hSw; go_simp
            simp only [Act.put, List.getElem_toArray, List.getElem_cons_succ, List.getElem_cons_zero, List.setIfInBounds_toArray, List.set_cons_zero, List.set_cons_succ]
            have B5 := bd.trans ((hb4.trans (hb5.mono hb4.size)).mono bd.size)
            have o5 := ownB HO3.out.1 B5
            have b5 := HO3.out.2.1.trans (B5.mono HO3.out.2.1.size)
            have n5 := HO3.out.2.2.later B5
            have HO5 := Lib.hid (And.intro o5 (And.intro b5 n5))
            have hs5 := b5.size
            clear hb4 hb5 bd B5 n5
            refine wpAnyH_ready (rs := [8]) (by kernel_rfl) (by simp) ?_
            refine AllReadyH.cons rfl (fun K hK => ?_) AllReadyH.nil
            rw [if_pos (by rfl)]
            simp only [List.getElem_toArray, List.getElem_cons_succ, List.getElem_cons_zero]
            go_wp2_with fail
            refine hK.out _ _ ⟨World.rangeAt_alloc hHeld.1 _, World.rangeAt_alloc hHeld.2 _⟩ (fun hHeld => ?_)
            refine wpAnyH_ready (rs := [9]) (by kernel_rfl) (by simp) ?_
            refine AllReadyH.cons rfl (fun K hK => ?_) AllReadyH.nil
            rw [if_pos (by rfl)]
            simp only [List.getElem_toArray, List.getElem_cons_succ, List.getElem_cons_zero]
            refine wp_append_lies _ _ _ 90 (by rfl) w1.heap.size 89 i0 _ 2 48 Try.underlying90 hi hz0 hz1 hz2 rfl (by decide) _ _ _ (by rfl) (o5.alloc _) ⟨w5.heap.size, 0, Option.none⟩ 1 1 [.slice ua1 (elen l) uc1, .slice ua2 (elen l') uc2] (by rfl) (by rfl) ?c1 ?c2 (by decide) ?c3 ?c4 ?c5 (w5.heap.size + 1) (by simp) ?_
            case c1 => exact new2 _ _ _ _
            case c2 => intro x hx; simp only [List.mem_cons, List.not_mem_nil, or_false] at hx; rcases hx with rfl | rfl <;> rfl
            case c3 => have := Hn1.out; unfold maxLen; omega
            case c4 => have := Hn1.out; omega
            case c5 => simp; omega
            intro g6 cap6 w6 hown6 hgrow6 hat6 hlt6
            obtain ⟨z1, z2, z3⟩ := snocE (l := l) (l' := l') HO5.out.1 HO5.out.2.1 hgrow6 hat6 HO5.out.2.2 hown6
            have Z := Lib.hid (And.intro z1 (And.intro z2 z3))
            clear z1 z2 z3
            refine hK.out _ _ ⟨range_grown hHeld.1 hgrow6 (fun e => by have := (HG.out n12 e).1; omega), range_grown hHeld.2 hgrow6 (fun e => by have := (HG.out n13 e).2; omega)⟩ (fun hHeld => ?_)
            clear hown6 hgrow6 hat6 o5 b5
            simp only [Act.put, List.getElem_toArray, List.getElem_cons_succ, List.getElem_cons_zero, List.setIfInBounds_toArray, List.set_cons_zero, List.set_cons_succ]
            refine wpAnyH_take (i := 10) (v := .slice (some ⟨g6, 0, Option.none⟩) (td.length + 1) cap6) rfl (by kernel_rfl) (by kernel_rfl) (by kernel_rfl) (fun _ _ _ h => h) (Or.inl ⟨by rfl, ?y10⟩) hHeld ?_
            case y10 => intro w hSw; go_simp
            simp only [Act.put, List.getElem_toArray, List.getElem_cons_succ, List.getElem_cons_zero, List.setIfInBounds_toArray, List.set_cons_zero, List.set_cons_succ]
            refine wpAnyH_done (by kernel_rfl) ?_ _
            clear hHeld hiA hiC hq1 hq2
            go_wp2
            go_roundw
            case rel => exact ⟨td ++ [((l, l'), (.slice ua1 (elen l) uc1, .slice ua2 (elen l') uc2))], r, r', k + 1, by go_num, hR2, Z.out.1, Z.out.2.2, Z.out.2.1⟩
            case measure => simp [RowKit.intOf]; omega
theorem impl_SameExp (x y : X) (hx : enodes x.l ≤ 10000000) (w : World) (va vb : Value) (ha : EV w 0 x.l va) (hb : EV w 0 y.l vb) :
    Calls Try.prog 14 #[.agg (xcells x va).toArray, .agg (xcells y vb).toArray] w fun e w' => e = .returned (.bool (xsame x y)) ∧ Below w.heap.size w w' := by
  have hq : Hid (∀ w, EV w 0 x.l va → EV w 0 y.l vb → Calls Try.prog 33 #[.agg #[.int .i64 x.h.k, .int .i64 x.h.n, .string x.h.s, va], .agg #[.int .i64 y.h.k, .int .i64 y.h.n, .string y.h.s, vb], .func (.func 34) #[] #[], .func (.func 29) #[] #[]] w fun e w' => e = .returned (.bool (xsame x y)) ∧ Below w.heap.size w w') := fun w h1 h2 => sameAllE_is x y hx w va vb h1 h2
  show Calls Try.prog 14 #[.agg #[.int .i64 x.h.k, .int .i64 x.h.n, .string x.h.s, va], .agg #[.int .i64 y.h.k, .int .i64 y.h.n, .string y.h.s, vb]] w _
  have hB : Hid (∀ a b, Below w.heap.size w ((w.alloc a).alloc b)) := fun a b => (alloc_below w a).alloc (by simp) b
  have HV := Lib.hid (And.intro ha hb)
  clear ha hb
  go_enter Try.func14, Try.ntmps14
  go_wp2_with fail
  refine (hq.out _ (HV.out.1.later (hB.out _ _)) (HV.out.2.later (hB.out _ _))).mono ?_
  rintro e w1 ⟨rfl, hb1⟩
  have h3 := (hB.out _ _).trans (hb1.mono (hB.out _ _).size)
  clear hb1
  go_wp2
  go_ret
  exact ⟨rfl, h3⟩
end Go.Proofs.Ytkhccpjkajhnpaa
/-
  The draw's cursor: a block of three cells (the bytes, how many were read, a number that is mixed). One step of it answers a byte and turns nothing but that block.
-/
namespace Go.Proofs.Ytkhccpjkajhnpaa
open Go.RowKit Go.Joins

theorem i64_and255 (n : Int) : bits .and .i64 n 255 = n % 256 := by
  have h8 : (BitVec.ofInt 64 255).toNat = 2 ^ 8 - 1 := by decide
  have key : (BitVec.ofInt 64 n &&& BitVec.ofInt 64 255).toNat = (n % ((2 ^ 64 : Nat) : Int)).toNat % 2 ^ 8 := by
    rw [BitVec.toNat_and, BitVec.toNat_ofInt, h8, Nat.and_two_pow_sub_one_eq_mod]
  show IntKind.i64.wrap ((BitVec.ofInt 64 n &&& BitVec.ofInt 64 255).toNat : Nat) = n % 256
  rw [key, IntKind.wrap_i64]
  omega

/-- Nothing but block b has turned. -/
structure Touch (b : Nat) (w w' : World) : Prop where
  os : w'.os = w.os
  tape : w'.tape = w.tape
  output : w'.output = w.output
  size : w'.heap.size = w.heap.size
  block : ∀ k, k ≠ b → w'.heap[k]? = w.heap[k]?
theorem Touch.refl (b : Nat) (w : World) : Touch b w w := ⟨rfl, rfl, rfl, rfl, fun _ _ => rfl⟩
theorem Touch.trans {b : Nat} {u v w : World} (h : Touch b u v) (k : Touch b v w) : Touch b u w :=
  ⟨k.os.trans h.os, k.tape.trans h.tape, k.output.trans h.output, k.size.trans h.size, fun i hi => (k.block i hi).trans (h.block i hi)⟩
theorem Touch.drewN {b : Nat} {u w : World} (h : Touch b u w) (n : Nat) : Touch b u (w.drewN n) := ⟨h.os, h.tape, h.output, h.size, h.block⟩
theorem Touch.setCell {b : Nat} {u w : World} (h : Touch b u w) (o : Nat) (v : Value) : Touch b u (w.setCell ⟨b, o, none⟩ v) :=
  h.trans ⟨rfl, rfl, rfl, by simp [World.setCell], fun k hk => Below.heap_setCell _ _ _ _ hk⟩
theorem Touch.below {b B : Nat} {u w : World} (h : Touch b u w) (hB : B ≤ b) : Below B u w := ⟨h.os, h.tape, h.output, by rw [h.size]; exact Nat.le_refl _, fun k hk => h.block k (by omega)⟩

/-- The bytes that came in: each cell of the slice is a byte, in a block below B. -/
def CodeIs (B : Nat) (W : World) (a : Option Addr) (len : Nat) : Prop :=
  ∀ j, j < len → ∃ cb off z, a = some ⟨cb, off, none⟩ ∧ cb < B ∧ W.cell? ⟨cb, off + j, none⟩ = some (.int .u8 z) ∧ 0 ≤ z ∧ z ≤ 255
theorem CodeIs.later {B : Nat} {W w : World} {a : Option Addr} {len : Nat} (h : CodeIs B W a len) (hb : Below B W w) : CodeIs B w a len := fun j hj => by
  obtain ⟨cb, off, z, e, hc, hz, z0, z1⟩ := h j hj
  exact ⟨cb, off, z, e, hc, by rw [hb.cell hc]; exact hz, z0, z1⟩

/-- The cursor lies in block b. -/
def Cur (a : Option Addr) (len cap b : Nat) (w : World) : Prop :=
  ∃ (k : Nat) (h : Int), k ≤ len ∧ w.heap[b]? = some (.cells #[.slice a len cap, .int .i64 k, .int .i64 h] 61 (0, 0))

theorem cur_mix {a : Option Addr} {len cap b k : Nat} {h : Int} {w : World} (hk : k ≤ len) (hb : w.heap[b]? = some (.cells #[.slice a len cap, .int .i64 k, .int .i64 h] 61 (0, 0))) (x : Int) (n : Nat) :
    Cur a len cap b ((w.setCell ⟨b, 2, none⟩ (.int .i64 x)).drewN n) := ⟨k, x, hk, by
  show (w.setCell ⟨b, 2, none⟩ (.int .i64 x)).heap[b]? = _
  rw [block_setCell hb]; rfl⟩
theorem cur_mix2 {a : Option Addr} {len cap b k : Nat} {h : Int} {w : World} (hk : k ≤ len) (hb : w.heap[b]? = some (.cells #[.slice a len cap, .int .i64 k, .int .i64 h] 61 (0, 0))) (x : Int) (n m : Nat) :
    Cur a len cap b (((w.setCell ⟨b, 2, none⟩ (.int .i64 x)).drewN n).drewN m) := cur_mix hk hb x n
theorem cur_next {a : Option Addr} {len cap b k : Nat} {h : Int} {w : World} (hk : k < len) (hb : w.heap[b]? = some (.cells #[.slice a len cap, .int .i64 k, .int .i64 h] 61 (0, 0))) (x : Int) (n : Nat) :
    Cur a len cap b (((w.setCell ⟨b, 2, none⟩ (.int .i64 x)).setCell ⟨b, 1, none⟩ (.int .i64 ((k : Int) + 1))).drewN n) := ⟨k + 1, x, hk, by
  show ((w.setCell ⟨b, 2, none⟩ (.int .i64 x)).setCell ⟨b, 1, none⟩ (.int .i64 ((k : Int) + 1))).heap[b]? = _
  rw [block_setCell (block_setCell hb _)]; rfl⟩

set_option maxHeartbeats 400000 in
theorem l1Byte (B : Nat) (a : Option Addr) (len cap b : Nat) (w : World) (hlen : len ≤ 281474976710656) (hB : B ≤ b) (hC : CodeIs B w a len) (hcur : Cur a len cap b w) :
    Calls Try.prog 61 #[.pointer (some ⟨b, 0, none⟩)] w fun e w' => ∃ x : Int, e = .returned (.int .i64 x) ∧ 0 ≤ x ∧ x ≤ 255 ∧ Cur a len cap b w' ∧ Touch b w w' := by
  obtain ⟨k, h, hk, hblk⟩ := hcur
  have c0 : w.cell? ⟨b, 0, none⟩ = some (.slice a len cap) := by simp [World.cell?, hblk]
  have c1 : w.cell? ⟨b, 1, none⟩ = some (.int .i64 (k : Int)) := by simp [World.cell?, hblk]
  have c2 : w.cell? ⟨b, 2, none⟩ = some (.int .i64 h) := by simp [World.cell?, hblk]
  have f1 : w.frozen? ⟨b, 1, none⟩ = false := by simp [World.frozen?, hblk]
  have f2 : w.frozen? ⟨b, 2, none⟩ = false := by simp [World.frozen?, hblk]
  have hand := i64_and255
  have Hb := Lib.hid hblk
  clear hblk
  by_cases hlt : k < len
  · obtain ⟨cb, off, z, rfl, hcb, hz, z0, z1⟩ := hC k hlt
    have hne : cb ≠ b := by omega
    go_enter Try.func61, Try.ntmps61
    go_wp2
    go_quiet (fail)
    go_wp2
    go_quiet (fail)
    go_wp2
    go_quiet (fail)
    go_wp2
    go_ret
    exact ⟨_, rfl, by omega, by omega, cur_next hlt Hb.out _ _, (((Touch.refl b w).setCell 2 _).setCell 1 _).drewN _⟩
  · go_enter Try.func61, Try.ntmps61
    go_wp2
    go_quiet (fail)
    go_wp2
    go_quiet (fail)
    go_wp2
    go_ret
    exact ⟨_, rfl, by omega, by omega, cur_mix2 hk Hb.out _ _ _, (((Touch.refl b w).setCell 2 _).drewN _).drewN _⟩

theorem cur_new (a : Option Addr) (len cap : Nat) (x : Int) (w : World) : Cur a len cap w.heap.size (w.alloc (.cells #[.slice a len cap, .int .i64 0, .int .i64 x] 61)) :=
  ⟨0, x, Nat.zero_le _, by show (w.heap.push _)[w.heap.size]? = _; simp⟩
theorem Cur.later {a : Option Addr} {len cap b : Nat} {w w' : World} (h : Cur a len cap b w) (e : w'.heap[b]? = w.heap[b]?) : Cur a len cap b w' := by
  obtain ⟨k, x, hk, hb⟩ := h
  exact ⟨k, x, hk, e.trans hb⟩
theorem Cur.lt {a : Option Addr} {len cap b : Nat} {w : World} (h : Cur a len cap b w) : b < w.heap.size := by
  obtain ⟨k, x, hk, hb⟩ := h
  exact (Array.getElem?_eq_some_iff.1 hb).1
set_option maxHeartbeats 400000 in
theorem l1New (B : Nat) (a : Option Addr) (len cap : Nat) (w : World) (hlen : len ≤ 281474976710656) (hC : CodeIs B w a len) :
    Calls Try.prog 20 #[.slice a len cap] w fun e w' => e = .returned (.pointer (some ⟨w.heap.size, 0, none⟩)) ∧ Cur a len cap w.heap.size w' ∧ Below w.heap.size w w' := by
  go_enter Try.func20, Try.ntmps20
  go_wp2
  go_loop [3, 4] (fun h i => ∃ (x : Int) (k : Nat), h = .int .i64 x ∧ i = .int .i64 k ∧ k ≤ len) (fun _ i => len - (intOf i).toNat)
  case atStart => exact ⟨_, 0, rfl, rfl, by omega⟩
  case round =>
    obtain ⟨x, k, rfl, rfl, hk⟩ := hrel
    by_cases hlt : k < len ∧ k < 4000
    · obtain ⟨hlt, h4'⟩ := hlt
      have h4 : (k : Int) < 4000 := by omega
      clear h4'
      obtain ⟨cb, off, z, rfl, hcb, hz, z0, z1⟩ := hC k hlt
      go_wp2
      go_round
      case rel => exact ⟨_, k + 1, rfl, by go_num, by omega⟩
      case measure => simp [intOf]; omega
    · by_cases hlt2 : k < len
      · obtain ⟨y, hy⟩ : ∃ y : Int, (k : Int) = y := ⟨_, rfl⟩
        have h4 : (4000 : Int) ≤ y := by omega
        rw [hy]
        have h5 : y < (len : Int) := by omega
        clear hlt hlt2 hk hy
        go_wp2
        go_ret
        exact ⟨rfl, cur_new _ _ _ _ _, (Below.refl _ _).alloc (Nat.le_refl _) _⟩
      · clear hlt
        go_wp2
        go_ret
        exact ⟨rfl, cur_new _ _ _ _ _, (Below.refl _ _).alloc (Nat.le_refl _) _⟩

theorem l1Below (B : Nat) (a : Option Addr) (len cap b : Nat) (n : Int) (w : World) (hlen : len ≤ 281474976710656) (hB : B ≤ b) (hC : CodeIs B w a len) (hcur : Cur a len cap b w) (hn0 : 0 < n) :
    Calls Try.prog 40 #[.pointer (some ⟨b, 0, none⟩), .int .i64 n] w fun e w' => ∃ x : Int, e = .returned (.int .i64 x) ∧ 0 ≤ x ∧ x < n ∧ Cur a len cap b w' ∧ Touch b w w' := by
  have hn1 : n ≠ 0 := by omega
  by_cases h256 : n ≤ 256
  · go_enter Try.func40, Try.ntmps40
    go_wp2_with (go_at_call 61; refine (l1Byte B a len cap b _ hlen hB hC hcur).mono ?_; rintro e w1 ⟨x, rfl, x0, x1, hc1, ht1⟩)
    go_ret
    exact ⟨_, rfl, Int.emod_nonneg _ hn1, Int.emod_lt_of_pos _ hn0, hc1, ht1⟩
  · go_enter Try.func40, Try.ntmps40
    go_wp2_with fail
    refine (l1Byte B a len cap b _ hlen hB hC hcur).mono ?_
    rintro e w1 ⟨x, rfl, x0, x1, hc1, ht1⟩
    have hC1 := hC.later (ht1.below hB)
    go_wp2_with fail
    refine (l1Byte B a len cap b _ hlen hB hC1 hc1).mono ?_
    rintro e w2 ⟨y, rfl, y0, y1, hc2, ht2⟩
    have hC2 := hC1.later (ht2.below hB)
    go_wp2_with fail
    refine (l1Byte B a len cap b _ hlen hB hC2 hc2).mono ?_
    rintro e w3 ⟨z, rfl, z0, z1, hc3, ht3⟩
    go_wp2
    go_ret
    exact ⟨_, rfl, Int.emod_nonneg _ hn1, Int.emod_lt_of_pos _ hn0, hc3, (ht1.trans ht2).trans ht3⟩

theorem l1Once (B : Nat) (a : Option Addr) (len cap b : Nat) (n : Int) (w : World) (hlen : len ≤ 281474976710656) (hB : B ≤ b) (hC : CodeIs B w a len) (hcur : Cur a len cap b w) (hn0 : 0 < n) :
    Calls Try.prog 23 #[.pointer (some ⟨b, 0, none⟩), .int .i64 n] w fun e w' => ∃ x : Bool, e = .returned (.bool x) ∧ Cur a len cap b w' ∧ Touch b w w' := by
  go_enter Try.func23, Try.ntmps23
  go_wp2_with (go_at_call 40; refine (l1Below B a len cap b _ _ hlen hB hC hcur hn0).mono ?_; rintro e w1 ⟨x, rfl, x0, x1, hc1, ht1⟩)
  go_ret
  exact ⟨_, rfl, hc1, ht1⟩
end Go.Proofs.Ytkhccpjkajhnpaa
/-
  One of a list of texts, drawn by the cursor; laws.at and laws.big.
-/
namespace Go.Proofs.Ytkhccpjkajhnpaa
open Go.RowKit Go.Joins
theorem CodeIs.mono {B B' : Nat} {W : World} {a : Option Addr} {len : Nat} (h : CodeIs B W a len) (hB : B ≤ B') : CodeIs B' W a len := fun j hj => by
  obtain ⟨cb, off, z, e, hc, hz, z0, z1⟩ := h j hj
  exact ⟨cb, off, z, e, by omega, hz, z0, z1⟩
theorem big_is (a : Option Addr) (len cap : Nat) (w : World) : Calls Try.prog 4 #[.slice a len cap] w fun e w' => e = .returned (.bool (decide ((1048576 : Int) < (len : Int)))) ∧ w = w' := by
  go_enter Try.func4, Try.ntmps4
  go_wp2
  go_ret
  exact ⟨rfl, rfl⟩
theorem l1Str (B : Nat) (a : Option Addr) (len cap b lb n c : Nat) (q : ByteArray → Prop) (w : World) (hlen : len ≤ 281474976710656) (hB : B ≤ b) (hC : CodeIs B w a len) (hcur : Cur a len cap b w)
    (hn0 : 0 < n) (hn1 : n ≤ 1048576) (hlb : lb ≠ b) (hl : ∀ j, j < n → ∃ z : ByteArray, w.cell? ⟨lb, j, none⟩ = some (.string z) ∧ q z) :
    Calls Try.prog 42 #[.pointer (some ⟨b, 0, none⟩), .slice (some ⟨lb, 0, none⟩) n c] w fun e w' => ∃ x : ByteArray, e = .returned (.string x) ∧ q x ∧ Cur a len cap b w' ∧ Touch b w w' := by
  go_enter Try.func42, Try.ntmps42
  go_wp2_with fail
  refine (l1Below B a len cap b _ _ hlen hB hC hcur (by omega)).mono ?_
  rintro e w1 ⟨x, rfl, x0, x1, hc1, ht1⟩
  obtain ⟨y, rfl⟩ := Int.eq_ofNat_of_zero_le x0
  have hy : y < n := by omega
  obtain ⟨z, hz, qz⟩ := hl y hy
  have hz1 : w1.cell? ⟨lb, y, none⟩ = some (.string z) := by rw [World.cell?_of_block (w := w) (ht1.block lb hlb)]; exact hz
  go_wp2
  go_ret
  exact ⟨z, rfl, qz, hc1, ht1⟩
end Go.Proofs.Ytkhccpjkajhnpaa
/-
  Draws of expressions: the cursor in its block, what is drawn above it.
-/
namespace Go.Proofs.Ytkhccpjkajhnpaa
open Go.RowKit Go.Lib
set_option linter.unusedSimpArgs false
set_option linter.unusedVariables false

/-- Nothing that was there has turned but block b. -/
structure Wr (b : Nat) (w w' : World) : Prop where
  os : w'.os = w.os
  tape : w'.tape = w.tape
  output : w'.output = w.output
  size : w.heap.size ≤ w'.heap.size
  block : ∀ k, k < w.heap.size → k ≠ b → w'.heap[k]? = w.heap[k]?
theorem Wr.refl (b : Nat) (w : World) : Wr b w w := ⟨rfl, rfl, rfl, Nat.le_refl _, fun _ _ _ => rfl⟩
theorem Wr.trans {b : Nat} {u v w : World} (h : Wr b u v) (k : Wr b v w) : Wr b u w :=
  ⟨k.os.trans h.os, k.tape.trans h.tape, k.output.trans h.output, Nat.le_trans h.size k.size, fun i hi hne => (k.block i (Nat.lt_of_lt_of_le hi h.size) hne).trans (h.block i hi hne)⟩
theorem Wr.of_below {b : Nat} {w w' : World} (h : Below w.heap.size w w') : Wr b w w' := ⟨h.os, h.tape, h.output, h.size, fun k hk _ => h.block k hk⟩
theorem Wr.of_touch {b : Nat} {w w' : World} (h : Touch b w w') : Wr b w w' := ⟨h.os, h.tape, h.output, Nat.le_of_eq h.size.symm, fun k _ hne => h.block k hne⟩
theorem Wr.below {b B : Nat} {w w' : World} (h : Wr b w w') (hB : B ≤ b) (hb : b < w.heap.size) : Below B w w' := ⟨h.os, h.tape, h.output, h.size, fun k hk => h.block k (by omega) (by omega)⟩
theorem Wr.keeps {b : Nat} {w w' : World} (h : Wr b w w') : Keeps (b + 1) w w' := fun a v hl hc => by
  have hlt := lt_of_cellA hc
  have e := h.block a.block hlt (by omega)
  rw [World.cell?_of_block e]; exact hc
theorem EV.wr {b lo : Nat} {w w' : World} {F : EF} {v : Value} (h : EV w lo F v) (hw : Wr b w w') (hlo : b + 1 ≤ lo) : EV w' lo F v := h.same (Nat.le_refl _) (fun a v hl hc => hw.keeps a v (by omega) hc)
/-- A draw under way: the bytes below B, the cursor at b. -/
structure Dw (B : Nat) (a : Option Addr) (len cap b : Nat) (w : World) : Prop where
  hlen : len ≤ 281474976710656
  hB : B ≤ b
  hC : CodeIs B w a len
  cur : Cur a len cap b w
theorem Dw.touch {B : Nat} {a : Option Addr} {len cap b : Nat} {w w' : World} (d : Dw B a len cap b w) (ht : Touch b w w') (hc : Cur a len cap b w') : Dw B a len cap b w' := ⟨d.hlen, d.hB, d.hC.later (ht.below d.hB), hc⟩
theorem Dw.later {B : Nat} {a : Option Addr} {len cap b : Nat} {w w' : World} (d : Dw B a len cap b w) (hb : Below w.heap.size w w') : Dw B a len cap b w' :=
  ⟨d.hlen, d.hB, d.hC.later (hb.mono (Nat.le_trans d.hB (Nat.le_of_lt d.cur.lt))), d.cur.later (hb.block b d.cur.lt)⟩
theorem Dw.wr {B : Nat} {a : Option Addr} {len cap b : Nat} {w w' : World} (d : Dw B a len cap b w) (hw : Wr b w w') (hc : Cur a len cap b w') : Dw B a len cap b w' := ⟨d.hlen, d.hB, d.hC.later (hw.below d.hB d.cur.lt), hc⟩
/-- An expression was drawn. -/
def Drawn (B : Nat) (a : Option Addr) (len cap b lim : Nat) (w : World) (e : Ending) (w' : World) : Prop :=
  ∃ (x : X) (v : Value), e = .returned (.agg (xcells x v).toArray) ∧ EV w' w.heap.size x.l v ∧ xsize x ≤ lim ∧ Dw B a len cap b w' ∧ Wr b w w'
theorem l1Int_is (B : Nat) (a : Option Addr) (len cap b lb n c : Nat) (q : Int → Prop) (w : World) (d : Dw B a len cap b w) (hn0 : 0 < n) (hn1 : n ≤ 1048576) (hlb : lb ≠ b) (hl : ∀ j, j < n → ∃ z : Int, w.cell? ⟨lb, j, none⟩ = some (.int .i64 z) ∧ q z) :
    Calls Try.prog 41 #[.pointer (some ⟨b, 0, none⟩), .slice (some ⟨lb, 0, none⟩) n c] w fun e w' => ∃ x : Int, e = .returned (.int .i64 x) ∧ q x ∧ Dw B a len cap b w' ∧ Wr b w w' := by
  go_enter Try.func41, Try.ntmps41
  go_wp2_with fail
  refine (l1Below B a len cap b _ _ d.hlen d.hB d.hC d.cur (by omega)).mono ?_
  rintro e w1 ⟨x, rfl, x0, x1, hc1, ht1⟩
  obtain ⟨y, rfl⟩ := Int.eq_ofNat_of_zero_le x0
  have hy : y < n := by omega
  obtain ⟨z, hz, qz⟩ := hl y hy
  have hz1 : w1.cell? ⟨lb, y, none⟩ = some (.int .i64 z) := by rw [World.cell?_of_block (w := w) (ht1.block lb hlb)]; exact hz
  go_wp2
  go_ret
  exact ⟨z, rfl, qz, d.touch ht1 hc1, .of_touch ht1⟩
set_option maxRecDepth 100000 in
theorem l3Num_is (n : Int) (w : World) : Calls Try.prog 44 #[.int .i64 n] w fun e w' => e = .returned (.agg (xcells ⟨⟨1, n, ⟨#[]⟩⟩, .nil⟩ (.slice Option.none 0 0)).toArray) ∧ Below w.heap.size w w' := by
  go_enter Try.func44, Try.ntmps44
  go_wp2
  exact bodyPost_ret (v := .agg #[.int .i64 1, .int .i64 n, .string ⟨#[]⟩, .slice Option.none 0 0]) (by simp [results, Try.results44, go_sem]) rfl ⟨rfl, alloc_below _ _⟩
set_option maxRecDepth 100000 in
theorem l3Var_is (s : ByteArray) (w : World) : Calls Try.prog 59 #[.string s] w fun e w' => e = .returned (.agg (xcells ⟨⟨2, 0, s⟩, .nil⟩ (.slice Option.none 0 0)).toArray) ∧ Below w.heap.size w w' := by
  go_enter Try.func59, Try.ntmps59
  go_wp2
  exact bodyPost_ret (v := .agg #[.int .i64 2, .int .i64 0, .string s, .slice Option.none 0 0]) (by simp [results, Try.results59, go_sem]) rfl ⟨rfl, alloc_below _ _⟩
theorem EV.laidLo {w : World} {lo g : Nat} {F : EF} {xs : List Value} (h : ERow w lo F xs) (hr : w.rangeAt g 0 xs) (c : Nat) (hlo : lo ≤ g) : EV w lo F (.slice (some ⟨g, 0, Option.none⟩) (elen F) c) :=
  ⟨g, 0, _, c, rfl, .inl rfl, hlo, ERow.laid 0 h (by simpa [World.rangeAt] using hr)⟩
theorem last_range (w : World) (arr : Array Value) (t : TypeId) (n : Nat) (hn : w.heap.size = n) : (w.alloc (.cells arr t)).rangeAt n 0 arr.toList := by
  subst hn
  exact blk_range (t := t) (fr := (0, 0)) (by show (w.heap.push _)[w.heap.size]? = _; simp)
set_option maxHeartbeats 1000000 in
set_option maxRecDepth 100000 in
theorem l3At_is (s : ByteArray) (x : X) (lo : Nat) (w : World) (v : Value) (hv : EV w lo x.l v) (hlo : lo ≤ w.heap.size) : Calls Try.prog 60 #[.string s, .agg (xcells x v).toArray] w fun e w' => ∃ u, e = .returned (.agg (xcells ⟨⟨3, 0, s⟩, .node 0 0 x.h x.l .nil⟩ u).toArray) ∧ EV w' lo (.node 0 0 x.h x.l .nil) u ∧ Below w.heap.size w w' := by
  show Calls Try.prog 60 #[.string s, .agg #[.int .i64 x.h.k, .int .i64 x.h.n, .string x.h.s, v]] w _
  have Hv := Lib.hid hv
  obtain ⟨va, vc, rfl⟩ := hv.shape
  clear hv
  go_enter Try.func60, Try.ntmps60
  go_wp2
  have hb := ((alloc_below w (.cells #[.int .i64 x.h.k, .int .i64 x.h.n, .string x.h.s, .slice va (elen x.l) vc] 26)).alloc (by simp) (.cells #[.int .i64 3, .int .i64 0, .string s, .slice (some ⟨w.heap.size + 1 + 1, 0, Option.none⟩) 1 1] 26)).alloc (by simp; omega) (.cells (xcells x (.slice va (elen x.l) vc)).toArray 26)
  refine bodyPost_ret (v := .agg #[.int .i64 3, .int .i64 0, .string s, .slice (some ⟨w.heap.size + 1 + 1, 0, Option.none⟩) 1 1]) (by simp [results, Try.results60, go_sem]) rfl ⟨_, rfl, EV.laidLo (F := .node 0 0 x.h x.l .nil) (ERow.one (Hv.out.later hb)) (last_range _ _ _ _ (by simp)) 1 (by omega), hb⟩
set_option maxHeartbeats 1000000 in
set_option maxRecDepth 100000 in
theorem l3Two_is (k : Int) (x y : X) (lo : Nat) (w : World) (u v : Value) (hu : EV w lo x.l u) (hv : EV w lo y.l v) (hlo : lo ≤ w.heap.size) : Calls Try.prog 43 #[.int .i64 k, .agg (xcells x u).toArray, .agg (xcells y v).toArray] w fun e w' => ∃ z, e = .returned (.agg (xcells ⟨⟨k, 0, ⟨#[]⟩⟩, .node 0 0 x.h x.l (.node 0 0 y.h y.l .nil)⟩ z).toArray) ∧ EV w' lo (.node 0 0 x.h x.l (.node 0 0 y.h y.l .nil)) z ∧ Below w.heap.size w w' := by
  show Calls Try.prog 43 #[.int .i64 k, .agg #[.int .i64 x.h.k, .int .i64 x.h.n, .string x.h.s, u], .agg #[.int .i64 y.h.k, .int .i64 y.h.n, .string y.h.s, v]] w _
  have Hu := Lib.hid hu
  have Hv := Lib.hid hv
  obtain ⟨ua, uc, rfl⟩ := hu.shape
  obtain ⟨va, vc, rfl⟩ := hv.shape
  clear hu hv
  go_enter Try.func43, Try.ntmps43
  go_wp2
  have hb := (((alloc_below w (.cells #[.int .i64 x.h.k, .int .i64 x.h.n, .string x.h.s, .slice ua (elen x.l) uc] 26)).alloc (by simp) (.cells #[.int .i64 y.h.k, .int .i64 y.h.n, .string y.h.s, .slice va (elen y.l) vc] 26)).alloc (by simp; omega) (.cells #[.int .i64 k, .int .i64 0, .string ⟨#[]⟩, .slice (some ⟨w.heap.size + 1 + 1 + 1, 0, Option.none⟩) 2 2] 26)).alloc (by simp; omega) (.cells (xcells x (.slice ua (elen x.l) uc) ++ xcells y (.slice va (elen y.l) vc)).toArray 26)
  refine bodyPost_ret (v := .agg #[.int .i64 k, .int .i64 0, .string ⟨#[]⟩, .slice (some ⟨w.heap.size + 1 + 1 + 1, 0, Option.none⟩) 2 2]) (by simp [results, Try.results43, go_sem]) rfl ⟨_, rfl, EV.laidLo (F := .node 0 0 x.h x.l (.node 0 0 y.h y.l .nil)) ((ERow.one (Hu.out.later hb)).app (P := .node 0 0 x.h x.l .nil) (ERow.one (Hv.out.later hb))) (last_range _ _ _ _ (by simp)) 2 (by omega), hb⟩
end Go.Proofs.Ytkhccpjkajhnpaa
