/-
  The contract of the landed code's sameAll over statements, and of its SameStmt.
-/
import Derived.Test.YtkhccpjkajhnpaaP13ofFnAsts
namespace Go.Proofs.Ytkhccpjkajhnpaa
open Go.RowKit Go.Lib
set_option linter.unusedSimpArgs false
set_option linter.unusedVariables false

/-- What is left to do: two rows of statements each, in their slices. -/
abbrev TdT := List ((SF × SF) × (Value × Value))
def flatT (td : TdT) : List Value := td.flatMap (fun p => [p.2.1, p.2.2])
def sumT : TdT → Nat
  | [] => 0
  | p :: r => snodes p.1.1 + sumT r
def allT (td : TdT) : Bool := td.all (fun p => ssame p.1.1 p.1.2)
theorem flatT_length (td : TdT) : (flatT td).length = td.length * 2 := by
  induction td with
  | nil => rfl
  | cons p r ih => simp only [flatT, List.flatMap_cons, List.length_append, List.length_cons, List.length_nil] at ih ⊢; omega
theorem flatT_app (a b : TdT) : flatT (a ++ b) = flatT a ++ flatT b := by simp [flatT]
theorem sumT_app (a b : TdT) : sumT (a ++ b) = sumT a + sumT b := by
  induction a with
  | nil => simp [sumT]
  | cons p a ih => simp only [List.cons_append, sumT, ih]; omega
theorem allT_app (a b : TdT) : allT (a ++ b) = (allT a && allT b) := by simp [allT]
/-- The state between two rounds. -/
structure StmS (w : World) (A : Bool) (td : TdT) (m B : Nat) : Prop where
  all : ∀ p ∈ td, SV w 0 p.1.1 p.2.1 ∧ SV w 0 p.1.2 p.2.2 ∧ allSmall p.1.1
  ans : A = allT td
  len : td.length + sumT td = m
  big : m ≤ B
/-- Within a round. -/
structure StmR (w : World) (A : Bool) (td : TdT) (m B : Nat) (R S G : SF) (k b1 o1 b2 o2 : Nat) : Prop where
  all : ∀ p ∈ td, SV w 0 p.1.1 p.2.1 ∧ SV w 0 p.1.2 p.2.2 ∧ allSmall p.1.1
  ans : A = (allT td && ssame R S)
  len : td.length + sumT td + snodes R + 1 = m
  big : m ≤ B
  at1 : SIn w 0 R b1 (o1 + k * 19)
  at2 : SIn w 0 S b2 (o2 + k * 19)
  num : k + slen R = slen G
  eqn : slen R = slen S
  sm : allSmall R
theorem StmS.pop {w : World} {A : Bool} {td : TdT} {m B b1 o1 b2 o2 : Nat} {p : (SF × SF) × (Value × Value)} (h : StmS w A (td ++ [p]) m B) (hl : slen p.1.1 = slen p.1.2) (i1 : SIn w 0 p.1.1 b1 o1) (i2 : SIn w 0 p.1.2 b2 o2) : StmR w A td m B p.1.1 p.1.2 p.1.1 0 b1 o1 b2 o2 := by
  have h1 := h.ans; have h2 := h.len
  rw [allT_app] at h1
  rw [sumT_app] at h2
  simp only [sumT, List.length_append, List.length_cons, List.length_nil] at h2
  exact ⟨fun q hq => h.all q (List.mem_append_left _ hq), by rw [h1]; simp [allT], by omega, h.big, by simpa using i1, by simpa using i2, by omega, hl, (h.all p (by simp)).2.2⟩
theorem StmS.diff {w : World} {A : Bool} {td : TdT} {m B : Nat} {p : (SF × SF) × (Value × Value)} (h : StmS w A (td ++ [p]) m B) (hl : ¬ slen p.1.1 = slen p.1.2) : A = false := by
  rw [h.ans, allT_app]; simp [allT, ssame_diff hl]
theorem StmR.stop {w : World} {A : Bool} {td : TdT} {m B p q p' q' : Nat} {h h' : SH} {l r l' r' G : SF} {k b1 o1 b2 o2 : Nat} (hr : StmR w A td m B (.node p q h l r) (.node p' q' h' l' r') G k b1 o1 b2 o2) (he : ssameH h h' = false) : A = false := by
  rw [hr.ans]; simp [ssame, he]
theorem StmR.push {w : World} {A : Bool} {td : TdT} {m B p q p' q' : Nat} {h h' : SH} {l r l' r' G : SF} {k b1 o1 b2 o2 : Nat} {u u' : Value} (hr : StmR w A td m B (.node p q h l r) (.node p' q' h' l' r') G k b1 o1 b2 o2) (he : ssameH h h' = true) (h1 : SV w 0 l u) (h2 : SV w 0 l' u') : StmR w A (td ++ [((l, l'), (u, u'))]) m B r r' G (k + 1) b1 o1 b2 o2 := by
  have e1 := hr.ans; have e2 := hr.len; have e3 := hr.num; have e4 := hr.eqn
  simp only [snodes, slen] at e2 e3 e4
  refine ⟨fun q hq => ?_, ?_, ?_, hr.big, ?_, ?_, by omega, by omega, hr.sm.2.2⟩
  · rcases List.mem_append.1 hq with hq | hq
    · exact hr.all q hq
    · simp only [List.mem_cons, List.not_mem_nil, or_false] at hq; subst hq; exact ⟨h1, h2, hr.sm.2.1⟩
  · rw [e1, allT_app]; simp [allT, ssame, he, Bool.and_assoc]
  · rw [sumT_app]; simp only [sumT, List.length_append, List.length_cons, List.length_nil]; omega
  · rw [show o1 + (k + 1) * 19 = o1 + k * 19 + 19 by omega]; exact (SIn_node.1 hr.at1).2
  · rw [show o2 + (k + 1) * 19 = o2 + k * 19 + 19 by omega]; exact (SIn_node.1 hr.at2).2
theorem StmR.done {w : World} {A : Bool} {td : TdT} {m B : Nat} {S G : SF} {k b1 o1 b2 o2 : Nat} (hr : StmR w A td m B .nil S G k b1 o1 b2 o2) : StmS w A td (m - 1) B := by
  have e1 := hr.ans; have e2 := hr.len; have e4 := hr.eqn; have e5 := hr.big
  cases S with
  | nil => simp only [snodes] at e2; exact ⟨hr.all, by rw [e1]; simp [ssame], by omega, by omega⟩
  | node _ _ _ _ _ => simp only [slen] at e4; omega
theorem infoBS : (Try.prog.info? 92).map (fun i => (i.zero, i.size, i.bytes)) = some (some (.agg #[.slice Option.none 0 0, .slice Option.none 0 0]), 2, 48) := by kernel_rfl
/-- One more to do. -/
theorem snocSS {w1 w5 w6 : World} {g cap : Nat} {td : TdT} {t u u' : Value} {l l' : SF} {o : Obj} {e : TypeId} {n : Nat} {vb : Value} (hown : w5.ownsRow w1.heap.size e 2 t td.length (flatT td)) (hb : Below w1.heap.size w1 w5) (hg : (w5.alloc o).grownBy w6 t.ownBlock)
    (hat : t.ownBlock = some g ∨ g = w5.heap.size + 1) (hx : Nxt w5 t n vb)
    (h : w6.ownsRow w1.heap.size e 2 (.slice (some ⟨g, 0, Option.none⟩) (td.length + 1) cap) (td.length + 1) (flatT td ++ [u, u'])) :
    w6.ownsRow w1.heap.size e 2 (.slice (some ⟨g, 0, Option.none⟩) (td.length + 1) cap) (td ++ [((l, l'), (u, u'))]).length (flatT (td ++ [((l, l'), (u, u'))])) ∧ Below w1.heap.size w1 w6 ∧ Nxt w6 (.slice (some ⟨g, 0, Option.none⟩) (td.length + 1) cap) n vb := by
  refine ⟨by rw [List.length_append, flatT_app]; exact h, (hb.alloc hb.size o).grown hg (by have := hb.size; simp; omega) (fun k hk => (hown.lt k hk).1), ⟨?_, ?_, ?_⟩⟩
  · have e1 : w6.heap[n]? = (w5.alloc o).heap[n]? := hg.block n (by have := hx.lt; simp; omega) (fun e => hx.ne n e.symm rfl)
    have e2 : (w5.alloc o).heap[n]? = w5.heap[n]? := Below.heap_alloc _ _ _ hx.lt
    have := hx.c
    simp only [World.cell?, e1, e2] at this ⊢
    exact this
  · have := hg.size; have := hx.lt; simp at *; omega
  · intro g' hg'
    have : g' = g := by simpa [Value.ownBlock] using hg'.symm
    subst this
    rcases hat with h1 | h1
    · exact hx.ne _ h1
    · have := hx.lt; omega
set_option maxHeartbeats 4000000 in
set_option maxRecDepth 100000 in
theorem sameAllS_is (g h : SH) (gl hl : SF) (kg : small g) (kgl : allSmall gl) (hx : snodes gl ≤ 10000000) (w : World) (a1 a2 a3 a4 va b1 b2 b3 b4 vb : Value) (ha : HV w 0 g a1 a2 a3 a4) (hal : SV w 0 gl va) (hb : HV w 0 h b1 b2 b3 b4) (hbl : SV w 0 hl vb) :
    Calls Try.prog 35 #[.agg (scells g a1 a2 a3 a4 va).toArray, .agg (scells h b1 b2 b3 b4 vb).toArray, .func (.func 36) #[] #[], .func (.func 37) #[] #[]] w fun e w' => e = .returned (.bool (ssameH g h && ssame gl hl)) ∧ Below w.heap.size w w' := by
  obtain ⟨i0, hi, hz0, hz1, hz2⟩ := info_parts infoBS
  obtain ⟨aa, ca, rfl⟩ := hal.shape
  obtain ⟨ab, cb, rfl⟩ := hbl.shape
  obtain ⟨s1, s2, s3, s4⟩ := startE_is w (scells g a1 a2 a3 a4 (.slice aa (slen gl) ca)).toArray (scells h b1 b2 b3 b4 (.slice ab (slen hl) cb)).toArray 30
  obtain ⟨w1, hw1⟩ : ∃ w1, startE w (scells g a1 a2 a3 a4 (.slice aa (slen gl) ca)).toArray (scells h b1 b2 b3 b4 (.slice ab (slen hl) cb)).toArray 30 = w1 := ⟨_, rfl⟩
  rw [hw1] at s1 s2 s3 s4
  obtain ⟨A, hA⟩ : ∃ A, (ssameH g h && ssame gl hl) = A := ⟨_, rfl⟩
  have C0 : Hid (StmS w1 A [((.node 0 0 g gl .nil, .node 0 0 h hl .nil), (.slice (some ⟨w.heap.size + 2, 0, Option.none⟩) 1 1, .slice (some ⟨w.heap.size + 3, 0, Option.none⟩) 1 1))] (snodes gl + 2) (snodes gl + 2)) := by
    refine ⟨fun p hp => ?_, ?_, ?_, Nat.le_refl _⟩
    · simp only [List.mem_cons, List.not_mem_nil, or_false] at hp
      subst hp
      have h1 := ha.later s3
      have h2 := hb.later s3
      exact ⟨SV.laid0 (F := .node 0 0 g gl .nil) (SRow.one h1.e1 h1.e2 h1.e3 h1.e4 (hal.later s3)) s1 1, SV.laid0 (F := .node 0 0 h hl .nil) (SRow.one h2.e1 h2.e2 h2.e3 h2.e4 (hbl.later s3)) s2 1, ⟨kg, kgl, trivial⟩⟩
    · rw [← hA]; simp [allT, ssame]
    · simp only [sumT, snodes, List.length_cons, List.length_nil]; omega
  have HW := Lib.hid hw1
  have HS := Lib.hid (And.intro s3 s4)
  have HA := Lib.hid hA
  clear s1 s2 s3 s4 ha hb hal hbl hw1 hA
  have T0 := Lib.hid (Two.start w g h a1 a2 a3 a4 (.slice aa (slen gl) ca) b1 b2 b3 b4 (.slice ab (slen hl) cb) 30 30)
  have R1 : Hid (((w.alloc (.cells (sarr g a1 a2 a3 a4 (.slice aa (slen gl) ca)) 30)).alloc (.cells (sarr h b1 b2 b3 b4 (.slice ab (slen hl) cb)) 30)).rangeAt w.heap.size 0 (sarr g a1 a2 a3 a4 (.slice aa (slen gl) ca)).toList) := T0.out.r1
  have R2 : Hid (∀ o, (((w.alloc (.cells (sarr g a1 a2 a3 a4 (.slice aa (slen gl) ca)) 30)).alloc (.cells (sarr h b1 b2 b3 b4 (.slice ab (slen hl) cb)) 30)).alloc o).rangeAt (w.heap.size + 1) 0 (sarr h b1 b2 b3 b4 (.slice ab (slen hl) cb)).toList) := fun o => rangeAt_later T0.out.r2 (alloc_below _ _)
  clear T0
  show Calls Try.prog 35 #[sagg g a1 a2 a3 a4 (.slice aa (slen gl) ca), sagg h b1 b2 b3 b4 (.slice ab (slen hl) cb), .func (.func 36) #[] #[], .func (.func 37) #[] #[]] w _
  go_enter Try.func35, Try.ntmps35
  go_wp2_with (first | (refine wpList_load_mid rfl 30 _ rfl w.heap.size 0 rfl _ _ R1.out Try.underlying30 rfl sizeIS ?_) | (refine wpList_load_mid rfl 30 _ rfl (w.heap.size + 1) 0 rfl _ _ (R2.out _) Try.underlying30 rfl sizeIS ?_))
  clear R1 R2
  go_loopg [9] (snodes gl + 2) (fun m t wr => ∃ (td : TdT), Hid (StmS w1 A td m (snodes gl + 2)) ∧ wr.ownsRow w1.heap.size 92 2 t td.length (flatT td) ∧ Below w1.heap.size w1 wr)
  case atStart =>
    have e0 := HW.out
    have e4 := HS.out.2
    refine ⟨_, C0.out, ⟨rfl, .inr ⟨w.heap.size + 4, 1, #[.slice (some ⟨w.heap.size + 2, 0, Option.none⟩) 1 1, .slice (some ⟨w.heap.size + 3, 0, Option.none⟩) 1 1], rfl, by omega, ?_, Nat.le_refl _, (by unfold maxLen; omega), rfl, rfl⟩⟩, ?_⟩
    · have : (w1.alloc (.cells #[.slice (some ⟨w.heap.size + 2, 0, Option.none⟩) 1 1, .slice (some ⟨w.heap.size + 3, 0, Option.none⟩) 1 1] 92)).heap[w1.heap.size]? = some (.cells #[.slice (some ⟨w.heap.size + 2, 0, Option.none⟩) 1 1, .slice (some ⟨w.heap.size + 3, 0, Option.none⟩) 1 1] 92 (0, 0)) := by
        show (w1.heap.push _)[w1.heap.size]? = _; simp
      rw [e4, ← e0] at this
      exact this
    · have := alloc_below w1 (.cells #[.slice (some ⟨w.heap.size + 2, 0, Option.none⟩) 1 1, .slice (some ⟨w.heap.size + 3, 0, Option.none⟩) 1 1] 92)
      rw [← e0] at this ⊢
      exact this
  case round =>
    obtain ⟨td, hC, hown, hbw⟩ := hrel
    clear C0
    rcases List.eq_nil_or_concat td with rfl | ⟨ti, p, htd⟩
    · obtain ⟨a, cap, rfl⟩ := own_none hown
      have hs : Hid (A = true) := hC.out.ans
      go_wp2
      go_ret
      exact retB (HA.out.trans hs.out) (HS.out.1.trans (hbw.mono HS.out.1.size))
    · rw [List.concat_eq_append] at htd
      subst htd
      rw [List.length_append, flatT_app] at hown
      obtain ⟨g, cap, rfl, hc1, hc2, hBg, hg⟩ := own_some hown
      obtain ⟨pv1, pv2, _⟩ := hC.out.all p (by simp)
      obtain ⟨b1, o1, pa1, pc1, hpv1, hpa1, _, hpin1⟩ := pv1
      obtain ⟨b2, o2, pa2, pc2, hpv2, hpa2, _, hpin2⟩ := pv2
      have hfl : flatT [p] = [p.2.1, p.2.2] := rfl
      have hcell1 := own_cell hown (j := ti.length * 2) (u := p.2.1) (by rw [List.getElem?_append_right (by rw [flatT_length]; omega), flatT_length, Nat.sub_self, hfl]; rfl)
      have hcell2 := own_cell hown (j := ti.length * 2 + 1) (u := p.2.2) (by rw [List.getElem?_append_right (by rw [flatT_length]; omega), flatT_length, show ti.length * 2 + 1 - ti.length * 2 = 1 by omega, hfl]; rfl)
      have hpop := own_pop hown (by rw [flatT_length])
      rw [hpv1] at hcell1
      rw [hpv2] at hcell2
      have hlen : ti.length ≤ 10000002 := by have h1 := hC.out.len; have h2 := hC.out.big; simp only [List.length_append, List.length_cons, List.length_nil] at h1; omega
      have hcapI : (ti.length : Int) + 1 ≤ (cap : Int) := by omega
      have hlenI : (ti.length : Int) ≤ 10000002 := by omega
      have hmx : (cap : Int) ≤ 9223372036854775807 := by unfold maxLen at hc2; omega
      have hgw : ∀ g', (Value.slice (some ⟨g, 0, Option.none⟩) ti.length cap).ownBlock = some g' → g' ≠ wr.heap.size := by
        intro g' e; have : g = g' := by simpa [Value.ownBlock] using e
        omega
      clear hown hc1 hc2
      by_cases hL : slen p.1.1 = slen p.1.2
      case neg =>
        have hf : Hid (A = false) := hC.out.diff hL
        have h1 : ((slen p.1.1 : Int) == (slen p.1.2 : Int)) = false := int_ne (by omega)
        clear hC hL
        go_wp2
        go_ret
        exact retB (HA.out.trans hf.out) (HS.out.1.trans ((hbw.alloc hbw.size _).mono HS.out.1.size))
      have hR := Lib.hid (hC.out.pop hL hpin1 hpin2)
      have HL := Lib.hid hL
      have h1 : ((slen p.1.1 : Int) == (slen p.1.2 : Int)) = true := by rw [beq_iff_eq]; omega
      have h1n : ((slen p.1.1 : Int) != (slen p.1.2 : Int)) = false := by rw [bne, h1]; rfl
      have hn1 : (slen p.1.1 : Int) ≤ 20000000 := by have h1 := hR.out.len; have h2 := hR.out.big; have := slen_le p.1.1; omega
      have HP : Hid ((pa1 = some ⟨b1, o1, Option.none⟩ ∨ p.1.1 = .nil) ∧ (pa2 = some ⟨b2, o2, Option.none⟩ ∨ p.1.2 = .nil)) := ⟨hpa1, hpa2⟩
      have hpop2 := hpop.alloc (.cells #[.slice pa1 (slen p.1.1) pc1, .slice pa2 (slen p.1.2) pc2] 92)
      have hbw2 := hbw.alloc hbw.size (.cells #[.slice pa1 (slen p.1.1) pc1, .slice pa2 (slen p.1.2) pc2] 92)
      have N0 : Hid (Nxt (wr.alloc (.cells #[.slice pa1 (slen p.1.1) pc1, .slice pa2 (slen p.1.2) pc2] 92)) (.slice (some ⟨g, 0, Option.none⟩) ti.length cap) wr.heap.size (.slice pa2 (slen p.1.2) pc2)) := by
        refine ⟨?_, by simp, hgw⟩
        have := new2 wr (.slice pa1 (slen p.1.1) pc1) (.slice pa2 (slen p.1.2) pc2) 92 1 _ rfl
        have e2 : ((⟨wr.heap.size, 0, Option.none⟩ : Addr).add 1) = ⟨wr.heap.size, 1, Option.none⟩ := by simp [Addr.add]
        rwa [e2] at this
      have HO := Lib.hid (And.intro hpop2 hbw2)
      clear hC hL hpin1 hpin2 hpa1 hpa2 hgw hpop2 hbw2 hpop hbw
      go_wp2
      go_loopw [9, 44] (fun t i wr2 => ∃ (td : TdT) (R S : SF) (k : Nat), i = .int .i64 (k : Int) ∧ Hid (StmR w1 A td gk (snodes gl + 2) R S p.1.1 k b1 o1 b2 o2) ∧ wr2.ownsRow w1.heap.size 92 2 t td.length (flatT td) ∧ Hid (Nxt wr2 t wr.heap.size (.slice pa2 (slen p.1.2) pc2)) ∧ Below w1.heap.size w1 wr2) (fun _ i _ => slen p.1.1 - (RowKit.intOf i).toNat)
      case atStart => exact ⟨ti, p.1.1, p.1.2, 0, rfl, hR.out, HO.out.1, N0, HO.out.2⟩
      case round =>
        obtain ⟨td, R, S, k, rfl, hR, hown, hN, hbr⟩ := hrel
        clear hcell1 hcell2 N0 HO
        cases R with
        | nil =>
          have hk : ¬ (k : Int) < (slen p.1.1 : Int) := by have := hR.out.num; simp only [slen] at this; omega
          go_wp2
          go_roundg (gk - 1)
          case measure => have := hR.out.len; omega
          case rel => exact ⟨td, hR.out.done, hown, hbr⟩
        | node p0 q0 hh l r =>
          cases S with
          | nil => have := hR.out.eqn; simp only [slen] at this; omega
          | node p0' q0' hh' l' r' =>
          have hlt : (k : Int) < (slen p.1.1 : Int) := by have := hR.out.num; simp only [slen] at this; omega
          have hlt2 : (k : Int) < (slen p.1.2 : Int) := by have := HL.out; omega
          have hne1 : ¬ p.1.1 = .nil := by intro e; rw [e] at hlt; simp only [slen] at hlt; omega
          have hne2 : ¬ p.1.2 = .nil := by intro e; rw [e] at hlt2; simp only [slen] at hlt2; omega
          obtain rfl : pa1 = some ⟨b1, o1, Option.none⟩ := HP.out.1.resolve_right hne1
          obtain rfl : pa2 = some ⟨b2, o2, Option.none⟩ := HP.out.2.resolve_right hne2
          obtain ⟨p1, p2, p3, p4, u1, hp, hu1, hra⟩ := (SIn_node.1 hR.out.at1).1.range
          obtain ⟨q1, q2, q3, q4, u2, hq, hu2, hrc⟩ := (SIn_node.1 hR.out.at2).1.range
          have Hra := Lib.hid (rangeAt_later hra hbr)
          have Hrc := Lib.hid (rangeAt_later hrc hbr)
          have j1 := hp.e1.isOne
          have j2 := hp.e2.isOne
          have j3 := hp.e3.isOne
          have j4 := hp.e4.isOne
          have k1 := hq.e1.isOne
          have k2 := hq.e2.isOne
          have k3 := hq.e3.isOne
          have k4 := hq.e4.isOne
          have HPQ := Lib.hid (And.intro hp hq)
          have Hsm := Lib.hid hR.out.sm.1
          have i1 := hu1.isOne
          have i2 := hu2.isOne
          obtain ⟨ua1, uc1, rfl⟩ := hu1.shape
          obtain ⟨ua2, uc2, rfl⟩ := hu2.shape
          have HU := Lib.hid (And.intro hu1 hu2)
          have hn1 : td.length ≤ 10000002 := by have := hR.out.len; have := hR.out.big; omega
          have Hn1 := Lib.hid hn1
          have HOB := Lib.hid (And.intro hown hbr)
          obtain ⟨tv, htv⟩ : ∃ tv, ssameH hh hh' = tv := ⟨_, rfl⟩
          have Htv := Lib.hid htv
          have Hq : Hid (∀ w, HV w 0 hh p1 p2 p3 p4 → HV w 0 hh' q1 q2 q3 q4 → Calls Try.prog 36 #[.agg (scells hh p1 p2 p3 p4 (.slice ua1 (slen l) uc1)).toArray, .agg (scells hh' q1 q2 q3 q4 (.slice ua2 (slen l') uc2)).toArray] w fun e w' => e = .returned (.bool tv) ∧ Below w.heap.size w w') := fun w e1 e2 => by rw [← htv]; exact sameHead_is hh hh' Hsm.out w p1 p2 p3 p4 _ q1 q2 q3 q4 _ e1 e2
          clear htv
          clear hne1 hne2 hra hrc hp hq hu1 hu2 hn1 hown hbr
          go_wp2_with (first | (refine wpList_load_mid rfl 30 _ rfl b1 (o1 + k * 19) rfl _ _ Hra.out Try.underlying30 rfl sizeIS ?_) | (refine store_abs rfl 30 _ _ rfl _ _ _ rfl rfl ?ht sizeIS ?ho ?_; exact (newthere wr _); exact (oneS hh p1 p2 p3 p4 _ j1 j2 j3 j4 i1); intro W1 hW; have HW1 := Lib.hid (newblkS hh p1 p2 p3 p4 (.slice ua1 (slen l) uc1) hW); have hN1 := hN.out.later HW1.out.2; have q10 := hN1.c; have Hrc1 := Lib.hid (rangeAt_later Hrc.out HW1.out.2); clear hW) | (refine wpList_load_mid rfl 30 _ rfl b2 (o2 + k * 19) rfl _ _ Hrc1.out Try.underlying30 rfl sizeIS ?_) | (refine store_abs rfl 30 _ _ rfl _ _ _ rfl rfl ?ht2 sizeIS ?ho2 ?_; exact (newthere W1 _); exact (oneS hh' q1 q2 q3 q4 _ k1 k2 k3 k4 i2); intro W2 hW; have HW2 := Lib.hid (newblkS hh' q1 q2 q3 q4 (.slice ua2 (slen l') uc2) hW); have Hr1 := Lib.hid (rangeAt_later HW1.out.1 HW2.out.2); clear hW) | (refine wpList_load_mid rfl 30 _ rfl wr.heap.size 0 rfl _ _ Hr1.out Try.underlying30 rfl sizeIS ?_) | (refine wpList_load_mid rfl 30 _ rfl W1.heap.size 0 rfl _ _ HW2.out.1 Try.underlying30 rfl sizeIS ?_))
          refine (Hq.out _ (HPQ.out.1.later (HOB.out.2.trans ((HW1.out.2.trans (HW2.out.2.mono HW1.out.2.size)).mono HOB.out.2.size))) (HPQ.out.2.later (HOB.out.2.trans ((HW1.out.2.trans (HW2.out.2.mono HW1.out.2.size)).mono HOB.out.2.size)))).mono ?_
          rintro e w3 ⟨rfl, hb3⟩
          have B1 := HW1.out.2
          have B2 := HW2.out.2
          have B3 := B1.trans ((B2.trans (hb3.mono B2.size)).mono B1.size)
          have o3 := ownB HOB.out.1 B3
          have b3 := HOB.out.2.trans (B3.mono HOB.out.2.size)
          have n3 := hN.out.later B3
          have r12 := rangeAt_later Hr1.out hb3
          have r13 := rangeAt_later HW2.out.1 hb3
          have hs3 := b3.size
          have HG : Hid (∀ g, u9.ownBlock = some g → g < wr.heap.size ∧ g < W1.heap.size) := fun g hg => ⟨(HOB.out.1.lt g hg).2, Nat.lt_of_lt_of_le (HOB.out.1.lt g hg).2 B1.size⟩
          have HO3 := Lib.hid (And.intro o3 (And.intro b3 n3))
          have HR3 := Lib.hid (And.intro r12 r13)
          obtain ⟨ta, tc, hta⟩ : ∃ ta tc, u9 = .slice ta td.length tc := by
            rcases o3.2 with ⟨h1, h0⟩ | ⟨g, cap, cur, h1, _⟩
            · exact ⟨_, _, by rw [h0]; exact h1⟩
            · exact ⟨_, _, h1⟩
          subst hta
          obtain ⟨n12, hn12⟩ : ∃ n, wr.heap.size = n := ⟨_, rfl⟩
          obtain ⟨n13, hn13⟩ : ∃ n, W1.heap.size = n := ⟨_, rfl⟩
          rw [hn12] at HR3 HG ⊢
          rw [hn13] at HR3 HG ⊢
          clear B1 B2 B3 hb3 o3 b3 n3 r12 r13 HW1 HW2 Hr1 Hra Hrc Hrc1 hN1 q10 HOB hN i1 i2 j1 j2 j3 j4 k1 k2 k3 k4 hn12 hn13
          cases tv with
          | false =>
            have hf : Hid (A = false) := hR.out.stop Htv.out
            go_wp2
            go_ret
            exact retB (HA.out.trans hf.out) (HS.out.1.trans (HO3.out.2.1.mono HS.out.1.size))
          | true =>
            have hR2 := Lib.hid (hR.out.push Htv.out HU.out.1 HU.out.2)
            clear hR
            go_wp2_with fail
            obtain ⟨A1, HA1⟩ : ∃ A1, Hid (A1 = scells hh p1 p2 p3 p4 (.slice ua1 (slen l) uc1)) := ⟨_, rfl⟩
            obtain ⟨C1, HC1⟩ : ∃ C1, Hid (C1 = scells hh' q1 q2 q3 q4 (.slice ua2 (slen l') uc2)) := ⟨_, rfl⟩
            have hiA : (Try.prog.info? 30).map (·.size) = some A1.length := by rw [HA1.out]; exact sizeIS
            have hiC : (Try.prog.info? 30).map (·.size) = some C1.length := by rw [HC1.out]; exact sizeIS
            have hq1 : Hid (∀ w, Calls Try.prog 37 #[.agg A1.toArray] w fun e w' => e = .returned (.slice ua1 (slen l) uc1) ∧ Below w.heap.size w w') := fun w => by rw [HA1.out]; exact bodyOf_is _ _ _ _ _ _ w
            have hq2 : Hid (∀ w, Calls Try.prog 37 #[.agg C1.toArray] w fun e w' => e = .returned (.slice ua2 (slen l') uc2) ∧ Below w.heap.size w w') := fun w => by rw [HC1.out]; exact bodyOf_is _ _ _ _ _ _ w
            have bd : Below w3.heap.size w3 w3.drew := (Below.refl _ w3).drew
            refine wp_region_held_drew (S := fun w' => w'.rangeAt n12 0 A1 ∧ w'.rangeAt n13 0 C1) (by kernel_rfl) ⟨(World.rangeAt_drew _ _ _ _).2 (by rw [HA1.out]; exact HR3.out.1), (World.rangeAt_drew _ _ _ _).2 (by rw [HC1.out]; exact HR3.out.2)⟩ (fun hHeld => ?_)
            refine wpAnyH_take (i := 0) (v := .slice ta td.length tc) rfl (by kernel_rfl) (by kernel_rfl) (by kernel_rfl) (fun _ _ _ h => h) (Or.inl ⟨by rfl, ?y0⟩) hHeld ?_
            case y0 => intro w hSw; go_simp
            simp only [Act.put, List.getElem_toArray, List.getElem_cons_succ, List.getElem_cons_zero, List.setIfInBounds_toArray, List.set_cons_zero, List.set_cons_succ]
            refine wpAnyH_take (i := 1) (v := .func (.func 37) #[] #[]) rfl (by kernel_rfl) (by kernel_rfl) (by kernel_rfl) (fun _ _ _ h => h) (Or.inl ⟨by rfl, ?y1⟩) hHeld ?_
            case y1 => intro w hSw; go_simp
            simp only [Act.put, List.getElem_toArray, List.getElem_cons_succ, List.getElem_cons_zero, List.setIfInBounds_toArray, List.set_cons_zero, List.set_cons_succ]
            refine wpAnyH_take (i := 2) (v := .agg A1.toArray) rfl (by kernel_rfl) (by kernel_rfl) (by kernel_rfl) (fun _ _ _ h => h) (yieldsIf_load_mid (by rfl) 30 _ rfl n12 (0) rfl A1 _ (fun w h => h.1) Try.underlying30 rfl hiA) hHeld ?_
            simp only [Act.put, List.getElem_toArray, List.getElem_cons_succ, List.getElem_cons_zero, List.setIfInBounds_toArray, List.set_cons_zero, List.set_cons_succ]
            refine wpAnyH_take (i := 4) (v := .func (.func 37) #[] #[]) rfl (by kernel_rfl) (by kernel_rfl) (by kernel_rfl) (fun _ _ _ h => h) (Or.inl ⟨by rfl, ?y4⟩) hHeld ?_
            case y4 => intro w hSw; go_simp
            simp only [Act.put, List.getElem_toArray, List.getElem_cons_succ, List.getElem_cons_zero, List.setIfInBounds_toArray, List.set_cons_zero, List.set_cons_succ]
            refine wpAnyH_take (i := 5) (v := .agg C1.toArray) rfl (by kernel_rfl) (by kernel_rfl) (by kernel_rfl) (fun _ _ _ h => h) (yieldsIf_load_mid (by rfl) 30 _ rfl n13 (0) rfl C1 _ (fun w h => h.2) Try.underlying30 rfl hiC) hHeld ?_
            simp only [Act.put, List.getElem_toArray, List.getElem_cons_succ, List.getElem_cons_zero, List.setIfInBounds_toArray, List.set_cons_zero, List.set_cons_succ]
            refine wpAnyH_ready (rs := [3]) (by kernel_rfl) (by simp) ?_
            refine AllReadyH.cons rfl (fun K hK => ?_) AllReadyH.nil
            rw [if_pos (by rfl)]
            simp only [List.getElem_toArray, List.getElem_cons_succ, List.getElem_cons_zero]
            go_wp2_with fail
            refine (hq1.out _).mono ?_
            rintro e w4 ⟨rfl, hb4⟩
            go_wp2_with fail
            refine hK.out _ _ ⟨rangeAt_later hHeld.1 hb4, rangeAt_later hHeld.2 hb4⟩ (fun hHeld => ?_)
            refine wpAnyH_ready (rs := [6]) (by kernel_rfl) (by simp) ?_
            refine AllReadyH.cons rfl (fun K hK => ?_) AllReadyH.nil
            rw [if_pos (by rfl)]
            simp only [List.getElem_toArray, List.getElem_cons_succ, List.getElem_cons_zero]
            go_wp2_with fail
            refine (hq2.out _).mono ?_
            rintro e w5 ⟨rfl, hb5⟩
            go_wp2_with fail
            refine hK.out _ _ ⟨rangeAt_later hHeld.1 hb5, rangeAt_later hHeld.2 hb5⟩ (fun hHeld => ?_)
            refine wpAnyH_take (i := 7) (v := .agg #[.slice ua1 (slen l) uc1, .slice ua2 (slen l') uc2]) rfl (by kernel_rfl) (by kernel_rfl) (by kernel_rfl) (fun _ _ _ h => h) (Or.inl ⟨by rfl, ?y7⟩) hHeld ?_
            case y7 => intro w hSw; go_simp
            simp only [Act.put, List.getElem_toArray, List.getElem_cons_succ, List.getElem_cons_zero, List.setIfInBounds_toArray, List.set_cons_zero, List.set_cons_succ]
            have B5 := bd.trans ((hb4.trans (hb5.mono hb4.size)).mono bd.size)
            have o5 := ownB HO3.out.1 B5
            have b5 := HO3.out.2.1.trans (B5.mono HO3.out.2.1.size)
            have n5 := HO3.out.2.2.later B5
            have HO5 := Lib.hid (And.intro o5 (And.intro b5 n5))
            have hs5 := b5.size
            clear hb4 hb5 bd B5 n5
            refine wpAnyH_ready (rs := [8]) (by kernel_rfl) (by simp) ?_
            refine AllReadyH.cons rfl (fun K hK => ?_) AllReadyH.nil
            rw [if_pos (by rfl)]
            simp only [List.getElem_toArray, List.getElem_cons_succ, List.getElem_cons_zero]
            go_wp2_with fail
            refine hK.out _ _ ⟨World.rangeAt_alloc hHeld.1 _, World.rangeAt_alloc hHeld.2 _⟩ (fun hHeld => ?_)
            refine wpAnyH_ready (rs := [9]) (by kernel_rfl) (by simp) ?_
            refine AllReadyH.cons rfl (fun K hK => ?_) AllReadyH.nil
            rw [if_pos (by rfl)]
            simp only [List.getElem_toArray, List.getElem_cons_succ, List.getElem_cons_zero]
            refine wp_append_lies _ _ _ 93 (by rfl) w1.heap.size 92 i0 _ 2 48 Try.underlying93 hi hz0 hz1 hz2 rfl (by decide) _ _ _ (by rfl) (o5.alloc _) ⟨w5.heap.size, 0, Option.none⟩ 1 1 [.slice ua1 (slen l) uc1, .slice ua2 (slen l') uc2] (by rfl) (by rfl) ?c1 ?c2 (by decide) ?c3 ?c4 ?c5 (w5.heap.size + 1) (by simp) ?_
            case c1 => exact new2 _ _ _ _
            case c2 => intro x hx; simp only [List.mem_cons, List.not_mem_nil, or_false] at hx; rcases hx with rfl | rfl <;> rfl
            case c3 => have := Hn1.out; unfold maxLen; omega
            case c4 => have := Hn1.out; omega
            case c5 => simp; omega
            intro g6 cap6 w6 hown6 hgrow6 hat6 hlt6
            obtain ⟨z1, z2, z3⟩ := snocSS (l := l) (l' := l') HO5.out.1 HO5.out.2.1 hgrow6 hat6 HO5.out.2.2 hown6
            have Z := Lib.hid (And.intro z1 (And.intro z2 z3))
            clear z1 z2 z3
            refine hK.out _ _ ⟨range_grown hHeld.1 hgrow6 (fun e => by have := (HG.out n12 e).1; omega), range_grown hHeld.2 hgrow6 (fun e => by have := (HG.out n13 e).2; omega)⟩ (fun hHeld => ?_)
            clear hown6 hgrow6 hat6 o5 b5
            simp only [Act.put, List.getElem_toArray, List.getElem_cons_succ, List.getElem_cons_zero, List.setIfInBounds_toArray, List.set_cons_zero, List.set_cons_succ]
            refine wpAnyH_take (i := 10) (v := .slice (some ⟨g6, 0, Option.none⟩) (td.length + 1) cap6) rfl (by kernel_rfl) (by kernel_rfl) (by kernel_rfl) (fun _ _ _ h => h) (Or.inl ⟨by rfl, ?y10⟩) hHeld ?_
            case y10 => intro w hSw; go_simp
            simp only [Act.put, List.getElem_toArray, List.getElem_cons_succ, List.getElem_cons_zero, List.setIfInBounds_toArray, List.set_cons_zero, List.set_cons_succ]
            refine wpAnyH_done (by kernel_rfl) ?_ _
            clear hHeld hiA hiC hq1 hq2
            go_wp2
            go_roundw
            case rel => exact ⟨td ++ [((l, l'), (.slice ua1 (slen l) uc1, .slice ua2 (slen l') uc2))], r, r', k + 1, by go_num, hR2, Z.out.1, Z.out.2.2, Z.out.2.1⟩
            case measure => simp [RowKit.intOf]; omega
set_option maxRecDepth 100000 in
theorem impl_SameStmt (g h : SH) (gl hl : SF) (kg : small g) (kgl : allSmall gl) (hx : snodes gl ≤ 10000000) (w : World) (a1 a2 a3 a4 va b1 b2 b3 b4 vb : Value) (ha : HV w 0 g a1 a2 a3 a4) (hal : SV w 0 gl va) (hb : HV w 0 h b1 b2 b3 b4) (hbl : SV w 0 hl vb) :
    Calls Try.prog 16 #[.agg (scells g a1 a2 a3 a4 va).toArray, .agg (scells h b1 b2 b3 b4 vb).toArray] w fun e w' => e = .returned (.bool (ssameH g h && ssame gl hl)) ∧ Below w.heap.size w w' := by
  have T0 := Lib.hid (Two.start w g h a1 a2 a3 a4 va b1 b2 b3 b4 vb 30 30)
  have HV := Lib.hid (And.intro (And.intro ha hal) (And.intro hb hbl))
  have HK := Lib.hid (And.intro kg (And.intro kgl hx))
  clear ha hal hb hbl kg kgl hx
  go_enter Try.func16, Try.ntmps16
  go_wp2_with (first | (refine wpList_load_mid rfl 30 _ rfl w.heap.size 0 rfl _ _ T0.out.r1 Try.underlying30 rfl sizeIS ?_) | (refine wpList_load_mid rfl 30 _ rfl (w.heap.size + 1) 0 rfl _ _ T0.out.r2 Try.underlying30 rfl sizeIS ?_))
  refine (sameAllS_is g h gl hl HK.out.1 HK.out.2.1 HK.out.2.2 _ a1 a2 a3 a4 va b1 b2 b3 b4 vb (HV.out.1.1.later T0.out.low) (HV.out.1.2.later T0.out.low) (HV.out.2.1.later T0.out.low) (HV.out.2.2.later T0.out.low)).mono ?_
  rintro e w1 ⟨rfl, hb1⟩
  have h3 := (T0.out.later hb1).low
  clear hb1 T0
  go_wp2
  go_ret
  exact ⟨rfl, h3⟩
end Go.Proofs.Ytkhccpjkajhnpaa
