import Derived.Test.YtpinockfakndlaaGreatP19ofFnEvals
import Derived.Test.YtpinockfakndlaaGreatP05ofFnEvals
import Derived.Test.YtpinockfakndlaaGreatP16ofFnEvals
import Derived.Test.YtpinockfakndlaaGreatP17ofFnEvals
import Derived.Test.YtpinockfakndlaaGreatP07ofFnEvals
set_option maxRecDepth 100000
namespace Go.Proofs.YtpinockfakndlaaGreat
open Go.RowKit Go.Lib
set_option linter.unusedSimpArgs false
set_option linter.unusedVariables false
theorem toldF_node (d p q : Nat) (h : EH) (l r : EF) : toldF d (.node p q h l r) = (toldX d ⟨h, l⟩ && toldF d r) := by simp only [toldF, toldX, Bool.and_assoc]
theorem toldX_succ (d : Nat) (x : X) : toldX (d + 1) x = (here x.h (elen x.l) && toldF d x.l) := by simp [toldX]
def okAt (D : Nat) (x : X) : Prop := toldX D x = true ∧ enodes x.l + 1 ≤ 60
structure Cnt (D : Nat) (x : X) (r : Nat) : Prop where
  yes : okAt D x → r = enodes x.l + 1
  no : ¬ okAt D x → 60 < r
  big : r ≤ 100 + 60 * D
structure CntM (w : World) (D : Nat) (xl R : EF) (k c b o : Nat) : Prop where
  at_ : EIn w 0 R b (o + k * 4)
  num : k + elen R = elen xl
  siz : esize R ≤ 1048576
  low : c ≤ 60 → toldF D xl = toldF D R ∧ c + enodes R = enodes xl + 1
  high : 60 < c → ¬ (toldF D xl = true ∧ enodes xl + 1 ≤ 60)
  big : c ≤ 160 + 60 * D
theorem CntM.next {w : World} {D p q : Nat} {xl : EF} {h : EH} {l r : EF} {k c b o n : Nat} (m : CntM w D xl (.node p q h l r) k c b o) (hc : c ≤ 60) (hn : Cnt D ⟨h, l⟩ n) : CntM w D xl r (k + 1) (c + n) b o := by
  obtain ⟨e1, e2⟩ := m.low hc
  rw [toldF_node] at e1
  have h1 := m.num
  have h2 := m.siz
  simp only [elen, esize, enodes] at h1 h2 e2
  have hb := hn.big
  by_cases hok : okAt D ⟨h, l⟩
  · have hy := hn.yes hok
    have ht := hok.1
    rw [ht, Bool.true_and] at e1
    have hy' : n = enodes l + 1 := hy
    refine ⟨by rw [show o + (k + 1) * 4 = o + k * 4 + 4 by omega]; exact (EIn_node.1 m.at_).2, by omega, by omega, fun _ => ⟨e1, by omega⟩, fun hh => ?_, by omega⟩
    intro ⟨_, g2⟩; omega
  · have hy := hn.no hok
    refine ⟨by rw [show o + (k + 1) * 4 = o + k * 4 + 4 by omega]; exact (EIn_node.1 m.at_).2, by omega, by omega, fun hh => by omega, fun hh => ?_, by omega⟩
    intro ⟨g1, g2⟩
    apply hok
    rw [e1, Bool.and_eq_true] at g1
    exact ⟨g1.1, by show enodes l + 1 ≤ 60; omega⟩
set_option maxHeartbeats 2000000 in
theorem l3Count_step (D : Nat) (hD : D ≤ 8)
    (ih : ∀ (x : X) (w : World) (v : Value), xsize x ≤ 1048576 → EV w 0 x.l v → D ≤ 7 → Calls Tryz.prog 85 #[.agg #[.int .i64 x.h.k, .int .i64 x.h.n, .string x.h.s, v], .int .i64 (9 - (D : Int))] w fun e w' => ∃ r : Nat, e = .returned (.int .i64 (r : Int)) ∧ Cnt D x r ∧ Below w.heap.size w w')
    (x : X) (w : World) (v : Value) (hs : xsize x ≤ 1048576) (hv : EV w 0 x.l v) (hD7 : D ≤ 7) :
    Calls Tryz.prog 85 #[.agg #[.int .i64 x.h.k, .int .i64 x.h.n, .string x.h.s, v], .int .i64 (8 - (D : Int))] w fun e w' => ∃ r : Nat, e = .returned (.int .i64 (r : Int)) ∧ Cnt (D + 1) x r ∧ Below w.heap.size w w' := by
  have h8 : ¬ (8 : Int) < 8 - (D : Int) := by omega
  have Hih := hid ih
  have Hv := hid hv
  obtain ⟨b, o, ao, cap, rfl, hao, _, hin⟩ := hv
  have HI := hid (And.intro hao hin)
  have hss : x.h.s.size ≤ 281474976710656 := by unfold xsize at hs; omega
  have hse : esize x.l ≤ 1048576 := by unfold xsize at hs; omega
  have HSE := hid hse
  obtain ⟨tv, htv⟩ : ∃ t, here x.h (elen x.l) = t := ⟨_, rfl⟩
  have Htv := hid htv
  have Hq : Hid (∀ w, EV w 0 x.l (.slice ao (elen x.l) cap) → Calls Tryz.prog 128 #[.agg #[.int .i64 x.h.k, .int .i64 x.h.n, .string x.h.s, .slice ao (elen x.l) cap]] w fun e w' => e = .returned (.bool tv) ∧ Below w.heap.size w w') := fun w h => by rw [← htv]; exact l3Here_is x hss w _ h
  have hb0 : Below w.heap.size w (w.alloc (.cells #[.int .i64 x.h.k, .int .i64 x.h.n, .string x.h.s, .slice ao (elen x.l) cap] 43)) := aB _ _
  have hln : (elen x.l : Int) ≤ 1048576 := by have := elen_le x.l; have := enodes_le x.l; omega
  have hDI : (D : Int) ≤ 7 := by omega
  clear ih hao hin htv hss hs hse
  go_enter Tryz.func85, Tryz.ntmps85
  go_wp2_with fail
  refine (Hq.out _ (Hv.out.later hb0)).mono ?_
  rintro e w1 ⟨rfl, hb1⟩
  have B1 := hb0.trans (hb1.mono hb0.size)
  cases tv with
  | false =>
    have hno : Hid (¬ okAt (D + 1) x) := show ¬ okAt (D + 1) x by intro h; have := h.1; rw [toldX_succ, Htv.out] at this; cases this
    clear hb0 hb1
    go_wp2
    go_ret
    exact ⟨100, rfl, ⟨fun h => absurd h hno.out, fun _ => by omega, by omega⟩, B1⟩
  | true =>
    have c3 := box_cell (i := 3) hb1 rfl
    have C3 := hid c3
    have HB1 := hid B1
    clear hb0 hb1 Hq
    go_wp2
    go_loopw [5, 6] (fun y i wr => ∃ (R : EF) (k c : Nat), i = .int .i64 (k : Int) ∧ y = .int .i64 (c : Int) ∧ Hid (CntM w D x.l R k c b o) ∧ Hid (wr.cell? ⟨w.heap.size, 3, Option.none⟩ = some (.slice ao (elen x.l) cap)) ∧ Below w.heap.size w wr) (fun _ i _ => elen x.l - (RowKit.intOf i).toNat)
    case atStart => exact ⟨x.l, 0, 1, rfl, rfl, ⟨by simpa using HI.out.2, by omega, HSE.out, fun _ => ⟨rfl, by omega⟩, fun h => by omega, by omega⟩, C3, HB1.out⟩
    case round =>
      obtain ⟨R, k, c, rfl, rfl, hm, hc3, hbw⟩ := hrel
      clear c3 C3 B1 HB1
      have c3 := hc3.out
      have hcb := hm.out.big
      have hcI : (c : Int) ≤ 640 := by omega
      cases R with
      | nil =>
        have hk : ¬ (k : Int) < (elen x.l : Int) := by have := hm.out.num; simp only [elen] at this; omega
        go_wp2
        go_ret
        refine ⟨c, rfl, ⟨fun hok => ?_, fun hok => ?_, by omega⟩, hbw⟩
        · rcases Nat.lt_or_ge 60 c with h6 | h6
          · exact absurd ⟨by have := hok.1; rw [toldX_succ, Htv.out, Bool.true_and] at this; exact this, hok.2⟩ (hm.out.high h6)
          · have := (hm.out.low h6).2; simp only [enodes] at this; omega
        · rcases Nat.lt_or_ge 60 c with h6 | h6
          · exact h6
          · obtain ⟨g1, g2⟩ := hm.out.low h6
            exact absurd ⟨by rw [toldX_succ, Htv.out, g1]; rfl, by simp only [enodes] at g2; omega⟩ hok
      | node p q h l r =>
        have hlt : (k : Int) < (elen x.l : Int) := by have := hm.out.num; simp only [elen] at this; omega
        by_cases h6 : (c : Int) ≤ 60
        · have hne : ¬ x.l = .nil := by intro e; have := hm.out.num; rw [e] at this; simp only [elen] at this; omega
          obtain rfl : ao = some ⟨b, o, Option.none⟩ := HI.out.1.resolve_right hne
          obtain ⟨⟨a0, a1, a2, u, a3, hu⟩, _⟩ := EIn_node.1 (EIn_later hbw _ _ _ hm.out.at_)
          have hsz : xsize ⟨h, l⟩ ≤ 1048576 := by have := hm.out.siz; simp only [esize] at this; unfold xsize; simp only; omega
          have Hl := hid (fun w v => Hih.out ⟨h, l⟩ w v hsz)
          have HU := hid hu
          have Hd7 := hid hD7
          have h9 : (8 : Int) - (D : Int) + 1 = 9 - (D : Int) := by omega
          clear hne hsz hu hcb
          go_wp2_with fail
          refine (Hl.out _ u HU.out Hd7.out).mono ?_
          rintro e w2 ⟨rr, rfl, hrr, hb2⟩
          have hbw2 := hbw.trans (hb2.mono hbw.size)
          have hm2 := hid (hm.out.next (by omega) hrr)
          have hrb : (rr : Int) ≤ 640 := by have := hrr.big; omega
          have hc32 := hid (keeps hb2 c3)
          clear hb2 hbw a0 a1 a2 a3 hrr c3 hc3 h9
          go_wp2
          go_roundw
          case rel => exact ⟨r, k + 1, c + rr, by go_num, by go_num, hm2, hc32, hbw2⟩
          case measure => simp [RowKit.intOf]; omega
        · go_wp2
          go_ret
          have h6' : 60 < c := by omega
          refine ⟨c, rfl, ⟨fun hok => ?_, fun _ => h6', by omega⟩, hbw⟩
          exact absurd ⟨by have := hok.1; rw [toldX_succ, Htv.out, Bool.true_and] at this; exact this, hok.2⟩ (hm.out.high h6')
theorem l3Count_zero (x : X) (w : World) (v : Value) : Calls Tryz.prog 85 #[.agg #[.int .i64 x.h.k, .int .i64 x.h.n, .string x.h.s, v], .int .i64 9] w fun e w' => ∃ r : Nat, e = .returned (.int .i64 (r : Int)) ∧ Cnt 0 x r ∧ Below w.heap.size w w' := by
  go_enter Tryz.func85, Tryz.ntmps85
  go_wp2
  go_ret
  exact ⟨100, rfl, ⟨fun h => absurd h.1 (by simp [toldX]), fun _ => by omega, by omega⟩, aB _ _⟩
theorem l3Count_all : ∀ (D : Nat), D ≤ 8 → ∀ (x : X) (w : World) (v : Value), xsize x ≤ 1048576 → EV w 0 x.l v → Calls Tryz.prog 85 #[.agg #[.int .i64 x.h.k, .int .i64 x.h.n, .string x.h.s, v], .int .i64 (9 - (D : Int))] w fun e w' => ∃ r : Nat, e = .returned (.int .i64 (r : Int)) ∧ Cnt D x r ∧ Below w.heap.size w w'
  | 0, _, x, w, v, _, _ => l3Count_zero x w v
  | D + 1, h, x, w, v, hs, hv => by
    have e : (9 : Int) - ((D + 1 : Nat) : Int) = 8 - (D : Int) := by omega
    rw [e]
    exact l3Count_step D (by omega) (fun x w v a b _ => l3Count_all D (by omega) x w v a b) x w v hs hv (by omega)
theorem spec_ExpOk (x : X) (hs : xsize x ≤ 1048576) (w : World) (v : Value) (hv : EV w 0 x.l v) :
    Calls Tryz.prog 44 #[.agg (xC x v).toArray] w fun e w' => e = .returned (.bool (expOk x)) ∧ Below w.heap.size w w' := by
  show Calls Tryz.prog 44 #[.agg #[.int .i64 x.h.k, .int .i64 x.h.n, .string x.h.s, v]] w _
  have Hv := hid hv
  obtain ⟨va, vc, rfl⟩ := hv.shape
  have hb0 : Below w.heap.size w (w.alloc (.cells #[.int .i64 x.h.k, .int .i64 x.h.n, .string x.h.s, .slice va (elen x.l) vc] 43)) := aB _ _
  have Hs := hid hs
  clear hv hs
  go_enter Tryz.func44, Tryz.ntmps44
  go_wp2_with fail
  refine (l3Count_all 8 (by omega) x _ _ Hs.out (Hv.out.later hb0)).mono ?_
  rintro e w1 ⟨r, rfl, hr, hb1⟩
  have B1 := hb0.trans (hb1.mono hb0.size)
  have Hr := hid hr
  clear hb0 hb1 hr
  by_cases hok : okAt 8 x
  · have h6 : (r : Int) ≤ 60 := by have := Hr.out.yes hok; have := hok.2; omega
    have Hok := hid hok
    clear hok
    go_wp2
    go_ret
    exact retB (by rw [expOk, Hok.out.1, decide_eq_true Hok.out.2]; rfl) B1
  · have h6 : ¬ (r : Int) ≤ 60 := by have := Hr.out.no hok; omega
    have hf : Hid (expOk x = false) := show expOk x = false by
      cases e : expOk x with
      | false => rfl
      | true =>
        unfold expOk at e
        rw [Bool.and_eq_true, decide_eq_true_eq] at e
        exact absurd e hok
    clear hok
    go_wp2
    go_ret
    exact retB (by rw [hf.out]; symm; first | rfl | (simp; omega)) B1
theorem kept_len5 {p : List UInt8} (h : p ∈ keptL) : p.length ≤ 6 := by
  simp only [keptL, List.mem_cons, List.not_mem_nil, or_false] at h
  rcases h with rfl | rfl | rfl | rfl | rfl | rfl <;> decide
theorem good_len5 {t : T} (h : Good t) : t.s.length ≤ 6 := by
  obtain ⟨k, p, hk, _, _, hg, ht⟩ := h
  unfold tok at ht
  split at ht
  · split at ht
    · rename_i hm; injection ht with ht; subst ht; exact kept_len5 hm
    · split at ht
      · rename_i h6; injection ht with ht; subst ht; exact h6
      · cases ht
  · split at ht
    · split at ht
      · split at ht
        · injection ht with ht; subst ht; simp
        · cases ht
      · cases ht
    · split at ht
      · rename_i h3; injection ht with ht; subst ht
        subst h3
        rcases hg with hg | hg
        · cases hg
        · show p.length ≤ 6; omega
      · cases ht
theorem Row.rowB {w : World} {v : Value} {ts : List T} (h : Row w v ts) (c : Obj) : RowB w.heap.size (w.alloc c) v ts := by
  obtain ⟨ao, cap, e, h⟩ := h
  refine ⟨ao, cap, e, ?_⟩
  have hb := (Below.refl _ w).alloc (Nat.le_refl _) c
  rcases h with h | ⟨g, e2, hg, hc⟩
  · exact .inl h
  · exact .inr ⟨g, e2, hg, fun i t hi => ⟨(hb.cell (p := ⟨g, i * 3, Option.none⟩) hg).trans (hc i t hi).1, (hb.cell (p := ⟨g, i * 3 + 1, Option.none⟩) hg).trans (hc i t hi).2.1, (hb.cell (p := ⟨g, i * 3 + 2, Option.none⟩) hg).trans (hc i t hi).2.2⟩⟩
theorem Rd5.new {w : World} {v : Value} {ts : List T} {bad : Bool} {t : TypeId} (h : Row w v ts) (hts : ts.length ≤ 600) : Rd5 w.heap.size v ts 0 0 bad (w.alloc (.cells #[v, .int .i64 0, .int .i64 0, .bool bad] t)) :=
  ⟨new_range w #[v, .int .i64 0, .int .i64 0, .bool bad] t, blk_there (arr := #[v, .int .i64 0, .int .i64 0, .bool bad]) (t := t) (by show (w.heap.push _)[w.heap.size]? = _; simp) (Nat.le_refl 4), h.rowB _, Nat.zero_le _, hts⟩
end Go.Proofs.YtpinockfakndlaaGreat
namespace Go.Proofs.YtpinockfakndlaaGreat
open Go.RowKit
set_option linter.unusedSimpArgs false
set_option linter.unusedVariables false
section
variable {P : Program} {ops : Array Oper} {Q : Exit → Act → World → Prop} {md : Region.Mode} {S : World → Prop} {last : Nat}
def wpAnyL (P : Program) (md : Region.Mode) (ops : Array Oper) (Q : Exit → Act → World → Prop) (S : World → Prop) (last : Nat) : Nat → Array Bool → Act → World → Prop
  | 0, listed, a, w => Region.ready md ops listed = [] ∧ Q .normal a w
  | fuel + 1, listed, a, w => (Region.ready md ops listed = [] → Q .normal a w) ∧ ∀ j ∈ Region.ready md ops listed, wpOp P ops Q j (fun a' w' => (j ≠ last → S w') ∧ wpAnyL P md ops Q S last fuel (listed.setIfInBounds j true) a' w') a w
theorem wpAny_ofL : ∀ (fuel : Nat) (listed : Array Bool) (a : Act) (w : World), wpAnyL P md ops Q S last fuel listed a w → wpAny P md ops Q fuel listed a w
  | 0, _, _, _, h => h
  | fuel + 1, _, _, _, h => ⟨h.1, fun j hj => wpOp_mono (fun a' w' h' => wpAny_ofL fuel _ a' w' h'.2) (h.2 j hj)⟩
def descs (md : Region.Mode) (ops : Array Oper) (i : Nat) : List Nat :=
  (List.range ops.size).foldl (fun c k => if k = i then k :: c else match ops[k]? with | some o => if o.after.toList.any (fun e => Region.binds md e && c.contains e.on) then k :: c else c | none => c) []
def chnOk (md : Region.Mode) (ops : Array Oper) (listed : Array Bool) (last i : Nat) (ch : List Nat) : Bool :=
  ch.contains last && !(decide (i = last)) && ch.all fun c => !(listed.getD c true) && (decide (c = i) || match ops[c]? with | some o => o.after.toList.any (fun e => Region.binds md e && ch.contains e.on) | none => false)
structure Chn (md : Region.Mode) (ops : Array Oper) (listed : Array Bool) (last i : Nat) (ch : List Nat) : Prop where
  mem : last ∈ ch
  ne : i ≠ last
  un : ∀ c ∈ ch, listed.getD c true = false
  on : ∀ c ∈ ch, c = i ∨ ∃ o, ops[c]? = some o ∧ ∃ e ∈ o.after, Region.binds md e = true ∧ e.on ∈ ch
theorem Chn.of {listed : Array Bool} {i : Nat} {ch : List Nat} (h : chnOk md ops listed last i ch = true) : Chn md ops listed last i ch := by
  unfold chnOk at h
  simp only [Bool.and_eq_true, List.all_eq_true, Bool.not_eq_true', decide_eq_false_iff_not, Bool.or_eq_true, decide_eq_true_eq] at h
  refine ⟨by simpa using h.1.1, h.1.2, fun c hc => (h.2 c hc).1, fun c hc => ?_⟩
  rcases (h.2 c hc).2 with e | e
  · exact .inl e
  · right
    split at e
    · rename_i o ho
      rw [List.any_eq_true] at e
      obtain ⟨x, hx, e1⟩ := e
      simp only [Bool.and_eq_true] at e1
      exact ⟨o, ho, x, by simpa using hx, e1.1, by simpa using e1.2⟩
    · cases e
theorem Chn.off {listed : Array Bool} {i j : Nat} {ch : List Nat} (h : Chn md ops listed last i ch) (hj : j ∈ Region.ready md ops listed) (hne : j ≠ i) : j ∉ ch := by
  intro hc
  rcases h.on j hc with e | ⟨o, ho, e, he, hb, hp⟩
  · exact hne e
  · obtain ⟨_, o', ho', hw⟩ := mem_ready.1 hj
    rw [ho] at ho'
    cases ho'
    have hd := hw e he hb
    have hu := h.un _ hp
    by_cases hlt : e.on < listed.size
    · rw [Array.getD_eq_getD_getElem?, Array.getElem?_eq_getElem hlt, Option.getD_some] at hd hu
      rw [hd] at hu
      cases hu
    · rw [Array.getD_eq_getD_getElem?, Array.getElem?_eq_none (by omega)] at hd
      cases hd
theorem Chn.more {listed : Array Bool} {i j : Nat} {ch : List Nat} (h : Chn md ops listed last i ch) (hj : j ∉ ch) : Chn md ops (listed.setIfInBounds j true) last i ch :=
  ⟨h.mem, h.ne, fun c hc => by rw [getD_set_ne true (fun e => hj (by rw [e]; exact hc))]; exact h.un c hc, h.on⟩
theorem wpAnyL_until {i : Nat} {oi : Oper} {v : Value} {ch : List Nat} (hi : ops[i]? = some oi) (hsel : ∀ (j : Nat) (o : Oper) cs b, ops[j]? = some o → o.op ≠ .select cs b)
    (hQ : ∀ c a w, Q (.panic c) (a.put oi.dst v) w → Q (.panic c) a w) : ∀ (fuel : Nat) (listed : Array Bool) (a : Act) (w : World), Chn md ops listed last i ch → Aside md ops i oi listed → i ∈ Region.ready md ops listed → YieldsIf P ops S oi v a → S w →
      wpAnyL P md ops Q S last fuel (listed.setIfInBounds i true) (a.put oi.dst v) w → wpAnyL P md ops Q S last (fuel + 1) listed a w
  | 0, listed, a, w, hC, _, hr, hy, hS, H => by
    refine ⟨fun h => (by rw [h] at hr; cases hr), fun j hj => ?_⟩
    rcases Nat.decEq j i with hne | he
    · have h1 := ready_mono hj hne
      rw [H.1] at h1
      cases h1
    · rw [he]; exact hy.wpOp hi hS ⟨fun _ => hS, H⟩
  | fuel + 1, listed, a, w, hC, hA, hr, hy, hS, H => by
    refine ⟨fun h => (by rw [h] at hr; cases hr), fun j hj => ?_⟩
    rcases Nat.decEq j i with hne | he
    · obtain ⟨hju, oj, hoj, _⟩ := mem_ready.1 hj
      have hno := up_free hj hr hoj
      have hoff := hC.off hj hne
      have hjl : j ≠ last := fun e => hoff (by rw [e]; exact hC.mem)
      refine wpOp_mono (fun a' w' h => ⟨fun _ => h.2.1 hjl, wpAnyL_until hi hsel hQ fuel (listed.setIfInBounds j true) a' w' (hC.more hoff) (hA.more hju) (ready_mono hr (Ne.symm hne)) h.1 (h.2.1 hjl) ?_⟩) (wpOp_putIf hoj (hA j oj hoj hne hju hno) (fun cs b => hsel i oi cs b hi) (fun cs b => hsel j oj cs b hoj) hQ hy (H.2 j (ready_mono hj hne)))
      rw [Array.setIfInBounds_comm _ _ hne]
      exact h.2.2
    · rw [he]; exact hy.wpOp hi hS ⟨fun _ => hS, H⟩
theorem wpAnyL_take {i : Nat} {oi : Oper} {v : Value} {fuel : Nat} {listed : Array Bool} {a : Act} {w : World} (hi : ops[i]? = some oi)
    (hs : Region.noSelect ops = true) (hf : Region.free md ops listed i = true) (hr : (Region.ready md ops listed).contains i = true) (hc : chnOk md ops listed last i (descs md ops i) = true)
    (hQ : ∀ c a w, Q (.panic c) (a.put oi.dst v) w → Q (.panic c) a w) (hy : YieldsIf P ops S oi v a) (hS : S w)
    (h : wpAnyL P md ops Q S last fuel (listed.setIfInBounds i true) (a.put oi.dst v) w) : wpAnyL P md ops Q S last (fuel + 1) listed a w :=
  wpAnyL_until hi (Region.noSelect_spec hs) hQ fuel listed a w (Chn.of hc) (Region.free_spec hi hf) (by simpa using hr) hy hS h
def AllReadyL (P : Program) (md : Region.Mode) (ops : Array Oper) (Q : Exit → Act → World → Prop) (S : World → Prop) (last : Nat) (fuel : Nat) (listed : Array Bool) (a : Act) (w : World) (rs : List Nat) : Prop :=
  ∀ j ∈ rs, wpOp P ops Q j (fun a' w' => (j ≠ last → S w') ∧ wpAnyL P md ops Q S last fuel (listed.setIfInBounds j true) a' w') a w
theorem AllReadyL.nil {fuel : Nat} {listed : Array Bool} {a : Act} {w : World} : AllReadyL P md ops Q S last fuel listed a w [] := fun _ h => by cases h
theorem AllReadyL.cons {fuel : Nat} {listed : Array Bool} {a : Act} {w : World} {j : Nat} {o : Oper} {rs : List Nat} (ho : ops[j]? = some o)
    (h : ∀ K' : Act → World → Prop, Shut (∀ a w, (j ≠ last → S w) → wpAnyL P md ops Q S last fuel (listed.setIfInBounds j true) a w → K' a w) → if Region.wanted o (yielded ops a.tmps) = true then Oper.wp P o a w K' Q else K' (a.put o.dst undef) w)
    (hs : AllReadyL P md ops Q S last fuel listed a w rs) : AllReadyL P md ops Q S last fuel listed a w (j :: rs) := fun k hk => by
  rcases List.mem_cons.1 hk with rfl | hk
  · exact wpOp_step ho (fun K' hK => h K' (fun a w hS hW => hK a w ⟨hS, hW⟩))
  · exact hs k hk
theorem wpAnyL_ready {rs : List Nat} {fuel : Nat} {listed : Array Bool} {a : Act} {w : World} (hr : Region.ready md ops listed = rs) (hne : rs ≠ [])
    (h : AllReadyL P md ops Q S last fuel listed a w rs) : wpAnyL P md ops Q S last (fuel + 1) listed a w := ⟨fun h0 => absurd (hr ▸ h0) hne, hr ▸ h⟩
theorem wpAnyL_done {listed : Array Bool} {a : Act} {w : World} (hr : Region.ready md ops listed = []) (h : Q .normal a w) :
    ∀ fuel, wpAnyL P md ops Q S last fuel listed a w
  | 0 => ⟨hr, h⟩
  | _ + 1 => ⟨fun _ => h, by rw [hr]; simp⟩
theorem wp_region_last (S : World → Prop) (last : Nat) {id : Nat} {a : Act} {w : World} (hm : P.follows .mixedOrders = true) (h : wpAnyL P .any ops Q S last ops.size (Array.replicate ops.size false) a w.drew) : (Code.region id ops true).wp P Q a w := wp_region_any hm (wpAny_ofL _ _ _ _ h)
end
end Go.Proofs.YtpinockfakndlaaGreat
