/-
  The contracts of the specification's l3Count and ExpOk.
-/
import Derived.Test.YtkilmefpaojkfaaGreatAstHere
namespace Go.Proofs.YtkilmefpaojkfaaGreat
open Go.RowKit Go.Lib
set_option linter.unusedSimpArgs false
set_option linter.unusedVariables false

theorem toldF_node (d p q : Nat) (h : EH) (l r : EF) : toldF d (.node p q h l r) = (toldX d ⟨h, l⟩ && toldF d r) := by simp only [toldF, toldX, Bool.and_assoc]
theorem toldX_succ (d : Nat) (x : X) : toldX (d + 1) x = (here x.h (elen x.l) && toldF d x.l) := by simp [toldX]
def okAt (D : Nat) (x : X) : Prop := toldX D x = true ∧ enodes x.l + 1 ≤ 60
structure Cnt (D : Nat) (x : X) (r : Nat) : Prop where
  yes : okAt D x → r = enodes x.l + 1
  no : ¬ okAt D x → 60 < r
  big : r ≤ 100 + 60 * D
/-- Between two rounds. -/
structure CntM (w : World) (D : Nat) (xl R : EF) (k c b o : Nat) : Prop where
  at_ : EIn w 0 R b (o + k * 4)
  num : k + elen R = elen xl
  siz : esize R ≤ 1048576
  low : c ≤ 60 → toldF D xl = toldF D R ∧ c + enodes R = enodes xl + 1
  high : 60 < c → ¬ (toldF D xl = true ∧ enodes xl + 1 ≤ 60)
  big : c ≤ 160 + 60 * D
theorem CntM.next {w : World} {D p q : Nat} {xl : EF} {h : EH} {l r : EF} {k c b o n : Nat} (m : CntM w D xl (.node p q h l r) k c b o) (hc : c ≤ 60) (hn : Cnt D ⟨h, l⟩ n) : CntM w D xl r (k + 1) (c + n) b o := by
  obtain ⟨e1, e2⟩ := m.low hc
  rw [toldF_node] at e1
  have h1 := m.num
  have h2 := m.siz
  simp only [elen, esize, enodes] at h1 h2 e2
  have hb := hn.big
  by_cases hok : okAt D ⟨h, l⟩
  · have hy := hn.yes hok
    have ht := hok.1
    rw [ht, Bool.true_and] at e1
    have hy' : n = enodes l + 1 := hy
    refine ⟨by rw [show o + (k + 1) * 4 = o + k * 4 + 4 by omega]; exact (EIn_node.1 m.at_).2, by omega, by omega, fun _ => ⟨e1, by omega⟩, fun hh => ?_, by omega⟩
    intro ⟨_, g2⟩; omega
  · have hy := hn.no hok
    refine ⟨by rw [show o + (k + 1) * 4 = o + k * 4 + 4 by omega]; exact (EIn_node.1 m.at_).2, by omega, by omega, fun hh => by omega, fun hh => ?_, by omega⟩
    intro ⟨g1, g2⟩
    apply hok
    rw [e1, Bool.and_eq_true] at g1
    exact ⟨g1.1, by show enodes l + 1 ≤ 60; omega⟩
set_option maxHeartbeats 2000000 in
set_option maxRecDepth 100000 in
theorem l3Count_step (D : Nat) (hD : D ≤ 8)
    (ih : ∀ (x : X) (w : World) (v : Value), xsize x ≤ 1048576 → EV w 0 x.l v → D ≤ 7 → Calls Tryz.prog 131 #[.agg #[.int .i64 x.h.k, .int .i64 x.h.n, .string x.h.s, v], .int .i64 (9 - (D : Int))] w fun e w' => ∃ r : Nat, e = .returned (.int .i64 (r : Int)) ∧ Cnt D x r ∧ Below w.heap.size w w')
    (x : X) (w : World) (v : Value) (hs : xsize x ≤ 1048576) (hv : EV w 0 x.l v) (hD7 : D ≤ 7) :
    Calls Tryz.prog 131 #[.agg #[.int .i64 x.h.k, .int .i64 x.h.n, .string x.h.s, v], .int .i64 (8 - (D : Int))] w fun e w' => ∃ r : Nat, e = .returned (.int .i64 (r : Int)) ∧ Cnt (D + 1) x r ∧ Below w.heap.size w w' := by
  have h8 : ¬ (8 : Int) < 8 - (D : Int) := by omega
  have Hih := Lib.hid ih
  have Hv := Lib.hid hv
  obtain ⟨b, o, ao, cap, rfl, hao, _, hin⟩ := hv
  have HI := Lib.hid (And.intro hao hin)
  have hss : x.h.s.size ≤ 281474976710656 := by unfold xsize at hs; omega
  have hse : esize x.l ≤ 1048576 := by unfold xsize at hs; omega
  have HSE := Lib.hid hse
  obtain ⟨tv, htv⟩ : ∃ t, here x.h (elen x.l) = t := ⟨_, rfl⟩
  have Htv := Lib.hid htv
  have Hq : Hid (∀ w, EV w 0 x.l (.slice ao (elen x.l) cap) → Calls Tryz.prog 141 #[.agg #[.int .i64 x.h.k, .int .i64 x.h.n, .string x.h.s, .slice ao (elen x.l) cap]] w fun e w' => e = .returned (.bool tv) ∧ Below w.heap.size w w') := fun w h => by rw [← htv]; exact l3Here_is x hss w _ h
  have hb0 : Below w.heap.size w (w.alloc (.cells #[.int .i64 x.h.k, .int .i64 x.h.n, .string x.h.s, .slice ao (elen x.l) cap] 55)) := alloc_below _ _
  have hln : (elen x.l : Int) ≤ 1048576 := by have := elen_le x.l; have := enodes_le x.l; omega
  have hDI : (D : Int) ≤ 7 := by omega
  clear ih hao hin htv hss hs hse
  go_enter Tryz.func131, Tryz.ntmps131
  go_wp2_with fail
  refine (Hq.out _ (Hv.out.later hb0)).mono ?_
  rintro e w1 ⟨rfl, hb1⟩
  have B1 := hb0.trans (hb1.mono hb0.size)
  cases tv with
  | false =>
    have hno : Hid (¬ okAt (D + 1) x) := show ¬ okAt (D + 1) x by intro h; have := h.1; rw [toldX_succ, Htv.out] at this; cases this
    clear hb0 hb1
    go_wp2
    go_ret
    exact ⟨100, rfl, ⟨fun h => absurd h hno.out, fun _ => by omega, by omega⟩, B1⟩
  | true =>
    have c3 := box_cell (i := 3) hb1 rfl
    have C3 := Lib.hid c3
    have HB1 := Lib.hid B1
    clear hb0 hb1 Hq
    go_wp2
    go_loopw [5, 6] (fun y i wr => ∃ (R : EF) (k c : Nat), i = .int .i64 (k : Int) ∧ y = .int .i64 (c : Int) ∧ Hid (CntM w D x.l R k c b o) ∧ Hid (wr.cell? ⟨w.heap.size, 3, Option.none⟩ = some (.slice ao (elen x.l) cap)) ∧ Below w.heap.size w wr) (fun _ i _ => elen x.l - (RowKit.intOf i).toNat)
    case atStart => exact ⟨x.l, 0, 1, rfl, rfl, ⟨by simpa using HI.out.2, by omega, HSE.out, fun _ => ⟨rfl, by omega⟩, fun h => by omega, by omega⟩, C3, HB1.out⟩
    case round =>
      obtain ⟨R, k, c, rfl, rfl, hm, hc3, hbw⟩ := hrel
      clear c3 C3 B1 HB1
      have c3 := hc3.out
      have hcb := hm.out.big
      have hcI : (c : Int) ≤ 640 := by omega
      cases R with
      | nil =>
        have hk : ¬ (k : Int) < (elen x.l : Int) := by have := hm.out.num; simp only [elen] at this; omega
        go_wp2
        go_ret
        refine ⟨c, rfl, ⟨fun hok => ?_, fun hok => ?_, by omega⟩, hbw⟩
        · rcases Nat.lt_or_ge 60 c with h6 | h6
          · exact absurd ⟨by have := hok.1; rw [toldX_succ, Htv.out, Bool.true_and] at this; exact this, hok.2⟩ (hm.out.high h6)
          · have := (hm.out.low h6).2; simp only [enodes] at this; omega
        · rcases Nat.lt_or_ge 60 c with h6 | h6
          · exact h6
          · obtain ⟨g1, g2⟩ := hm.out.low h6
            exact absurd ⟨by rw [toldX_succ, Htv.out, g1]; rfl, by simp only [enodes] at g2; omega⟩ hok
      | node p q h l r =>
        have hlt : (k : Int) < (elen x.l : Int) := by have := hm.out.num; simp only [elen] at this; omega
        by_cases h6 : (c : Int) ≤ 60
        · have hne : ¬ x.l = .nil := by intro e; have := hm.out.num; rw [e] at this; simp only [elen] at this; omega
          obtain rfl : ao = some ⟨b, o, Option.none⟩ := HI.out.1.resolve_right hne
          obtain ⟨⟨a0, a1, a2, u, a3, hu⟩, _⟩ := EIn_node.1 (EIn_later hbw _ _ _ hm.out.at_)
          have hsz : xsize ⟨h, l⟩ ≤ 1048576 := by have := hm.out.siz; simp only [esize] at this; unfold xsize; simp only; omega
          have Hl := Lib.hid (fun w v => Hih.out ⟨h, l⟩ w v hsz)
          have HU := Lib.hid hu
          have Hd7 := Lib.hid hD7
          have h9 : (8 : Int) - (D : Int) + 1 = 9 - (D : Int) := by omega
          clear hne hsz hu hcb
          go_wp2_with fail
          refine (Hl.out _ u HU.out Hd7.out).mono ?_
          rintro e w2 ⟨rr, rfl, hrr, hb2⟩
          have hbw2 := hbw.trans (hb2.mono hbw.size)
          have hm2 := Lib.hid (hm.out.next (by omega) hrr)
          have hrb : (rr : Int) ≤ 640 := by have := hrr.big; omega
          have hc32 := Lib.hid (keeps hb2 c3)
          clear hb2 hbw a0 a1 a2 a3 hrr c3 hc3 h9
          go_wp2
          go_roundw
          case rel => exact ⟨r, k + 1, c + rr, by go_num, by go_num, hm2, hc32, hbw2⟩
          case measure => simp [RowKit.intOf]; omega
        · go_wp2
          go_ret
          have h6' : 60 < c := by omega
          refine ⟨c, rfl, ⟨fun hok => ?_, fun _ => h6', by omega⟩, hbw⟩
          exact absurd ⟨by have := hok.1; rw [toldX_succ, Htv.out, Bool.true_and] at this; exact this, hok.2⟩ (hm.out.high h6')
set_option maxRecDepth 100000 in
theorem l3Count_zero (x : X) (w : World) (v : Value) : Calls Tryz.prog 131 #[.agg #[.int .i64 x.h.k, .int .i64 x.h.n, .string x.h.s, v], .int .i64 9] w fun e w' => ∃ r : Nat, e = .returned (.int .i64 (r : Int)) ∧ Cnt 0 x r ∧ Below w.heap.size w w' := by
  go_enter Tryz.func131, Tryz.ntmps131
  go_wp2
  go_ret
  exact ⟨100, rfl, ⟨fun h => absurd h.1 (by simp [toldX]), fun _ => by omega, by omega⟩, alloc_below _ _⟩
theorem l3Count_all : ∀ (D : Nat), D ≤ 8 → ∀ (x : X) (w : World) (v : Value), xsize x ≤ 1048576 → EV w 0 x.l v → Calls Tryz.prog 131 #[.agg #[.int .i64 x.h.k, .int .i64 x.h.n, .string x.h.s, v], .int .i64 (9 - (D : Int))] w fun e w' => ∃ r : Nat, e = .returned (.int .i64 (r : Int)) ∧ Cnt D x r ∧ Below w.heap.size w w'
  | 0, _, x, w, v, _, _ => l3Count_zero x w v
  | D + 1, h, x, w, v, hs, hv => by
    have e : (9 : Int) - ((D + 1 : Nat) : Int) = 8 - (D : Int) := by omega
    rw [e]
    exact l3Count_step D (by omega) (fun x w v a b _ => l3Count_all D (by omega) x w v a b) x w v hs hv (by omega)
set_option maxRecDepth 100000 in
theorem spec_ExpOk (x : X) (hs : xsize x ≤ 1048576) (w : World) (v : Value) (hv : EV w 0 x.l v) :
    Calls Tryz.prog 111 #[.agg (xcells x v).toArray] w fun e w' => e = .returned (.bool (expOk x)) ∧ Below w.heap.size w w' := by
  show Calls Tryz.prog 111 #[.agg #[.int .i64 x.h.k, .int .i64 x.h.n, .string x.h.s, v]] w _
  have Hv := Lib.hid hv
  obtain ⟨va, vc, rfl⟩ := hv.shape
  have hb0 : Below w.heap.size w (w.alloc (.cells #[.int .i64 x.h.k, .int .i64 x.h.n, .string x.h.s, .slice va (elen x.l) vc] 55)) := alloc_below _ _
  have Hs := Lib.hid hs
  clear hv hs
  go_enter Tryz.func111, Tryz.ntmps111
  go_wp2_with fail
  refine (l3Count_all 8 (by omega) x _ _ Hs.out (Hv.out.later hb0)).mono ?_
  rintro e w1 ⟨r, rfl, hr, hb1⟩
  have B1 := hb0.trans (hb1.mono hb0.size)
  have Hr := Lib.hid hr
  clear hb0 hb1 hr
  by_cases hok : okAt 8 x
  · have h6 : (r : Int) ≤ 60 := by have := Hr.out.yes hok; have := hok.2; omega
    have Hok := Lib.hid hok
    clear hok
    go_wp2
    go_ret
    exact retB (by rw [expOk, Hok.out.1, decide_eq_true Hok.out.2]; rfl) B1
  · have h6 : ¬ (r : Int) ≤ 60 := by have := Hr.out.no hok; omega
    have hf : Hid (expOk x = false) := show expOk x = false by
      cases e : expOk x with
      | false => rfl
      | true =>
        unfold expOk at e
        rw [Bool.and_eq_true, decide_eq_true_eq] at e
        exact absurd e hok
    clear hok
    go_wp2
    go_ret
    exact retB (by rw [hf.out]; symm; first | rfl | (simp; omega)) B1
end Go.Proofs.YtkilmefpaojkfaaGreat
