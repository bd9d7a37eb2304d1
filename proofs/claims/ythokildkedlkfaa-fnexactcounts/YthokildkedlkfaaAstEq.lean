/-
  The contracts of eqExp, eqExpS where both are the same.
-/
import Derived.Test.YthokildkedlkfaaAstMem
import Derived.Deep.RegionWith
import Derived.Deep.Cut
import Derived.Deep.CutRange
namespace Go.Proofs.Ythokildkedlkfaa
open Go.RowKit Go.Lib
set_option linter.unusedSimpArgs false
set_option linter.unusedVariables false

theorem EV.drew {w : World} {lo : Nat} {F : EF} {v : Value} (h : EV w lo F v) : EV w.drew lo F v := h.same (Nat.le_refl _) (fun a v _ hc => hc)
theorem SV.drew {w : World} {lo : Nat} {F : SF} {v : Value} (h : SV w lo F v) : SV w.drew lo F v := h.same (Nat.le_refl _) (fun a v _ hc => hc)
set_option maxHeartbeats 1000000 in
theorem eqExp_of (x : X)
    (ih : ∀ (w : World) (va vb : Value), EV w 0 x.l va → EV w 0 x.l vb → Calls Try.prog 68 #[va, vb] w fun e w' => e = .returned (.bool true) ∧ Below w.heap.size w w')
    (w : World) (va vb : Value) (ha : EV w 0 x.l va) (hb : EV w 0 x.l vb) :
    Calls Try.prog 54 #[.agg #[.int .i64 x.h.k, .int .i64 x.h.n, .string x.h.s, va], .agg #[.int .i64 x.h.k, .int .i64 x.h.n, .string x.h.s, vb]] w fun e w' => e = .returned (.bool true) ∧ Below w.heap.size w w' := by
  have Hih := Lib.hid ih
  have Ha := Lib.hid ha
  have Hb := Lib.hid hb
  clear ih ha hb
  go_enter Try.func54, Try.ntmps54
  go_wp2_with fail
  have hb2 := (alloc_below w (.cells #[.int .i64 x.h.k, .int .i64 x.h.n, .string x.h.s, va] 26)).alloc (by simp) (.cells #[.int .i64 x.h.k, .int .i64 x.h.n, .string x.h.s, vb] 26)
  refine (Hih.out _ _ _ (Ha.out.later hb2) (Hb.out.later hb2)).mono ?_
  rintro e w1 ⟨rfl, hb1⟩
  have hB := hb2.trans (hb1.mono hb2.size)
  clear hb1 hb2
  go_wp2
  go_ret
  exact ⟨rfl, hB⟩
set_option maxHeartbeats 2000000 in
theorem eqExpS_step (F : EF) (hn : elen F ≤ 100000000)
    (ih : ∀ l : EF, enodes l < enodes F → ∀ (w : World) (va vb : Value), EV w 0 l va → EV w 0 l vb → Calls Try.prog 68 #[va, vb] w fun e w' => e = .returned (.bool true) ∧ Below w.heap.size w w')
    (w : World) (va vb : Value) (ha : EV w 0 F va) (hb : EV w 0 F vb) :
    Calls Try.prog 68 #[va, vb] w fun e w' => e = .returned (.bool true) ∧ Below w.heap.size w w' := by
  obtain ⟨b1, o1, ao1, cap1, rfl, hao1, _, hin1⟩ := ha
  obtain ⟨b2, o2, ao2, cap2, rfl, hao2, _, hin2⟩ := hb
  have Hih := Lib.hid ih
  clear ih
  go_enter Try.func68, Try.ntmps68
  go_wp2
  go_loopw [5] (fun i wr => ∃ (R : EF) (k : Nat), i = .int .i64 (k : Int) ∧ Hid (k + elen R = elen F ∧ enodes R ≤ enodes F ∧ EIn w 0 R b1 (o1 + k * 4) ∧ EIn w 0 R b2 (o2 + k * 4)) ∧ Below w.heap.size w wr) (fun i _ => elen F - (RowKit.intOf i).toNat)
  case atStart => exact ⟨F, 0, rfl, ⟨by omega, Nat.le_refl _, by simpa using hin1, by simpa using hin2⟩, Below.refl _ _⟩
  case round =>
    obtain ⟨R, k, rfl, hr, hbw⟩ := hrel
    obtain ⟨e1, e2, e3, e4⟩ := hr.out
    cases R with
    | nil =>
      have hk : ¬ (k : Int) < (elen F : Int) := by simp only [elen] at e1; omega
      go_wp2
      go_ret
      exact ⟨rfl, hbw⟩
    | node p q h l r =>
      have hlt : (k : Int) < (elen F : Int) := by simp only [elen] at e1; omega
      have hne : ¬ F = .nil := by intro e; subst e; simp only [elen] at e1; omega
      obtain rfl : ao1 = some ⟨b1, o1, Option.none⟩ := hao1.resolve_right hne
      obtain rfl : ao2 = some ⟨b2, o2, Option.none⟩ := hao2.resolve_right hne
      obtain ⟨⟨a0, a1, a2, u1, a3, hu1⟩, _⟩ := EIn_node.1 (EIn_later hbw _ _ _ e3)
      obtain ⟨⟨c0, c1, c2, u2, c3, hu2⟩, _⟩ := EIn_node.1 (EIn_later hbw _ _ _ e4)
      simp only [enodes] at e2
      have Hl := Lib.hid (fun w va vb => Hih.out l (by omega) w va vb)
      have He : Hid (k + 1 + elen r = elen F ∧ enodes r ≤ enodes F ∧ EIn w 0 r b1 (o1 + (k + 1) * 4) ∧ EIn w 0 r b2 (o2 + (k + 1) * 4)) := ⟨by simp only [elen] at e1; omega, by omega, by rw [show o1 + (k + 1) * 4 = o1 + k * 4 + 4 by omega]; exact (EIn_node.1 e3).2, by rw [show o2 + (k + 1) * 4 = o2 + k * 4 + 4 by omega]; exact (EIn_node.1 e4).2⟩
      have HU := Lib.hid (And.intro hu1 hu2)
      clear hr e1 e2 e3 e4 hin1 hin2 hne hao1 hao2 hu1 hu2
      go_wp2_with fail
      go_cut [26] from 11 to 26 (fun v wx => v = .bool false ∧ Below wr.heap.size wr wx)
      case first =>
        go_region_with (go_at_call 54; refine (eqExp_of ⟨h, l⟩ Hl.out _ _ _ HU.out.1.drew HU.out.2.drew).mono ?_; rintro e w1 ⟨rfl, hb1⟩)
        all_goals (try go_wp2_with fail)
        all_goals go_meet
        all_goals exact ⟨rfl, ⟨hb1.os, hb1.tape, hb1.output, hb1.size, hb1.block⟩⟩
      case rest =>
        obtain ⟨rfl, hb1⟩ := hcut
        have hbw2 := hbw.trans (hb1.mono hbw.size)
        clear a0 a1 a2 a3 c0 c1 c2 c3 hb1
        go_wp2
        go_roundw
        case rel => exact ⟨r, k + 1, by go_num, He.out, hbw2⟩
        case measure => simp [RowKit.intOf]; omega
theorem eqExpS_all : ∀ (n : Nat) (F : EF), enodes F < n → enodes F ≤ 100000000 → ∀ (w : World) (va vb : Value), EV w 0 F va → EV w 0 F vb → Calls Try.prog 68 #[va, vb] w fun e w' => e = .returned (.bool true) ∧ Below w.heap.size w w'
  | 0, _, h, _, _, _, _, _, _ => absurd h (by omega)
  | n + 1, F, h, hn, w, va, vb, ha, hb => eqExpS_step F (Nat.le_trans (elen_le F) hn) (fun l hl w va vb a b => eqExpS_all n l (by omega) (by omega) w va vb a b) w va vb ha hb
theorem eqExpS_is (F : EF) (hF : esize F ≤ 1048576) (w : World) (va vb : Value) (ha : EV w 0 F va) (hb : EV w 0 F vb) :
    Calls Try.prog 68 #[va, vb] w fun e w' => e = .returned (.bool true) ∧ Below w.heap.size w w' := eqExpS_all _ F (Nat.lt_succ_self _) (by have := enodes_le F; omega) w va vb ha hb
theorem eqExp_is (x : X) (hx : xsize x ≤ 1048576) (w : World) (va vb : Value) (ha : EV w 0 x.l va) (hb : EV w 0 x.l vb) :
    Calls Try.prog 54 #[.agg #[.int .i64 x.h.k, .int .i64 x.h.n, .string x.h.s, va], .agg #[.int .i64 x.h.k, .int .i64 x.h.n, .string x.h.s, vb]] w fun e w' => e = .returned (.bool true) ∧ Below w.heap.size w w' :=
  eqExp_of x (fun w va vb a b => eqExpS_is x.l (by unfold xsize at hx; omega) w va vb a b) w va vb ha hb
end Go.Proofs.Ythokildkedlkfaa
