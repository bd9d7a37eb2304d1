/-
  Texts in one: MarkApart, ParImpA, OrdUntil.
-/
import Derived.Test.YtkhccpjkajhnpaaGreatDoorP03ofParseExp
import Derived.Test.YtkhccpjkajhnpaaGreatDoorP11ofParseExp
import Derived.Test.YtkhccpjkajhnpaaGreatDoorProg
import Derived.Deep.RegionHeld
import Derived.WalkKit
/-
  laws.markExpS, markExp over a tree that lies apart: the marks stand in it.
-/
namespace Go.Proofs.YtkhccpjkajhnpaaGreatDoor
open Go.RowKit Go.Lib
set_option linter.unusedSimpArgs false
set_option linter.unusedVariables false

theorem rdF_gap {lo hi : Nat} {w w' : World} (h : Gap lo hi w w') {a : Addr} {v : Value} (hc : rdF w a = some v) (hb : a.block < lo ∨ hi ≤ a.block) : rdF w' a = some v := by
  obtain ⟨h1, h2⟩ := rdF_iff.1 hc
  have e := h.block a.block (lt_of_cellA h2) hb
  refine rdF_iff.2 ⟨?_, ?_⟩
  · unfold World.frozen? at h1 ⊢; simp only [e]; exact h1
  · unfold World.cell? at h2 ⊢; simp only [e]; exact h2
theorem rdF_set_other {w : World} {p a : Addr} {u v : Value} (hc : rdF w a = some v) (hne : a ≠ p) : rdF (w.setCell p u) a = some v := by
  obtain ⟨h1, h2⟩ := rdF_iff.1 hc
  exact rdF_iff.2 ⟨by simpa using h1, by rw [World.cell?_setCell_other _ _ _ _ (fun e => hne e.symm)]; exact h2⟩
theorem rdF_set_same {w : World} {p : Addr} {u v : Value} (hc : rdF w p = some v) : rdF (w.setCell p u) p = some u := by
  obtain ⟨h1, h2⟩ := rdF_iff.1 hc
  exact rdF_iff.2 ⟨by simpa using h1, World.cell?_setCell_same _ _ _ h2⟩
theorem Gap.set (w : World) (b o : Nat) (v : Value) : Gap b (b + 1) w (w.setCell ⟨b, o, Option.none⟩ v) := by
  have e : w.setCell ⟨b, o, Option.none⟩ v = w.setCells b o [v] := rfl
  rw [e]
  exact ⟨(below_sets (g := b) (B := b) [v] o (Below.refl _ w) (Nat.le_refl _)).os, (below_sets (g := b) (B := b) [v] o (Below.refl _ w) (Nat.le_refl _)).tape, (below_sets (g := b) (B := b) [v] o (Below.refl _ w) (Nat.le_refl _)).output, by rw [size_sets]; exact Nat.le_refl _, fun k hk hc => World.heap_setCells_other w b o [v] hk (by omega)⟩
/-- Three cells of a row may have turned, nothing else. -/
structure At3 (g o : Nat) (wr W : World) : Prop where
  gap : Gap g (g + 1) wr W
  keep : ∀ (a : Addr) u, rdF wr a = some u → (a.block ≠ g ∨ a.off < o ∨ o + 3 ≤ a.off) → rdF W a = some u
theorem At3.refl (g o : Nat) (w : World) : At3 g o w w := ⟨Gap.refl _ _ _, fun _ _ h _ => h⟩
theorem At3.later {g o : Nat} {w W W' : World} (h : At3 g o w W) (hb : Below W.heap.size W W') : At3 g o w W' := ⟨h.gap.trans (Gap.of _ _ hb), fun a u hc k => keepsF hb (h.keep a u hc k)⟩
theorem At3.set {g o i : Nat} {w W : World} (h : At3 g o w W) (hi : o ≤ i ∧ i < o + 3) (v : Value) : At3 g o w (W.setCell ⟨g, i, Option.none⟩ v) :=
  ⟨h.gap.trans (Gap.set _ _ _ _), fun a u hc k => rdF_set_other (h.keep a u hc k) (fun e => by subst e; rcases k with k | k | k; exact k rfl; exact absurd k (by show ¬ i < o; omega); exact absurd k (by show ¬ o + 3 ≤ i; omega))⟩
theorem store1 {P : Program} {ops : Array Oper} {rest : List Oper} {op : Oper} {a : Act} {w : World} {Q : Exit → Act → World → Prop} (hgd : op.guard = none) (x y : Operand) (ty : TypeId) (ho : op.op = .store ty x y)
    (b o : Nat) (v : Value) (hx : a.eval x = .pointer (some ⟨b, o, Option.none⟩)) (hy : a.eval y = v) (hvc : v.cells = #[v]) (hv1 : v.oneCell' = true) (hsz : (P.info? ty).map (·.size) = some 1) (hc : ∃ u, rdF w ⟨b, o, Option.none⟩ = some u)
    (h : ∀ W, w.setCell ⟨b, o, Option.none⟩ v = W → wpList P ops Q rest (a.put op.dst undef) W) : wpList P ops Q (op :: rest) a w := by
  obtain ⟨u, hc⟩ := hc
  obtain ⟨h1, h2⟩ := rdF_iff.1 hc
  refine wpList_plain hgd fun K hK => ?_
  unfold Oper.wp execOp
  simp only [ho, hx, hy, Instr.storeAt, Instr.sureAddr, Sem.run_bind, Sem.run_pure, Result.andThen_ok, run_store1 w b o ty v hvc hv1 ⟨_, h2⟩ h1 hsz]
  exact hK _ _ (h _ rfl)
/-- What is done of a row, and what is left of it. -/
def Done (wr : World) (lo g m : Nat) (F R : EF) (c mid j : Nat) : Prop := ∀ W : World, (∀ (a : Addr) u, (a.block = g ∧ a.off < j * 4) ∨ (lo ≤ a.block ∧ a.block < mid) → rdF wr a = some u → rdF W a = some u) → EA W (markF c R) mid g g (j * 4) → EA W (markF m F) lo g g 0
theorem Done.next {wr W5 w6 : World} {lo g m : Nat} {F : EF} {p q : Nat} {h : EH} {l r : EF} {c mid mid' j : Nat} {u : Value} (hD : Done wr lo g m F (.node p q h l r) c mid j) (hm1 : mid ≤ mid') (hm2 : mid' ≤ g) (hlo : lo ≤ mid) (a3 : At3 g (j * 4) wr W5)
    (q0 : rdF W5 ⟨g, j * 4, Option.none⟩ = some (.int .i64 (c : Int))) (q1 : rdF W5 ⟨g, j * 4 + 1, Option.none⟩ = some (.int .i64 ((c : Int) + 1))) (q2 : rdF W5 ⟨g, j * 4 + 2, Option.none⟩ = some (.string ⟨(mtext (c + 2)).toArray⟩)) (q3 : rdF W5 ⟨g, j * 4 + 3, Option.none⟩ = some u)
    (hg : Gap mid mid' W5 w6) (hl : EVA w6 mid mid' (markF (c + 3) l) u) : Done w6 lo g m F r (c + 3 + 3 * enodes l) mid' (j + 1) := fun W hW hr => by
  refine hD W (fun a z hk hc => ?_) ?_
  · refine hW a z (by omega) (rdF_gap hg (a3.keep a z hc (by omega)) (by omega))
  · have k : ∀ (i : Nat) (z : Value), i < 4 → rdF W5 ⟨g, j * 4 + i, Option.none⟩ = some z → rdF W ⟨g, j * 4 + i, Option.none⟩ = some z := fun i z hi hc => hW _ z (.inl ⟨rfl, by show j * 4 + i < (j + 1) * 4; omega⟩) (rdF_gap hg hc (.inr hm2))
    refine ⟨k 0 _ (by omega) q0, k 1 _ (by omega) q1, k 2 _ (by omega) q2, u, mid', k 3 _ (by omega) q3, hm1, hm2, ?_, ?_⟩
    · exact hl.same (Nat.le_refl _) (Nat.le_refl _) fun a z h1 h2 hc => hW a z (.inr ⟨by omega, h2⟩) hc
    · rw [show j * 4 + 4 = (j + 1) * 4 by omega]; exact hr
theorem EA_keep {w w' : World} {lo g : Nat} {F : EF} {o : Nat} (h : EA w F lo g g o) (hlo : lo ≤ g) (hs : ∀ (a : Addr) u, (a.block = g ∧ o ≤ a.off) ∨ (lo ≤ a.block ∧ a.block < g) → rdF w a = some u → rdF w' a = some u) : EA w' F lo g g o := by
  induction F generalizing lo o with
  | nil => trivial
  | node p q hh l r il ir =>
    obtain ⟨h0, h1, h2, v, mid, h3, m1, m2, h4, h5⟩ := h
    refine ⟨hs _ _ (.inl ⟨rfl, Nat.le_refl _⟩) h0, hs _ _ (.inl ⟨rfl, Nat.le_succ _⟩) h1, hs _ _ (.inl ⟨rfl, by show o ≤ o + 2; omega⟩) h2, v, mid, hs _ _ (.inl ⟨rfl, by show o ≤ o + 3; omega⟩) h3, m1, m2, ?_, ir h5 m2 (fun a u k hc => hs a u (by omega) hc)⟩
    exact (EVA.same (w' := w') (show EVA w lo mid l v from h4) (Nat.le_refl _) (Nat.le_refl _) fun a u k1 k2 hc => hs a u (.inr ⟨k1, by omega⟩) hc)
set_option maxHeartbeats 2000000 in
set_option maxRecDepth 100000 in
theorem markExpSA_step (F : EF)
    (ih : ∀ l : EF, enodes l < enodes F → ∀ (mi : Int) (m lo hi : Nat) (w : World) (v : Value), mi = (m : Int) → 1 ≤ m → m + 3 * enodes l ≤ 20000000 → EVA w lo hi l v → Calls Tryz.prog 87 #[v, .int .i64 mi] w fun e w' => e = .returned (.int .i64 ((m : Int) + 3 * (enodes l : Int))) ∧ EVA w' lo hi (markF m l) v ∧ Gap lo hi w w')
    (m lo hi : Nat) (w : World) (v : Value) (h1 : 1 ≤ m) (hm : m + 3 * enodes F ≤ 20000000) (hv : EVA w lo hi F v) :
    Calls Tryz.prog 87 #[v, .int .i64 (m : Int)] w fun e w' => e = .returned (.int .i64 ((m : Int) + 3 * (enodes F : Int))) ∧ EVA w' lo hi (markF m F) v ∧ Gap lo hi w w' := by
  rcases hv with ⟨rfl, a, cap, rfl⟩ | ⟨g, cap, g1, g2, rfl, hin⟩
  · clear ih
    go_enter Tryz.func87, Tryz.ntmps87
    go_wp2
    go_loopw [1, 5] (fun x i wr => i = .int .i64 0 ∧ x = .int .i64 (m : Int) ∧ wr = w) (fun _ _ _ => 0)
    case atStart => exact ⟨rfl, rfl, rfl⟩
    case round =>
      obtain ⟨rfl, rfl, rfl⟩ := hrel
      go_wp2
      go_ret
      exact ⟨by simp [enodes], .inl ⟨rfl, a, cap, rfl⟩, Gap.refl _ _ _⟩
  have Hih := Lib.hid ih
  have hlenF := elen_le F
  clear ih
  go_enter Tryz.func87, Tryz.ntmps87
  go_wp2
  go_loopw [1, 5] (fun x i wr => ∃ (R : EF) (j c mid : Nat), i = .int .i64 (j : Int) ∧ x = .int .i64 (c : Int) ∧ Hid (j + elen R = elen F ∧ c + 3 * enodes R = m + 3 * enodes F ∧ enodes R ≤ enodes F ∧ m ≤ c ∧ lo ≤ mid ∧ mid ≤ g) ∧ Hid (EA wr R mid g g (j * 4)) ∧ Hid (Gap lo hi w wr) ∧ Hid (Done wr lo g m F R c mid j)) (fun _ i _ => elen F - (RowKit.intOf i).toNat)
  case atStart => exact ⟨F, 0, m, lo, rfl, rfl, ⟨by omega, by omega, by omega, by omega, by omega, by omega⟩, (by show EA w F lo g g (0 * 4); simpa using hin), Gap.refl _ _ _, (fun W _ h => by simpa using h)⟩
  case round =>
    obtain ⟨R, j, c, mid, rfl, rfl, hr, hek, GP, DN⟩ := hrel
    obtain ⟨e1, e2, e3, e4, e5, e6⟩ := hr.out
    cases R with
    | nil =>
      have hk : ¬ (j : Int) < (elen F : Int) := by simp only [elen] at e1; omega
      simp only [enodes] at e2
      have HC : Hid ((c : Int) = (m : Int) + 3 * (enodes F : Int)) := Lib.hid (by omega)
      have HE : Hid (EVA wr lo hi (markF m F) (.slice (some ⟨g, 0, Option.none⟩) (elen F) cap)) := Lib.hid (.inr ⟨g, cap, g1, g2, by rw [elen_markF], DN.out wr (fun _ _ _ h => h) trivial⟩)
      go_wp2
      go_ret
      exact ⟨congrArg (fun z => Ending.returned (.int .i64 z)) HC.out, HE.out, GP.out⟩
    | node p q h l r =>
      have hlt : (j : Int) < (elen F : Int) := by simp only [elen] at e1; omega
      obtain ⟨c0, c1, c2, u, mid', c3, m1, m2, hl, hrr⟩ := hek.out
      simp only [enodes] at e2 e3
      have Hl := Lib.hid (Hih.out l (by omega))
      have He : Hid (j + 1 + elen r = elen F ∧ enodes r ≤ enodes F ∧ c + 3 + 3 * enodes l + 3 * enodes r = m + 3 * enodes F ∧ lo ≤ mid') := ⟨by simp only [elen] at e1; omega, by omega, by omega, by omega⟩
      have hcI : (c : Int) ≤ 20000000 - 3 - 3 * (enodes l : Int) := by omega
      have X0 := Lib.hid (show ∃ z, rdF wr ⟨g, j * 4, Option.none⟩ = some z from ⟨_, c0⟩)
      have X1 := Lib.hid (show ∃ z, rdF wr ⟨g, j * 4 + 1, Option.none⟩ = some z from ⟨_, c1⟩)
      have X2 := Lib.hid c2
      have X3 := Lib.hid c3
      have HL := Lib.hid (show EVA wr mid mid' l u from hl)
      have HR := Lib.hid hrr
      have A0 := Lib.hid (At3.refl g (j * 4) wr)
      clear hr e1 e2 e3 hin hek hrr hl c0 c1 c2 c3
      go_wp2_with (first | (refine store1 rfl _ _ 3 rfl g (j * 4) (.int .i64 (c : Int)) rfl rfl rfl rfl sizeI1 X0.out ?_; intro W1 hW1; have A1 := Lib.hid (show At3 g (j * 4) wr W1 by rw [← hW1]; exact A0.out.set ⟨by omega, by omega⟩ _); have Y0 := Lib.hid (show rdF W1 ⟨g, j * 4, Option.none⟩ = some (.int .i64 (c : Int)) by rw [← hW1]; obtain ⟨_, hx⟩ := X0.out; exact rdF_set_same hx); have Y1 := Lib.hid (show ∃ z, rdF W1 ⟨g, j * 4 + 1, Option.none⟩ = some z by rw [← hW1]; obtain ⟨_, hx⟩ := X1.out; exact ⟨_, rdF_set_other hx (by intro e; injection e with _ e; omega)⟩); have Y2 := Lib.hid (show rdF W1 ⟨g, j * 4 + 2, Option.none⟩ = some (.string h.s) by rw [← hW1]; exact rdF_set_other X2.out (by intro e; injection e with _ e; omega)); clear hW1) | (refine store1 rfl _ _ 3 rfl g (j * 4 + 1) (.int .i64 ((c : Int) + 1)) rfl rfl rfl rfl sizeI1 Y1.out ?_; intro W2 hW2; have A2 := Lib.hid (show At3 g (j * 4) wr W2 by rw [← hW2]; exact A1.out.set ⟨by omega, by omega⟩ _); have Z0 := Lib.hid (show rdF W2 ⟨g, j * 4, Option.none⟩ = some (.int .i64 (c : Int)) by rw [← hW2]; exact rdF_set_other Y0.out (by intro e; injection e with _ e; omega)); have Z1 := Lib.hid (show rdF W2 ⟨g, j * 4 + 1, Option.none⟩ = some (.int .i64 ((c : Int) + 1)) by rw [← hW2]; obtain ⟨_, hx⟩ := Y1.out; exact rdF_set_same hx); have Z2 := Lib.hid (show rdF W2 ⟨g, j * 4 + 2, Option.none⟩ = some (.string h.s) by rw [← hW2]; exact rdF_set_other Y2.out (by intro e; injection e with _ e; omega)); clear hW2))
      refine (markTextE ((c : Int) + 1 + 1) (c + 2) (by omega) (by omega) (by omega) _).mono ?_
      rintro e w4 ⟨rfl, hb4⟩
      have A4 := Lib.hid (A2.out.later hb4)
      have V0 := Lib.hid (keepsF hb4 Z0.out)
      have V1 := Lib.hid (keepsF hb4 Z1.out)
      have V2 := Lib.hid (keepsF hb4 Z2.out)
      clear hb4 A2 Z0 Z1 Z2 A1 Y0 Y1 Y2 A0
      go_wp2_with (refine store1 rfl _ _ 9 rfl g (j * 4 + 2) (.string ⟨(mtext (c + 2)).toArray⟩) rfl rfl rfl rfl sizeT1 ⟨_, V2.out⟩ ?_; intro W5 hW5; have A5 := Lib.hid (show At3 g (j * 4) wr W5 by rw [← hW5]; exact A4.out.set ⟨by omega, by omega⟩ _); have U0 := Lib.hid (show rdF W5 ⟨g, j * 4, Option.none⟩ = some (.int .i64 (c : Int)) by rw [← hW5]; exact rdF_set_other V0.out (by intro e; injection e with _ e; omega)); have U1 := Lib.hid (show rdF W5 ⟨g, j * 4 + 1, Option.none⟩ = some (.int .i64 ((c : Int) + 1)) by rw [← hW5]; exact rdF_set_other V1.out (by intro e; injection e with _ e; omega)); have U2 := Lib.hid (show rdF W5 ⟨g, j * 4 + 2, Option.none⟩ = some (.string ⟨(mtext (c + 2)).toArray⟩) by rw [← hW5]; exact rdF_set_same V2.out); clear hW5; have U3 := Lib.hid (A5.out.keep _ _ X3.out (.inr (.inr (by show j * 4 + 3 ≤ j * 4 + 3; omega)))); have q3 := (rdF_iff.1 U3.out).2)
      have HL5 : Hid (EVA W5 mid mid' l u) := Lib.hid (HL.out.same (Nat.le_refl _) (Nat.le_refl _) fun a z k1 k2 hc => A5.out.keep a z hc (.inl (by omega)))
      refine (Hl.out ((c : Int) + 1 + 1 + 1) (c + 3) mid mid' _ u (by omega) (by omega) (by omega) HL5.out).mono ?_
      rintro e w6 ⟨rfl, e6', g6⟩
      have D6 := Lib.hid (DN.out.next (l := l) m1 m2 e5 A5.out U0.out U1.out U2.out U3.out g6 e6')
      have G6 : Hid (Gap lo hi w w6) := Lib.hid (GP.out.trans ((A5.out.gap.wider (by omega) (by omega)).trans (g6.wider (by omega) (by omega))))
      have R6 : Hid (EA w6 r mid' g g ((j + 1) * 4)) := Lib.hid (by
        rw [show (j + 1) * 4 = j * 4 + 4 by omega]
        refine EA_keep HR.out m2 fun a z k hc => rdF_gap g6 (A5.out.keep a z hc (by omega)) (by omega))
      clear g6 e6' q3 HL5
      go_wp2
      go_roundw
      case rel => exact ⟨r, j + 1, c + 3 + 3 * enodes l, mid', by go_num, by go_num, ⟨He.out.1, He.out.2.2.1, He.out.2.1, by omega, He.out.2.2.2, m2⟩, R6, G6, D6⟩
      case measure => simp [RowKit.intOf]; omega
end Go.Proofs.YtkhccpjkajhnpaaGreatDoor
/-
  The landed reader: the contracts of named, atom.
-/
namespace Go.Proofs.YtkhccpjkajhnpaaGreatDoor
open Go.RowKit Go.Lib
set_option linter.unusedSimpArgs false
set_option linter.unusedVariables false

set_option maxHeartbeats 2000000 in
set_option maxRecDepth 100000 in
theorem named_of (b : Nat) (v : Value) (ts : List T) (d : Nat) (around : Int) (ha : 0 ≤ around) (ha2 : around ≤ 30) (ih : SumI b v ts d (around + 1)) (s : List UInt8) (p : Nat) (w : World) (st : RdI b v ts p w) :
    Calls Tryz.prog 225 #[.pointer (some ⟨b, 0, none⟩), .string (bs s), .int .i64 around] w (PostI b v ts (nameP (sumP d) s (ts.drop p)) p w) := by
  have Hih := Lib.hid ih
  clear ih
  obtain ⟨res, Hres⟩ : ∃ r, Hid (nameP (sumP d) s (ts.drop p) = r) := ⟨_, rfl⟩
  rw [Hres.out]
  have hbN := st.lt
  have b0 := alloc_below w (.cells zero4 33)
  have S0 := Lib.hid (st.later b0)
  have T0 := Lib.hid (newthere4 w 33)
  have W0 := Lib.hid (Wr.of_below (b := b) b0)
  have Z0 : Hid (w.heap.size + 1 ≤ (w.alloc (.cells zero4 33)).heap.size) := Lib.hid (by rw [World.size_alloc]; exact Nat.le_refl _)
  have hw : IntKind.i64.wrap (around + 1) = around + 1 := wrap_small _ (by omega) (by omega)
  clear st b0
  go_enter Tryz.func225, Tryz.ntmps225
  obtain ⟨R1, HR1⟩ : ∃ R, Hid (takesR [91] (ts.drop p) = R) := ⟨_, rfl⟩
  have E1 := Lib.hid (eat_takes HR1.out)
  go_wp2_with fail
  refine (takes_is b v ts p [91] R1 HR1.out _ S0.out).mono ?_
  rintro e m1 ⟨rfl, s1, h1⟩
  have W1 := Lib.hid (W0.out.trans h1)
  have T1 := Lib.hid (there_wr T0.out h1 (by omega))
  have Z1 := Lib.hid (Nat.le_trans Z0.out h1.size)
  cases R1 with
  | false =>
    have S1 : Hid (RdI b v ts p m1) := Lib.hid s1
    have HN : Hid (res = some (varX s, ts.drop p)) := Lib.hid (by rw [← Hres.out]; unfold nameP; rw [E1.out]; rfl)
    have V1 := Lib.hid (EVA.nil m1 (w.heap.size + 1) m1.heap.size Option.none 0)
    clear s1 h1 HR1 E1 Hres
    go_wp2_with ((refine store_abs rfl 33 _ _ rfl w.heap.size 0 (xcells (varX s) (.slice Option.none 0 0)).toArray rfl rfl T1.out sizeIE2 (oneX (varX s) (.slice Option.none 0 0) V1.out.isOne) ?_; intro W9 hW9))
    have HF := PostI.close (p := p) hbN T1.out V1.out (by omega) S1.out W1.out (Nat.le_refl _) HN.out hW9
    have hlv := run_loadVar_mid W9 w.heap.size 0 _ _ _ HF.2 Tryz.underlying33 rfl sizeIE2
    refine bodyPost_ret (v := .agg (xcells (varX s) (.slice Option.none 0 0)).toArray) ?_ rfl HF.1
    simp [results, Tryz.results225, asAddr, hlv, Act.put]
    try rfl
  | true =>
    have S1 : Hid (RdI b v ts (p + 1) m1) := Lib.hid s1
    clear s1 h1 HR1
    go_wp2_with fail
    refine (Hih.out (p + 1) _ S1.out).mono ?_
    rintro e m2 ⟨hh, ⟨x2, u2, p2, r2, rfl, l2, s2, e2⟩ | ⟨r2, rfl⟩⟩
    rotate_left
    · have HN := Lib.hid (show res = none by rw [← Hres.out]; unfold nameP; rw [E1.out]; simp only [if_true]; rw [r2])
      have HW := Lib.hid (W1.out.trans hh)
      clear hh
      go_wp2
      exact ⟨rfl, HW.out, .inr ⟨HN.out, rfl⟩⟩
    have h2 := hh
    clear hh
    obtain ⟨ua, uc, rfl⟩ := e2.shape
    have o2 := oneX x2 (.slice ua (elen x2.l) uc) e2.isOne
    have S2 := Lib.hid s2
    have W2 := Lib.hid (W1.out.trans h2)
    have T2 := Lib.hid (there_wr T1.out h2 (by omega))
    have Z2 := Lib.hid h2.size
    have V2 := Lib.hid e2
    have L2 := Lib.hid l2
    have R2 := Lib.hid r2
    clear s2 h2 e2 l2 r2 S1 W1 T1
    go_wp2_with ((refine store_abs rfl 33 _ _ rfl m2.heap.size 0 (xcells x2 (.slice ua (elen x2.l) uc)).toArray rfl rfl (newthere4 m2 _) sizeIE2 o2 ?_; intro W hW; have HW2 := Lib.hid (newblk4 x2 (.slice ua (elen x2.l) uc) hW); clear hW))
    have S3 := Lib.hid (S2.out.later HW2.out.2)
    have W3 := Lib.hid (W2.out.trans (.of_below HW2.out.2))
    have T3 := Lib.hid (there_later T2.out HW2.out.2)
    have V3 := Lib.hid (V2.out.later HW2.out.2)
    have Z3 : Hid (m2.heap.size < W.heap.size) := Lib.hid (lt_of_cellA (HW2.out.1 0 _ rfl))
    have X3 := Lib.hid HW2.out.1
    obtain ⟨n2, hn2⟩ : ∃ n, m2.heap.size = n := ⟨_, rfl⟩
    rw [hn2] at V3 Z2 Z3 X3 ⊢
    clear S2 W2 T2 V2 HW2 hn2
    obtain ⟨RC, HRC⟩ : ∃ R, Hid (takesR [93] (ts.drop p2) = R) := ⟨_, rfl⟩
    have EC := Lib.hid (eat_takes HRC.out)
    refine (must_is b v ts p2 [93] RC HRC.out _ S3.out).mono ?_
    rintro e m4 ⟨hh, ⟨rfl, rfl, s4⟩ | ⟨rfl, rfl⟩⟩
    rotate_left
    · have HN := Lib.hid (show res = none by rw [← Hres.out]; unfold nameP; rw [E1.out]; simp only [if_true]; rw [R2.out]; simp only; rw [EC.out]; rfl)
      have HW := Lib.hid (W3.out.trans hh)
      clear hh
      go_wp2
      exact ⟨rfl, HW.out, .inr ⟨HN.out, rfl⟩⟩
    have h4 := hh
    clear hh
    have HN : Hid (res = some (atX s x2, ts.drop (p2 + 1))) := Lib.hid (by rw [← Hres.out]; unfold nameP; rw [E1.out]; simp only [if_true]; rw [R2.out]; simp only; rw [EC.out]; rfl)
    have rx : m4.rangeAt n2 0 [.int .i64 x2.h.k, .int .i64 x2.h.n, .string x2.h.s, .slice ua (elen x2.l) uc] := range_wr5 X3.out h4 (by have := Z1.out; have := Z2.out; omega)
    have b5 := alloc_below m4 (.cells ([.int .i64 x2.h.k, .int .i64 x2.h.n, .string x2.h.s, .slice ua (elen x2.l) uc] : List Value).toArray 33)
    have Z4 : Hid (n2 < m4.heap.size) := Lib.hid (Nat.lt_of_lt_of_le Z3.out h4.size)
    have S5 := Lib.hid (s4.later b5)
    have W5 := Lib.hid ((W3.out.trans h4).trans (.of_below b5))
    have T5 := Lib.hid (there_later (there_wr T3.out h4 (by omega)) b5)
    have V5 : Hid (EVA (m4.alloc (.cells ([.int .i64 x2.h.k, .int .i64 x2.h.n, .string x2.h.s, .slice ua (elen x2.l) uc] : List Value).toArray 33)) (w.heap.size + 1) (m4.alloc (.cells ([.int .i64 x2.h.k, .int .i64 x2.h.n, .string x2.h.s, .slice ua (elen x2.l) uc] : List Value).toArray 33)).heap.size (atX s x2).l (.slice (some ⟨m4.heap.size, 0, Option.none⟩) 1 1)) := Lib.hid (EVA.one (((V3.out.wr h4 (by have := Z1.out; omega)).later b5).wide (by have := Z1.out; omega) (by have := Z4.out; omega)) (by have := Z1.out; have := Z2.out; have := Z4.out; omega) (by rw [World.size_alloc]; omega) (rgF_of (last_range _ _ _ _ rfl) (last_there _ _ _ _ rfl) (Nat.le_refl _)))
    have LL : Hid (p ≤ p2 + 1) := Lib.hid (by have := L2.out; omega)
    clear s4 h4 S3 W3 T3 V3 X3 b5 HRC E1 EC R2 Hres
    go_wp2_with (first | (refine wpList_load_mid rfl 33 _ rfl n2 0 rfl _ _ rx Tryz.underlying33 rfl sizeIE2 ?_) | (refine store_abs rfl 33 _ _ rfl w.heap.size 0 (xcells (atX s x2) (.slice (some ⟨m4.heap.size, 0, Option.none⟩) 1 1)).toArray rfl rfl T5.out sizeIE2 (oneX (atX s x2) (.slice (some ⟨m4.heap.size, 0, Option.none⟩) 1 1) V5.out.isOne) ?_; intro W9 hW9))
    have HF := PostI.close (p := p) hbN T5.out V5.out (by omega) S5.out W5.out LL.out HN.out hW9
    have hlv := run_loadVar_mid W9 w.heap.size 0 _ _ _ HF.2 Tryz.underlying33 rfl sizeIE2
    refine bodyPost_ret (v := .agg (xcells (atX s x2) (.slice (some ⟨m4.heap.size, 0, Option.none⟩) 1 1)).toArray) ?_ rfl HF.1
    simp [results, Tryz.results225, asAddr, hlv, Act.put]
    try rfl
theorem newblkT {w W : World} {ty : TypeId} (t : T) (hW : (w.alloc (.cells #[.int .i64 0, .string ⟨#[]⟩, .int .i64 0] ty)).setCells w.heap.size 0 (tcells t) = W) : W.rangeAt w.heap.size 0 (tcells t) ∧ Below w.heap.size w W := newblk (arr := #[.int .i64 0, .string ⟨#[]⟩, .int .i64 0]) (Nat.le_refl 3) hW
theorem newthereT (w : World) (ty : TypeId) : (w.alloc (.cells #[.int .i64 0, .string ⟨#[]⟩, .int .i64 0] ty)).there w.heap.size 0 3 := blk_there (arr := #[.int .i64 0, .string ⟨#[]⟩, .int .i64 0]) (t := ty) (by show (w.heap.push _)[w.heap.size]? = _; simp) (Nat.le_refl 3)
theorem takes_true {s : List UInt8} {ts : List T} {p : Nat} (h : takesR s (ts.drop p) = true) : ∃ t, ts[p]? = some t ∧ t.s = s := by
  by_cases hlt : p < ts.length
  · have ht : ts[p]? = some ts[p] := List.getElem?_eq_getElem hlt
    rw [takesR_at ht] at h
    exact ⟨_, ht, of_decide_eq_true h⟩
  · rw [takesR_end (by omega)] at h; cases h
theorem takes_false {s : List UInt8} {ts : List T} {p : Nat} {t : T} (h : takesR s (ts.drop p) = false) (ht : ts[p]? = some t) : ¬ t.s = s := by rw [takesR_at ht] at h; exact of_decide_eq_false h
theorem mem_at {ts : List T} {p : Nat} {t : T} (h : ts[p]? = some t) : t ∈ ts := List.mem_of_getElem? h
theorem atom_group {sub : List T → Rest} {ts : List T} (hG : ∀ t ∈ ts, Good t) {p : Nat} (h : takesR [40] (ts.drop p) = true) : atomP sub (ts.drop p) = groupP sub (ts.drop (p + 1)) := by
  obtain ⟨t, ht, hs⟩ := takes_true h
  have hk := good_mark (hG t (mem_at ht)) (c := 40) (by decide) hs
  rw [dropT ht]
  show (if _ then _ else _) = _
  rw [if_neg (by omega), if_neg (by omega), if_pos hs]
theorem atom_min {sub : List T → Rest} {ts : List T} (hG : ∀ t ∈ ts, Good t) {p : Nat} (h : takesR [109, 105, 110] (ts.drop p) = true) : atomP sub (ts.drop p) = choiceP sub 7 (ts.drop (p + 1)) := by
  obtain ⟨t, ht, hs⟩ := takes_true h
  have hk := good_kept (hG t (mem_at ht)) (by rw [hs]; decide)
  rw [dropT ht]
  show (if _ then _ else _) = _
  rw [if_neg (by omega), if_neg (by omega), if_neg (by rw [hs]; decide), if_pos hs]
theorem atom_max {sub : List T → Rest} {ts : List T} (hG : ∀ t ∈ ts, Good t) {p : Nat} (h : takesR [109, 97, 120] (ts.drop p) = true) : atomP sub (ts.drop p) = choiceP sub 8 (ts.drop (p + 1)) := by
  obtain ⟨t, ht, hs⟩ := takes_true h
  have hk := good_kept (hG t (mem_at ht)) (by rw [hs]; decide)
  rw [dropT ht]
  show (if _ then _ else _) = _
  rw [if_neg (by omega), if_neg (by omega), if_neg (by rw [hs]; decide), if_neg (by rw [hs]; decide), if_pos hs]
theorem atom_no {sub : List T → Rest} {ts : List T} {p : Nat} {t : T} (ht : ts[p]? = some t) (h1 : takesR [40] (ts.drop p) = false) (h2 : takesR [109, 105, 110] (ts.drop p) = false) (h3 : takesR [109, 97, 120] (ts.drop p) = false) (k2 : ¬ t.k = 2) (k1 : ¬ t.k = 1) : atomP sub (ts.drop p) = none := by
  rw [dropT ht]
  show (if _ then _ else _) = _
  rw [if_neg k2, if_neg k1, if_neg (takes_false h1 ht), if_neg (takes_false h2 ht), if_neg (takes_false h3 ht)]
theorem atom_num {sub : List T → Rest} {ts : List T} {p : Nat} {t : T} (ht : ts[p]? = some t) (k2 : t.k = 2) : atomP sub (ts.drop p) = some (numX t.n, ts.drop (p + 1)) := by rw [dropT ht]; exact atomP_2 k2
theorem atom_name {sub : List T → Rest} {ts : List T} {p : Nat} {t : T} (ht : ts[p]? = some t) (k2 : ¬ t.k = 2) (k1 : t.k = 1) : atomP sub (ts.drop p) = nameP sub t.s (ts.drop (p + 1)) := by
  rw [dropT ht]
  show (if _ then _ else _) = _
  rw [if_neg k2, if_pos k1]
theorem atom_end {sub : List T → Rest} {ts : List T} {p : Nat} (h : ts.length ≤ p) : atomP sub (ts.drop p) = none := by rw [List.drop_of_length_le h]; rfl
set_option maxHeartbeats 4000000 in
set_option maxRecDepth 100000 in
theorem atom_of (b : Nat) (v : Value) (ts : List T) (hG : ∀ t ∈ ts, Good t) (d : Nat) (around : Int) (ha : 0 ≤ around) (ha2 : around ≤ 30) (ih : SumI b v ts d (around + 1)) (p : Nat) (w : World) (st : RdI b v ts p w) :
    Calls Tryz.prog 200 #[.pointer (some ⟨b, 0, none⟩), .int .i64 around] w (PostI b v ts (atomP (sumP d) (ts.drop p)) p w) := by
  have Hih := Lib.hid ih
  have HG := Lib.hid hG
  clear ih hG
  obtain ⟨res, Hres⟩ : ∃ r, Hid (atomP (sumP d) (ts.drop p) = r) := ⟨_, rfl⟩
  rw [Hres.out]
  have hbN := st.lt
  have b0 := alloc_below w (.cells zero4 33)
  have S0 := Lib.hid (st.later b0)
  have T0 := Lib.hid (newthere4 w 33)
  have W0 := Lib.hid (Wr.of_below (b := b) b0)
  have Z0 : Hid (w.heap.size + 1 ≤ (w.alloc (.cells zero4 33)).heap.size) := Lib.hid (by rw [World.size_alloc]; exact Nat.le_refl _)
  have hw : IntKind.i64.wrap (around + 1) = around + 1 := wrap_small _ (by omega) (by omega)
  clear st b0
  go_enter Tryz.func200, Tryz.ntmps200
  obtain ⟨R1, HR1⟩ : ∃ R, Hid (takesR [40] (ts.drop p) = R) := ⟨_, rfl⟩
  go_wp2_with fail
  refine (takes_is b v ts p [40] R1 HR1.out _ S0.out).mono ?_
  rintro e m1 ⟨rfl, s1, h1⟩
  have W1 := Lib.hid (W0.out.trans h1)
  have T1 := Lib.hid (there_wr T0.out h1 (by omega))
  have Z1 := Lib.hid (Nat.le_trans Z0.out h1.size)
  cases R1 with
  | true =>
    have S1 : Hid (RdI b v ts (p + 1) m1) := Lib.hid s1
    have HA := Lib.hid ((atom_group (sub := sumP d) HG.out HR1.out).symm.trans Hres.out)
    clear s1 h1 HR1 Hres
    go_wp2_with fail
    refine (Hih.out (p + 1) _ S1.out).mono ?_
    rintro e m2 ⟨hh, ⟨x2, u2, p2, r2, rfl, l2, s2, e2⟩ | ⟨r2, rfl⟩⟩
    rotate_left
    · have HN := Lib.hid (show res = none by rw [← HA.out]; unfold groupP; rw [r2])
      have HW := Lib.hid (W1.out.trans hh)
      clear hh
      go_wp2
      exact ⟨rfl, HW.out, .inr ⟨HN.out, rfl⟩⟩
    have h2 := hh
    clear hh
    have o2 := oneX x2 u2 e2.isOne
    have S2 := Lib.hid s2
    have W2 := Lib.hid (W1.out.trans h2)
    have T2 := Lib.hid (there_wr T1.out h2 (by omega))
    have Z2 := Lib.hid h2.size
    have V2 := Lib.hid e2
    have L2 := Lib.hid l2
    have R2 := Lib.hid r2
    clear s2 h2 e2 l2 r2 S1 W1 T1
    go_wp2_with ((refine store_abs rfl 33 _ _ rfl m2.heap.size 0 (xcells x2 u2).toArray rfl rfl (newthere4 m2 _) sizeIE2 o2 ?_; intro W hW; have HW2 := Lib.hid (newblk4 x2 u2 hW); clear hW))
    have S3 := Lib.hid (S2.out.later HW2.out.2)
    have W3 := Lib.hid (W2.out.trans (.of_below HW2.out.2))
    have T3 := Lib.hid (there_later T2.out HW2.out.2)
    have V3 := Lib.hid (V2.out.later HW2.out.2)
    have Z3 : Hid (m2.heap.size < W.heap.size) := Lib.hid (lt_of_cellA (HW2.out.1 0 _ rfl))
    have X3 := Lib.hid HW2.out.1
    obtain ⟨n2, hn2⟩ : ∃ n, m2.heap.size = n := ⟨_, rfl⟩
    rw [hn2] at V3 Z2 Z3 X3 ⊢
    clear S2 W2 T2 V2 HW2 hn2
    obtain ⟨RC, HRC⟩ : ∃ R, Hid (takesR [41] (ts.drop p2) = R) := ⟨_, rfl⟩
    have EC := Lib.hid (eat_takes HRC.out)
    refine (must_is b v ts p2 [41] RC HRC.out _ S3.out).mono ?_
    rintro e m4 ⟨hh, ⟨rfl, rfl, s4⟩ | ⟨rfl, rfl⟩⟩
    rotate_left
    · have HN := Lib.hid (show res = none by rw [← HA.out]; unfold groupP; rw [R2.out]; simp only; rw [EC.out]; rfl)
      have HW := Lib.hid (W3.out.trans hh)
      clear hh
      go_wp2
      exact ⟨rfl, HW.out, .inr ⟨HN.out, rfl⟩⟩
    have h4 := hh
    clear hh
    have HN : Hid (res = some (x2, ts.drop (p2 + 1))) := Lib.hid (by rw [← HA.out]; unfold groupP; rw [R2.out]; simp only; rw [EC.out]; rfl)
    have rx := range_wr5 X3.out h4 (by have := Z1.out; have := Z2.out; omega)
    have S5 := Lib.hid s4
    have W5 := Lib.hid (W3.out.trans h4)
    have T5 := Lib.hid (there_wr T3.out h4 (by omega))
    have V5 : Hid (EVA m4 (w.heap.size + 1) m4.heap.size x2.l u2) := Lib.hid ((V3.out.wr h4 (by have := Z1.out; omega)).wide (by have := Z1.out; omega) (by have := Z3.out; have := h4.size; omega))
    have LL : Hid (p ≤ p2 + 1) := Lib.hid (by have := L2.out; omega)
    clear s4 h4 S3 W3 T3 V3 X3 HRC EC R2 HA
    go_wp2_with (first | (refine wpList_load_mid rfl 33 _ rfl n2 0 rfl _ _ rx Tryz.underlying33 rfl sizeIE2 ?_) | (refine store_abs rfl 33 _ _ rfl w.heap.size 0 (xcells (x2) (u2)).toArray rfl rfl T5.out sizeIE2 (oneX (x2) (u2) V5.out.isOne) ?_; intro W9 hW9))
    have HF := PostI.close (p := p) hbN T5.out V5.out (by omega) S5.out W5.out LL.out HN.out hW9
    have hlv := run_loadVar_mid W9 w.heap.size 0 _ _ _ HF.2 Tryz.underlying33 rfl sizeIE2
    refine bodyPost_ret (v := .agg (xcells (x2) (u2)).toArray) ?_ rfl HF.1
    simp [results, Tryz.results200, asAddr, hlv, Act.put]
    try rfl
  | false =>
    have S1 : Hid (RdI b v ts p m1) := Lib.hid s1
    clear s1 h1
    obtain ⟨R2, HR2⟩ : ∃ R, Hid (takesR [109, 105, 110] (ts.drop p) = R) := ⟨_, rfl⟩
    go_wp2_with fail
    refine (takes_is b v ts p [109, 105, 110] R2 HR2.out _ S1.out).mono ?_
    rintro e m2 ⟨rfl, s1, h1⟩
    have W2 := Lib.hid (W1.out.trans h1)
    have T2 := Lib.hid (there_wr T1.out h1 (by omega))
    have Z2 := Lib.hid (Nat.le_trans Z1.out h1.size)
    cases R2 with
    | true =>
      have S2' : Hid (RdI b v ts (p + 1) m2) := Lib.hid s1
      have HA := Lib.hid ((atom_min (sub := sumP d) HG.out HR2.out).symm.trans Hres.out)
      clear s1 h1 HR1 HR2 Hres
      go_wp2_with fail
      refine (choice_of b v ts d around ha ha2 Hih.out 7 (p + 1) _ S2'.out).mono ?_
      rintro e m5 ⟨hh, ⟨x2, u2, p2, r2, rfl, l2, s2, e2⟩ | ⟨r2, rfl⟩⟩
      rotate_left
      · have HN := Lib.hid (show res = none by rw [← HA.out]; exact r2)
        have HW := Lib.hid (W2.out.trans hh)
        clear hh
        go_wp2
        exact ⟨rfl, HW.out, .inr ⟨HN.out, rfl⟩⟩
      have HN : Hid (res = some (x2, ts.drop p2)) := Lib.hid (by rw [← HA.out]; exact r2)
      have S2 := Lib.hid s2
      have W5 := Lib.hid (W2.out.trans hh)
      have T5 := Lib.hid (there_wr T2.out hh (by omega))
      have V2 : Hid (EVA m5 (w.heap.size + 1) m5.heap.size x2.l u2) := Lib.hid (e2.wide (by have := Z2.out; omega) (Nat.le_refl _))
      have LL : Hid (p ≤ p2) := Lib.hid (by omega)
      clear s2 hh e2 l2 r2
      go_wp2_with ((refine store_abs rfl 33 _ _ rfl w.heap.size 0 (xcells (x2) (u2)).toArray rfl rfl T5.out sizeIE2 (oneX (x2) (u2) V2.out.isOne) ?_; intro W9 hW9))
      have HF := PostI.close (p := p) hbN T5.out V2.out (by omega) S2.out W5.out LL.out HN.out hW9
      have hlv := run_loadVar_mid W9 w.heap.size 0 _ _ _ HF.2 Tryz.underlying33 rfl sizeIE2
      refine bodyPost_ret (v := .agg (xcells (x2) (u2)).toArray) ?_ rfl HF.1
      simp [results, Tryz.results200, asAddr, hlv, Act.put]
      try rfl
    | false =>
      have S2 : Hid (RdI b v ts p m2) := Lib.hid s1
      clear s1 h1
      obtain ⟨R3, HR3⟩ : ∃ R, Hid (takesR [109, 97, 120] (ts.drop p) = R) := ⟨_, rfl⟩
      go_wp2_with fail
      refine (takes_is b v ts p [109, 97, 120] R3 HR3.out _ S2.out).mono ?_
      rintro e m3 ⟨rfl, s1, h1⟩
      have W3 := Lib.hid (W2.out.trans h1)
      have T3 := Lib.hid (there_wr T2.out h1 (by omega))
      have Z3 := Lib.hid (Nat.le_trans Z2.out h1.size)
      cases R3 with
      | true =>
        have S3' : Hid (RdI b v ts (p + 1) m3) := Lib.hid s1
        have HA := Lib.hid ((atom_max (sub := sumP d) HG.out HR3.out).symm.trans Hres.out)
        clear s1 h1 HR1 HR2 HR3 Hres S2
        go_wp2_with fail
        refine (choice_of b v ts d around ha ha2 Hih.out 8 (p + 1) _ S3'.out).mono ?_
        rintro e m5 ⟨hh, ⟨x2, u2, p2, r2, rfl, l2, s2, e2⟩ | ⟨r2, rfl⟩⟩
        rotate_left
        · have HN := Lib.hid (show res = none by rw [← HA.out]; exact r2)
          have HW := Lib.hid (W3.out.trans hh)
          clear hh
          go_wp2
          exact ⟨rfl, HW.out, .inr ⟨HN.out, rfl⟩⟩
        have HN : Hid (res = some (x2, ts.drop p2)) := Lib.hid (by rw [← HA.out]; exact r2)
        have S2 := Lib.hid s2
        have W5 := Lib.hid (W3.out.trans hh)
        have T5 := Lib.hid (there_wr T3.out hh (by omega))
        have V2 : Hid (EVA m5 (w.heap.size + 1) m5.heap.size x2.l u2) := Lib.hid (e2.wide (by have := Z3.out; omega) (Nat.le_refl _))
        have LL : Hid (p ≤ p2) := Lib.hid (by omega)
        clear s2 hh e2 l2 r2
        go_wp2_with ((refine store_abs rfl 33 _ _ rfl w.heap.size 0 (xcells (x2) (u2)).toArray rfl rfl T5.out sizeIE2 (oneX (x2) (u2) V2.out.isOne) ?_; intro W9 hW9))
        have HF := PostI.close (p := p) hbN T5.out V2.out (by omega) S2.out W5.out LL.out HN.out hW9
        have hlv := run_loadVar_mid W9 w.heap.size 0 _ _ _ HF.2 Tryz.underlying33 rfl sizeIE2
        refine bodyPost_ret (v := .agg (xcells (x2) (u2)).toArray) ?_ rfl HF.1
        simp [results, Tryz.results200, asAddr, hlv, Act.put]
        try rfl
      | false =>
        have S3 : Hid (RdI b v ts p m3) := Lib.hid s1
        clear s1 h1 S2
        go_wp2_with fail
        refine (next_is b v ts p _ S3.out).mono ?_
        rintro e m4 ⟨hh, ⟨t, ht, rfl, s4⟩ | ⟨hE, rfl⟩⟩
        rotate_left
        · have HN := Lib.hid (show res = none by rw [← Hres.out]; exact atom_end hE)
          have HW := Lib.hid (W3.out.trans hh)
          clear hh
          go_wp2
          exact ⟨rfl, HW.out, .inr ⟨HN.out, rfl⟩⟩
        have HT := Lib.hid ht
        have S4 := Lib.hid s4
        have W4 := Lib.hid (W3.out.trans hh)
        have T4 := Lib.hid (there_wr T3.out hh (by omega))
        have Z4 := Lib.hid (Nat.le_trans Z3.out hh.size)
        clear ht s4 hh S3 W3 T3
        by_cases k2 : t.k = 2
        · have HN : Hid (res = some (numX t.n, ts.drop (p + 1))) := Lib.hid (by rw [← Hres.out]; exact atom_num HT.out k2)
          have hk2 : (t.k == 2) = true := by simp [k2]
          clear k2 Hres HR1 HR2 HR3 HT
          go_wp2_with (first | (refine store_abs rfl 86 _ _ rfl m4.heap.size 0 (tcells t).toArray rfl rfl (newthereT m4 _) sizeTk (oneTk t) ?_; intro W hW; have HWT := Lib.hid (newblkT t hW); clear hW; have q0 : W.cell? ⟨m4.heap.size, 0, Option.none⟩ = some (.int .i64 t.k) := HWT.out.1 0 _ rfl; have q1 : W.cell? ⟨m4.heap.size, 1, Option.none⟩ = some (.string (bs t.s)) := HWT.out.1 1 _ rfl; have q2 : W.cell? ⟨m4.heap.size, 2, Option.none⟩ = some (.int .i64 t.n) := HWT.out.1 2 _ rfl; have S5 := Lib.hid (S4.out.later HWT.out.2); have W5 := Lib.hid (W4.out.trans (.of_below HWT.out.2)); have T5 := Lib.hid (there_later T4.out HWT.out.2); have Z5 := Lib.hid (Nat.le_trans Z4.out HWT.out.2.size); have V5 := Lib.hid (EVA.nil W (w.heap.size + 1) W.heap.size Option.none 0); clear HWT) | (refine store_abs rfl 33 _ _ rfl w.heap.size 0 (xcells (numX t.n) (.slice Option.none 0 0)).toArray rfl rfl T5.out sizeIE2 (oneX (numX t.n) (.slice Option.none 0 0) V5.out.isOne) ?_; intro W9 hW9))
          have HF := PostI.close (p := p) hbN T5.out V5.out (by omega) S5.out W5.out (Nat.le_succ _) HN.out hW9
          have hlv := run_loadVar_mid W9 w.heap.size 0 _ _ _ HF.2 Tryz.underlying33 rfl sizeIE2
          refine bodyPost_ret (v := .agg (xcells (numX t.n) (.slice Option.none 0 0)).toArray) ?_ rfl HF.1
          simp [results, Tryz.results200, asAddr, hlv, Act.put]
          try rfl
        · have hk2 : (t.k == 2) = false := by simp [k2]
          by_cases k1 : t.k = 1
          · have hk1 : (t.k == 1) = true := by simp [k1]
            have HA := Lib.hid ((atom_name (sub := sumP d) HT.out k2 k1).symm.trans Hres.out)
            clear k1 k2 Hres HR1 HR2 HR3 HT
            go_wp2_with (refine store_abs rfl 86 _ _ rfl m4.heap.size 0 (tcells t).toArray rfl rfl (newthereT m4 _) sizeTk (oneTk t) ?_; intro W hW; have HWT := Lib.hid (newblkT t hW); clear hW; have q0 : W.cell? ⟨m4.heap.size, 0, Option.none⟩ = some (.int .i64 t.k) := HWT.out.1 0 _ rfl; have q1 : W.cell? ⟨m4.heap.size, 1, Option.none⟩ = some (.string (bs t.s)) := HWT.out.1 1 _ rfl; have q2 : W.cell? ⟨m4.heap.size, 2, Option.none⟩ = some (.int .i64 t.n) := HWT.out.1 2 _ rfl; have S5 := Lib.hid (S4.out.later HWT.out.2); have W5 := Lib.hid (W4.out.trans (.of_below HWT.out.2)); have T5 := Lib.hid (there_later T4.out HWT.out.2); have Z5 := Lib.hid (Nat.le_trans Z4.out HWT.out.2.size); have V5 := Lib.hid (EVA.nil W (w.heap.size + 1) W.heap.size Option.none 0); clear HWT)
            refine (named_of b v ts d around ha ha2 Hih.out t.s (p + 1) _ S5.out).mono ?_
            rintro e m6 ⟨hh, ⟨x2, u2, p2, r2, rfl, l2, s2, e2⟩ | ⟨r2, rfl⟩⟩
            rotate_left
            · have HN := Lib.hid (show res = none by rw [← HA.out]; exact r2)
              have HW := Lib.hid (W5.out.trans hh)
              clear hh
              go_wp2
              exact ⟨rfl, HW.out, .inr ⟨HN.out, rfl⟩⟩
            have HN : Hid (res = some (x2, ts.drop p2)) := Lib.hid (by rw [← HA.out]; exact r2)
            have S2 := Lib.hid s2
            have W6 := Lib.hid (W5.out.trans hh)
            have T6 := Lib.hid (there_wr T5.out hh (by omega))
            have V2 : Hid (EVA m6 (w.heap.size + 1) m6.heap.size x2.l u2) := Lib.hid (e2.wide (by have := Z5.out; omega) (Nat.le_refl _))
            have LL : Hid (p ≤ p2) := Lib.hid (by omega)
            clear s2 hh e2 l2 r2
            go_wp2_with ((refine store_abs rfl 33 _ _ rfl w.heap.size 0 (xcells (x2) (u2)).toArray rfl rfl T6.out sizeIE2 (oneX (x2) (u2) V2.out.isOne) ?_; intro W9 hW9))
            have HF := PostI.close (p := p) hbN T6.out V2.out (by omega) S2.out W6.out LL.out HN.out hW9
            have hlv := run_loadVar_mid W9 w.heap.size 0 _ _ _ HF.2 Tryz.underlying33 rfl sizeIE2
            refine bodyPost_ret (v := .agg (xcells (x2) (u2)).toArray) ?_ rfl HF.1
            simp [results, Tryz.results200, asAddr, hlv, Act.put]
            try rfl
          · have hk1 : (t.k == 1) = false := by simp [k1]
            have HN := Lib.hid (show res = none by rw [← Hres.out]; exact atom_no HT.out HR1.out HR2.out HR3.out k2 k1)
            clear k1 k2 Hres HR1 HR2 HR3 HT
            go_wp2_with (refine store_abs rfl 86 _ _ rfl m4.heap.size 0 (tcells t).toArray rfl rfl (newthereT m4 _) sizeTk (oneTk t) ?_; intro W hW; have HWT := Lib.hid (newblkT t hW); clear hW; have q0 : W.cell? ⟨m4.heap.size, 0, Option.none⟩ = some (.int .i64 t.k) := HWT.out.1 0 _ rfl; have q1 : W.cell? ⟨m4.heap.size, 1, Option.none⟩ = some (.string (bs t.s)) := HWT.out.1 1 _ rfl; have q2 : W.cell? ⟨m4.heap.size, 2, Option.none⟩ = some (.int .i64 t.n) := HWT.out.1 2 _ rfl; have S5 := Lib.hid (S4.out.later HWT.out.2); have W5 := Lib.hid (W4.out.trans (.of_below HWT.out.2)); have T5 := Lib.hid (there_later T4.out HWT.out.2); have Z5 := Lib.hid (Nat.le_trans Z4.out HWT.out.2.size); have V5 := Lib.hid (EVA.nil W (w.heap.size + 1) W.heap.size Option.none 0); clear HWT)
            exact ⟨rfl, W5.out, .inr ⟨HN.out, rfl⟩⟩
end Go.Proofs.YtkhccpjkajhnpaaGreatDoor
/-
  A region that reads a cell which its last operation writes: what reads may be taken first if what it reads stays until it has come up.
-/
namespace Go.Proofs.YtkhccpjkajhnpaaGreatDoor
open Go.RowKit
set_option linter.unusedSimpArgs false
set_option linter.unusedVariables false

section
variable {P : Program} {ops : Array Oper} {Q : Exit → Act → World → Prop} {md : Region.Mode} {S : World → Prop} {i : Nat}
/-- Number j doesn't wait for number i. -/
def freeOf (md : Region.Mode) (ops : Array Oper) (i j : Nat) : Bool :=
  match ops[j]? with
  | some o => o.after.all fun e => !(Region.binds md e && decide (e.on = i))
  | none => true
/-- Whatever order is picked from here on; behind each operation that doesn't wait for number i the condition holds. -/
def wpAnyD (P : Program) (md : Region.Mode) (ops : Array Oper) (Q : Exit → Act → World → Prop) (S : World → Prop) (i : Nat) : Nat → Array Bool → Act → World → Prop
  | 0, listed, a, w => Region.ready md ops listed = [] ∧ Q .normal a w
  | fuel + 1, listed, a, w => (Region.ready md ops listed = [] → Q .normal a w) ∧ ∀ j ∈ Region.ready md ops listed, wpOp P ops Q j (fun a' w' => (freeOf md ops i j = true → S w') ∧ wpAnyD P md ops Q S i fuel (listed.setIfInBounds j true) a' w') a w
theorem wpAny_ofD : ∀ (fuel : Nat) (listed : Array Bool) (a : Act) (w : World), wpAnyD P md ops Q S i fuel listed a w → wpAny P md ops Q fuel listed a w
  | 0, _, _, _, h => h
  | fuel + 1, _, _, _, h => ⟨h.1, fun j hj => wpOp_mono (fun a' w' h' => wpAny_ofD fuel _ a' w' h'.2) (h.2 j hj)⟩
theorem freeOf_of {j : Nat} {oj : Oper} (hj : ops[j]? = some oj) (h : ∀ e ∈ oj.after, Region.binds md e = true → e.on ≠ i) : freeOf md ops i j = true := by
  unfold freeOf
  rw [hj]
  show (oj.after.all fun e => !(Region.binds md e && decide (e.on = i))) = true
  rw [Array.all_eq_true']
  intro e he
  cases hb : Region.binds md e with
  | false => rfl
  | true => have := h e he hb; simp [this]
/-- Of two that may come up now neither waits for the other. -/
theorem up_free {j : Nat} {oj : Oper} {listed : Array Bool} (hj : j ∈ Region.ready md ops listed) (hi : i ∈ Region.ready md ops listed) (ho : ops[j]? = some oj) : ∀ e ∈ oj.after, Region.binds md e = true → e.on ≠ i := by
  obtain ⟨_, o, ho', hw⟩ := mem_ready.1 hj
  obtain ⟨hni, _⟩ := mem_ready.1 hi
  rw [ho] at ho'
  cases ho'
  intro e he hb hei
  have hd := hw e he hb
  rw [hei] at hd
  by_cases hlt : i < listed.size
  · rw [Array.getD_eq_getD_getElem?, Array.getElem?_eq_getElem hlt, Option.getD_some] at hd hni
    rw [hd] at hni
    cases hni
  · rw [Array.getD_eq_getD_getElem?, Array.getElem?_eq_none (by omega)] at hd
    cases hd
/-- What is known of all that have not come up is known when fewer have not. -/
def Aside (md : Region.Mode) (ops : Array Oper) (i : Nat) (oi : Oper) (listed : Array Bool) : Prop :=
  ∀ k ok, ops[k]? = some ok → k ≠ i → listed.getD k true = false → (∀ e ∈ ok.after, Region.binds md e = true → e.on ≠ i) → oi.apart ops ok = true
theorem Aside.more {oi : Oper} {listed : Array Bool} {j : Nat} (h : Aside md ops i oi listed) (hj : listed.getD j true = false) : Aside md ops i oi (listed.setIfInBounds j true) := fun k ok hk hki hu hno => by
  refine h k ok hk hki ?_ hno
  rcases Nat.decEq j k with hne | he
  · rwa [getD_set_ne true hne] at hu
  · rw [← he]; exact hj
theorem wpAny_until {oi : Oper} {v : Value} (hi : ops[i]? = some oi) (hsel : ∀ (j : Nat) (o : Oper) cs b, ops[j]? = some o → o.op ≠ .select cs b)
    (hQ : ∀ c a w, Q (.panic c) (a.put oi.dst v) w → Q (.panic c) a w) : ∀ (fuel : Nat) (listed : Array Bool) (a : Act) (w : World), Aside md ops i oi listed → i ∈ Region.ready md ops listed → YieldsIf P ops S oi v a → S w →
      wpAnyD P md ops Q S i fuel (listed.setIfInBounds i true) (a.put oi.dst v) w → wpAny P md ops Q (fuel + 1) listed a w
  | 0, listed, a, w, _, hr, hy, hS, H => by
    refine ⟨fun h => (by rw [h] at hr; cases hr), fun j hj => ?_⟩
    rcases Nat.decEq j i with hne | he
    · have h1 := ready_mono hj hne
      rw [H.1] at h1
      cases h1
    · rw [he]; exact hy.wpOp hi hS H
  | fuel + 1, listed, a, w, hA, hr, hy, hS, H => by
    refine ⟨fun h => (by rw [h] at hr; cases hr), fun j hj => ?_⟩
    rcases Nat.decEq j i with hne | he
    · obtain ⟨hju, oj, hoj, _⟩ := mem_ready.1 hj
      have hno := up_free hj hr hoj
      refine wpOp_mono (fun a' w' h => wpAny_until hi hsel hQ fuel (listed.setIfInBounds j true) a' w' (hA.more hju) (ready_mono hr (Ne.symm hne)) h.1 (h.2.1 (freeOf_of hoj hno)) ?_) (wpOp_putIf hoj (hA j oj hoj hne hju hno) (fun cs b => hsel i oi cs b hi) (fun cs b => hsel j oj cs b hoj) hQ hy (H.2 j (ready_mono hj hne)))
      rw [Array.setIfInBounds_comm _ _ hne]
      exact h.2.2
    · rw [he]; exact hy.wpOp hi hS (wpAny_ofD _ _ _ _ H)
theorem wpAny_till {oi : Oper} {v : Value} {fuel : Nat} {listed : Array Bool} {a : Act} {w : World} (S : World → Prop) (hi : ops[i]? = some oi)
    (hs : Region.noSelect ops = true) (hf : Region.free md ops listed i = true) (hr : (Region.ready md ops listed).contains i = true)
    (hQ : ∀ c a w, Q (.panic c) (a.put oi.dst v) w → Q (.panic c) a w) (hy : YieldsIf P ops S oi v a) (hS : S w)
    (h : S w → wpAnyD P md ops Q S i fuel (listed.setIfInBounds i true) (a.put oi.dst v) w) : wpAny P md ops Q (fuel + 1) listed a w :=
  wpAny_until hi (Region.noSelect_spec hs) hQ fuel listed a w (Region.free_spec hi hf) (by simpa using hr) hy hS (h hS)
def AllReadyD (P : Program) (md : Region.Mode) (ops : Array Oper) (Q : Exit → Act → World → Prop) (S : World → Prop) (i : Nat) (fuel : Nat) (listed : Array Bool) (a : Act) (w : World) (rs : List Nat) : Prop :=
  ∀ j ∈ rs, wpOp P ops Q j (fun a' w' => (freeOf md ops i j = true → S w') ∧ wpAnyD P md ops Q S i fuel (listed.setIfInBounds j true) a' w') a w
theorem AllReadyD.nil {fuel : Nat} {listed : Array Bool} {a : Act} {w : World} : AllReadyD P md ops Q S i fuel listed a w [] := fun _ h => by cases h
theorem AllReadyD.cons {fuel : Nat} {listed : Array Bool} {a : Act} {w : World} {j : Nat} {o : Oper} {rs : List Nat} (ho : ops[j]? = some o)
    (h : ∀ K' : Act → World → Prop, Shut (∀ a w, (freeOf md ops i j = true → S w) → wpAnyD P md ops Q S i fuel (listed.setIfInBounds j true) a w → K' a w) → if Region.wanted o (yielded ops a.tmps) = true then Oper.wp P o a w K' Q else K' (a.put o.dst undef) w)
    (hs : AllReadyD P md ops Q S i fuel listed a w rs) : AllReadyD P md ops Q S i fuel listed a w (j :: rs) := fun k hk => by
  rcases List.mem_cons.1 hk with rfl | hk
  · exact wpOp_step ho (fun K' hK => h K' (fun a w hS hW => hK a w ⟨hS, hW⟩))
  · exact hs k hk
theorem wpAnyD_ready {rs : List Nat} {fuel : Nat} {listed : Array Bool} {a : Act} {w : World} (hr : Region.ready md ops listed = rs) (hne : rs ≠ [])
    (h : AllReadyD P md ops Q S i fuel listed a w rs) : wpAnyD P md ops Q S i (fuel + 1) listed a w := ⟨fun h0 => absurd (hr ▸ h0) hne, hr ▸ h⟩
theorem wpAnyD_done {listed : Array Bool} {a : Act} {w : World} (hr : Region.ready md ops listed = []) (h : Q .normal a w) :
    ∀ fuel, wpAnyD P md ops Q S i fuel listed a w
  | 0 => ⟨hr, h⟩
  | _ + 1 => ⟨fun _ => h, by rw [hr]; simp⟩
theorem region_drew {id : Nat} {a : Act} {w : World} (hm : P.follows .mixedOrders = true) (h : ∀ wd, wd = w.drew → wpAny P .any ops Q ops.size (Array.replicate ops.size false) a wd) : (Code.region id ops true).wp P Q a w := wp_region_any hm (h _ rfl)
/-- What waits for number i owes nothing. -/
theorem waitsN {j : Nat} (h : freeOf md ops i j = false) : ¬ freeOf md ops i j = true := fun e => by rw [h] at e; cases e
theorem waitsD {j : Nat} {w : World} (h : freeOf md ops i j = false) : freeOf md ops i j = true → S w := fun e => by rw [h] at e; cases e
end
end Go.Proofs.YtkhccpjkajhnpaaGreatDoor
